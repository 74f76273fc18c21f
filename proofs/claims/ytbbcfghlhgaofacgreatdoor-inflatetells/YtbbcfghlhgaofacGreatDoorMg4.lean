/- Walks of the document's own look at lengths, and of the statements' small helpers. Numbers appended to a row of one's own. -/
import Derived.Test.YtbbcfghlhgaofacGreatDoorMg2
import Derived.Test.YtbbcfghlhgaofacGreatDoorMg3
import Derived.WalkLawsBesides
import Derived.WalkSpells
import Derived.Handy
import Derived.Laws.BitsAllLaws
import Derived.Laws.Shifts
import Derived.Deep.LoopGhost
import Derived.Deep.WholeRow
import Derived.Deep.AppendLies
import Derived.BigRegion
import Derived.Laws.ResultCell
import Derived.Deep.OwnRows
import Derived.Maps.AppendAt
namespace Go.Proofs.YtbbcfghlhgaofacGreatDoor
open Go.RowKit Pm Cn

/-- How many have a word; how many one of 1 bit. -/
def cnt (l : Nat → Nat) (n : Nat) : Nat := upto (fun j => if 0 < l j then 1 else 0) n
def ones (l : Nat → Nat) (n : Nat) : Nat := upto (fun j => if l j = 1 then 1 else 0) n
/-- Lengths that are right. -/
def Right (l : Nat → Nat) (n : Nat) : Prop := cnt l n = 0 ∨ (cnt l n = 1 ∧ ones l n = 1) ∨ all l n = 32768
def Bad (z : Nat → Int) (n : Nat) : Prop := 300 < n ∨ ∃ i, i < n ∧ (z i < 0 ∨ 15 < z i)
def nat (z : Nat → Int) (i : Nat) : Nat := (z i).toNat
open Classical in
noncomputable def vc (z : Nat → Int) (n : Nat) : Int := if Bad z n then 2 else if Right (nat z) n then 0 else 3

theorem vc_bad {z : Nat → Int} {n : Nat} (h : Bad z n) : vc z n = 2 := by unfold vc; rw [if_pos h]
theorem vc_right {z : Nat → Int} {n : Nat} (h : ¬ Bad z n) (h2 : Right (nat z) n) : vc z n = 0 := by unfold vc; rw [if_neg h, if_pos h2]
theorem vc_wrong {z : Nat → Int} {n : Nat} (h : ¬ Bad z n) (h2 : ¬ Right (nat z) n) : vc z n = 3 := by unfold vc; rw [if_neg h, if_neg h2]

theorem cnt_le (l : Nat → Nat) (n : Nat) : cnt l n ≤ n := by
  unfold cnt
  induction n with
  | zero => exact Nat.le_refl _
  | succ n ih => simp only [upto]; split <;> omega
theorem ones_le (l : Nat → Nat) (n : Nat) : ones l n ≤ n := by
  unfold ones
  induction n with
  | zero => exact Nat.le_refl _
  | succ n ih => simp only [upto]; split <;> omega
theorem all_le (l : Nat → Nat) (n : Nat) : all l n ≤ 16384 * n := by
  unfold all
  induction n with
  | zero => exact Nat.le_refl _
  | succ n ih =>
    simp only [upto]
    split
    · have := Nat.pow_le_pow_right (n := 2) (i := 15 - l n) (j := 14) (by omega) (by omega)
      omega
    · omega
theorem cnt_succ (l : Nat → Nat) (n : Nat) : cnt l (n + 1) = (if 0 < l n then 1 else 0) + cnt l n := rfl
theorem ones_succ (l : Nat → Nat) (n : Nat) : ones l (n + 1) = (if l n = 1 then 1 else 0) + ones l n := rfl
theorem all_succ (l : Nat → Nat) (n : Nat) : all l (n + 1) = (if 0 < l n then 2 ^ (15 - l n) else 0) + all l n := rfl

set_option maxHeartbeats 2000000 in
set_option maxRecDepth 100000 in
theorem validCode_any (ao : Option Addr) (len cap : Nat) (z : Nat → Int) (w : World) (hP : IsInts w ao len z) (hlen : len ≤ 100000) :
    Calls Tryz.prog 65 #[.slice ao len cap] w fun e w' => e = .returned (.int .i64 (vc z len)) ∧ w' = w := by
  by_cases hl : 300 < len
  · have hd : decide ((300 : Int) < (len : Int)) = true := by simp; omega
    have hv := hide (vc_bad (z := z) (n := len) (.inl hl))
    clear hP
    go_enter Tryz.func65, Tryz.ntmps65
    go_wp2
    go_ret
    exact ⟨ret_int (unhide hv).symm, rfl⟩
  have hd : decide ((300 : Int) < (len : Int)) = false := by simp; omega
  have HP := hide hP
  clear hP
  go_enter Tryz.func65, Tryz.ntmps65
  go_wp2
  go_loop [2, 3, 4, 5, 6] (fun r s c o i => ∃ k : Nat, k ≤ len ∧ i = .int .i64 k ∧ (∀ j, j < k → ¬ (z j < 0 ∨ 15 < z j)) ∧ s = .int .i64 (all (nat z) k : Nat) ∧ c = .int .i64 (cnt (nat z) k : Nat) ∧ o = .int .i64 (ones (nat z) k : Nat)) (fun _ _ _ _ i => len - (intOf i).toNat)
  case atStart => exact ⟨0, by omega, rfl, fun j hj => by omega, rfl, rfl, rfl⟩
  case round =>
    obtain ⟨k, hk, rfl, hgood, rfl, rfl, rfl⟩ := hrel
    have b1 := cnt_le (nat z) k
    have b2 := ones_le (nat z) k
    have b3 := all_le (nat z) k
    have Hgood := hide hgood
    clear hgood
    by_cases hlt : k < len
    · have hdk : decide ((k : Int) < (len : Int)) = true := by simp; omega
      rcases unhide HP with h0 | ⟨b, off, rfl, hm, hP⟩
      · omega
      obtain ⟨c0, hw1, hw2⟩ := hP k hlt
      clear hP
      have Hc := hide (cnt_succ (nat z) k)
      have Ho := hide (ones_succ (nat z) k)
      have Ha := hide (all_succ (nat z) k)
      have hnat : nat z k = (z k).toNat := rfl
      have Hnat := hide hnat
      clear hnat
      generalize hS : all (nat z) k = S at *
      generalize hC : cnt (nat z) k = C at *
      generalize hO : ones (nat z) k = O at *
      clear hS hC hO
      by_cases hneg : z k < 0
      · have hd1 : decide (z k < 0) = true := by simp; omega
        have hv := hide (vc_bad (z := z) (n := len) (.inr ⟨k, hlt, .inl hneg⟩))
        generalize z k = d at *
        go_wp2
        go_ret
        exact ⟨ret_int (unhide hv).symm, rfl⟩
      have hd1 : decide (z k < 0) = false := by simp; omega
      by_cases hbig : 15 < z k
      · have hd2 : decide (15 < z k) = true := by simp; omega
        have hv := hide (vc_bad (z := z) (n := len) (.inr ⟨k, hlt, .inr hbig⟩))
        generalize z k = d at *
        go_wp2
        go_ret
        exact ⟨ret_int (unhide hv).symm, rfl⟩
      have hd2 : decide (15 < z k) = false := by simp; omega
      have Hnext : Hid (∀ j, j < k + 1 → ¬ (z j < 0 ∨ 15 < z j)) := fun j hj => by
        by_cases e : j = k
        · subst e; omega
        · exact unhide Hgood j (by omega)
      obtain ⟨n, hn⟩ := Int.eq_ofNat_of_zero_le (show 0 ≤ z k by omega)
      rw [hn] at hd1 hd2 c0 hw1 hw2 hneg hbig
      have hnn : nat z k = n := by rw [unhide Hnat, hn]; rfl
      rw [hnn] at Hc Ho Ha
      clear hn hnn Hnat Hgood
      by_cases h0 : n = 0
      · subst h0
        go_wp2
        go_round
        case rel => exact ⟨k + 1, by omega, by go_num, unhide Hnext, by rw [unhide Ha]; simp, by rw [unhide Hc]; simp, by rw [unhide Ho]; simp⟩
        case measure => simp [intOf]; omega
      · have he0 : ((n : Int) == 0) = false := by simp; omega
        obtain ⟨e, he⟩ : ∃ e, e = 15 - n := ⟨_, rfl⟩
        have hei : (15 : Int) - (n : Int) = (e : Int) := by omega
        have hel : e < 15 := by omega
        have hpw : 2 ^ e ≤ 16384 := Nat.pow_le_pow_right (n := 2) (j := 14) (by omega) (by omega)
        have hpi : (2 : Int) ^ e = ((2 ^ e : Nat) : Int) := by simp
        rw [← he, if_pos (by omega)] at Ha
        rw [if_pos (by omega)] at Hc
        generalize 2 ^ e = X at *
        by_cases h1 : n = 1
        · have he1 : ((n : Int) == 1) = true := by simp; omega
          rw [if_pos h1] at Ho
          clear h1 h0 he
          go_wp2
          go_round
          case rel => exact ⟨k + 1, by omega, by go_num, unhide Hnext, by rw [unhide Ha]; go_num, by rw [unhide Hc]; go_num, by rw [unhide Ho]; go_num⟩
          case measure => simp [intOf]; omega
        · have he1 : ((n : Int) == 1) = false := by simp; omega
          rw [if_neg h1] at Ho
          clear h1 h0 he
          go_wp2
          go_round
          case rel => exact ⟨k + 1, by omega, by go_num, unhide Hnext, by rw [unhide Ha]; go_num, by rw [unhide Hc]; go_num, by rw [unhide Ho]; go_num⟩
          case measure => simp [intOf]; omega
    · have : k = len := by omega
      subst this
      have hdk : decide ((k : Int) < (k : Int)) = false := by simp
      have hnb : ¬ Bad z k := fun h => by
        rcases h with h | ⟨i, hi, h⟩
        · omega
        · exact unhide Hgood i hi h
      have Hyes : Hid (Right (nat z) k → vc z k = 0) := fun h => vc_right hnb h
      have Hno : Hid (¬ Right (nat z) k → vc z k = 3) := fun h => vc_wrong hnb h
      have HR : Hid (Right (nat z) k ↔ (cnt (nat z) k = 0 ∨ (cnt (nat z) k = 1 ∧ ones (nat z) k = 1) ∨ all (nat z) k = 32768)) := Iff.rfl
      generalize all (nat z) k = S at *
      generalize cnt (nat z) k = C at *
      generalize ones (nat z) k = O at *
      clear hnb Hgood
      by_cases h0 : C = 0
      · have hv := hide (unhide Hyes ((unhide HR).2 (.inl h0)))
        subst h0
        go_wp2
        go_ret
        exact ⟨ret_int (unhide hv).symm, rfl⟩
      have e0 : ((C : Int) == 0) = false := by simp; omega
      by_cases h1 : C = 1 ∧ O = 1
      · have hv := hide (unhide Hyes ((unhide HR).2 (.inr (.inl h1))))
        obtain ⟨rfl, rfl⟩ := h1
        go_wp2
        go_ret
        exact ⟨ret_int (unhide hv).symm, rfl⟩
      by_cases h2 : S = 32768
      · have hv := hide (unhide Hyes ((unhide HR).2 (.inr (.inr h2))))
        have e2 : ((S : Int) == 32768) = true := by simp; omega
        by_cases h3 : C = 1
        · have e1 : ((C : Int) == 1) = true := by simp; omega
          have e3 : ((O : Int) == 1) = false := by simp; omega
          clear h2 h3
          go_wp2
          go_ret
          exact ⟨ret_int (unhide hv).symm, rfl⟩
        · have e1 : ((C : Int) == 1) = false := by simp; omega
          clear h2 h3
          go_wp2
          go_ret
          exact ⟨ret_int (unhide hv).symm, rfl⟩
      · have hv := hide (unhide Hno (fun h => by rcases (unhide HR).1 h with h | h | h; exact h0 h; exact h1 h; exact h2 h))
        have e2 : ((S : Int) == 32768) = false := by simp; omega
        by_cases h3 : C = 1
        · have e1 : ((C : Int) == 1) = true := by simp; omega
          have e3 : ((O : Int) == 1) = false := by simp; omega
          clear h2 h3
          go_wp2
          go_ret
          exact ⟨ret_int (unhide hv).symm, rfl⟩
        · have e1 : ((C : Int) == 1) = false := by simp; omega
          clear h2 h3
          go_wp2
          go_ret
          exact ⟨ret_int (unhide hv).symm, rfl⟩

theorem info_i64 : (Tryz.prog.info? 3).map (fun i => (i.zero, i.size, i.bytes)) = some (some (.int .i64 0), 1, 8) := by kernel_rfl

/-- Numbers as cells. -/
def intVals (z : Nat → Int) (n : Nat) : List Value := (List.range n).map fun i => .int .i64 (z i)
theorem intVals_length (z : Nat → Int) (n : Nat) : (intVals z n).length = n := by simp [intVals]
theorem intVals_at (z : Nat → Int) (n i : Nat) (h : i < n) : (intVals z n)[i]? = some (.int .i64 (z i)) := by simp [intVals, List.getElem?_range h]

/-- Numbers that the call owns are numbers that can be read. -/
theorem ints_own {w : World} {base n : Nat} {v : Value} {z : Nat → Int} (h : w.ownsRow base 3 1 v n (intVals z n)) (hz : ∀ i, i < n → -9223372036854775808 ≤ z i ∧ z i ≤ 9223372036854775807) :
    ∃ a cap, v = .slice a n cap ∧ IsInts w a n z := by
  rcases h.2 with ⟨rfl, rfl⟩ | ⟨g, cap, cur, rfl, hb, hg, hn, hm, _⟩
  · exact ⟨none, 0, rfl, .inl rfl⟩
  · refine ⟨some ⟨g, 0, none⟩, cap, rfl, .inr ⟨g, 0, rfl, by omega, fun i hi => ⟨?_, hz i hi⟩⟩⟩
    rw [Nat.zero_add, h.cellAt i (by omega), intVals_at _ _ _ hi]

theorem copy_none (w : World) (ao : Option Addr) (cap : Nat) : (Builtin.append_ #[27, 27] 27 #[.slice none 0 0, .slice ao 0 cap]).run Tryz.prog w = .ok (.slice none 0 0) w := by
  cases ao <;> kernel_rfl

/-- An append whose answer is known, and that makes nothing. -/
theorem wpList_append_eq (w : World) {ops : Array Oper} {rest : List Oper} {o : Oper} {a : Act} {Q : Exit → Act → World → Prop} (hgd : o.guard = none) (s x : Operand) (t : TypeId)
    (ho : o.op = .call { callee := .builtin .append, args := #[s, x], argTypes := #[t, t] }) (v u r : Value) (hs : a.eval s = v) (hx : a.eval x = u)
    (hr : (Builtin.append_ #[t, t] o.type #[v, u]).run Tryz.prog w = .ok r w) (h : wpList Tryz.prog ops Q rest (a.put o.dst r) w) : wpList Tryz.prog ops Q (o :: rest) a w :=
  wpList_plain hgd fun _ hK => by
    unfold Oper.wp execOp
    simp only [ho, resolve, invoke, builtin, Sem.run_bind, Sem.run_pure, Result.andThen_ok, List.map_toArray, List.map_cons, List.map_nil, hs, hx, hr]
    exact hK _ _ h

end Go.Proofs.YtbbcfghlhgaofacGreatDoor
namespace Go.Proofs.YtbbcfghlhgaofacGreatDoor
open Go.RowKit

/-- Numbers as cells. -/
def natVals (F : List Nat) : List Value := F.map fun (x : Nat) => .int .i64 (x : Int)
theorem natVals_length (F : List Nat) : (natVals F).length = F.length := by simp [natVals]
theorem natVals_at (F : List Nat) (j : Nat) : (natVals F)[j]? = F[j]?.map fun (x : Nat) => .int .i64 (x : Int) := by simp [natVals]
theorem natVals_append (F G : List Nat) : natVals (F ++ G) = natVals F ++ natVals G := by simp [natVals]
theorem natVals_one (F : List Nat) : ∀ u ∈ natVals F, u.oneCell' = true := fun u hu => by
  obtain ⟨i, _, rfl⟩ := List.mem_map.1 hu
  rfl

/-- What is appended: nothing, or numbers that stand somewhere. -/
def SrcI (w : World) (u : Value) (G : List Nat) : Prop := (u = .slice none 0 0 ∧ G = []) ∨ ∃ ad c, u = .slice (some ad) G.length c ∧ ∀ j v, (natVals G)[j]? = some v → w.cell? (ad.add j) = some v

theorem wpList_app_ints (w : World) {ops : Array Oper} {rest : List Oper} {o : Oper} {a : Act} {Q : Exit → Act → World → Prop} (hgd : o.guard = none) (s x : Operand)
    (ho : o.op = .call { callee := .builtin .append, args := #[s, x], argTypes := #[27, 27] }) (base : Nat) (v u : Value) (F G : List Nat) (hs : a.eval s = v) (hx : a.eval x = u)
    (hown : w.ownsRow base 3 1 v F.length (natVals F)) (hsrc : SrcI w u G) (hlen : F.length + G.length ≤ 1000000) (hbase : base ≤ w.heap.size)
    (h : ∀ v' w', w'.ownsRow base 3 1 v' (F ++ G).length (natVals (F ++ G)) → w.grownBy w' v.ownBlock → (v'.ownBlock = v.ownBlock ∨ v'.ownBlock = some w.heap.size) → wpList Tryz.prog ops Q rest (a.put o.dst v') w') : wpList Tryz.prog ops Q (o :: rest) a w := by
  obtain ⟨i0, hi, hz0, hz1, hz2⟩ := info_parts info_i64
  have key : ∃ v' w', (Builtin.append_ #[27, 27] o.type #[v, u]).run Tryz.prog w = .ok v' w' ∧ w'.ownsRow base 3 1 v' (F ++ G).length (natVals (F ++ G)) ∧ w.grownBy w' v.ownBlock ∧ (v'.ownBlock = v.ownBlock ∨ v'.ownBlock = some w.heap.size) := by
    rcases hsrc with ⟨rfl, rfl⟩ | ⟨ad, c, rfl, hc⟩
    · refine ⟨v, w, run_append_owned_none w base 27 o.type 3 i0 1 Tryz.underlying27 hi v _ _ hown, by rw [List.append_nil]; exact hown, ⟨rfl, rfl, rfl, Nat.le_refl _, fun _ _ _ => rfl⟩, .inl rfl⟩
    · obtain ⟨v', w', h1, h2, h3, h4, h5⟩ := run_append_own_at (P := Tryz.prog) w base 27 o.type 3 i0 (.int .i64 0) 1 8 Tryz.underlying27 hi hz0 hz1 hz2 rfl (by omega) v F.length (natVals F) hown ad G.length c (natVals G) (by rw [natVals_length, Nat.mul_one]) hc (natVals_one G) (by unfold maxLen; omega) (by omega) hbase
      exact ⟨v', w', h1, by rw [natVals_append, List.length_append]; exact h2, h3, h5⟩
  obtain ⟨v', w', h1, h2, h3, h4⟩ := key
  refine wpList_plain hgd fun _ hK => ?_
  unfold Oper.wp execOp
  simp only [ho, resolve, invoke, builtin, Sem.run_bind, Sem.run_pure, Result.andThen_ok, List.map_toArray, List.map_cons, List.map_nil, hs, hx, h1]
  exact hK _ _ (h v' w' h2 h3 h4)

theorem own_below {w w' : World} {B n : Nat} {e : TypeId} {k : Nat} {v : Value} {xs : List Value} (h : w.ownsRow B e k v n xs) (hb : Below w.heap.size w w') : w'.ownsRow B e k v n xs := by
  refine h.kept (row := none) ⟨hb.os, hb.tape, hb.output, hb.size, fun k hk _ => hb.block k hk⟩ ?_
  cases v.ownBlock with
  | none => exact .inl rfl
  | some k => exact .inr (by simp)
theorem own_fix {w : World} {base n : Nat} {v : Value} {G : List Nat} (h : w.ownsRow base 3 1 v n (natVals G)) : w.ownsRow base 3 1 v G.length (natVals G) := by
  have e := h.1
  rw [natVals_length, Nat.mul_one] at e
  rw [e]; exact h
theorem own_cell {w : World} {base g cap : Nat} {F : List Nat} (h : w.ownsRow base 3 1 (.slice (some ⟨g, 0, none⟩) F.length cap) F.length (natVals F)) (j : Nat) (hj : j < F.length) : w.cell? ⟨g, j, none⟩ = some (.int .i64 (F[j] : Nat)) := by
  rw [h.cellAt j (by omega), natVals_at, List.getElem?_eq_getElem hj]
  rfl

theorem src_take {w : World} {base g cap : Nat} {F : List Nat} (h : w.ownsRow base 3 1 (.slice (some ⟨g, 0, none⟩) F.length cap) F.length (natVals F)) (k c : Nat) (hk : k ≤ F.length) : SrcI w (.slice (some ⟨g, 0, none⟩) k c) (F.take k) := by
  refine .inr ⟨⟨g, 0, none⟩, c, by rw [List.length_take, Nat.min_eq_left hk], fun j v hj => ?_⟩
  rw [natVals_at] at hj
  by_cases hjk : j < k
  · rw [List.getElem?_take_of_lt hjk, List.getElem?_eq_getElem (by omega)] at hj
    rw [addr_add, Nat.zero_add, own_cell h j (by omega), ← hj]
    rfl
  · rw [List.getElem?_eq_none (by rw [List.length_take]; omega)] at hj
    cases hj
theorem src_drop {w : World} {base g cap : Nat} {F : List Nat} (h : w.ownsRow base 3 1 (.slice (some ⟨g, 0, none⟩) F.length cap) F.length (natVals F)) (k c : Nat) : SrcI w (.slice (some ⟨g, k, none⟩) (F.length - k) c) (F.drop k) := by
  refine .inr ⟨⟨g, k, none⟩, c, by rw [List.length_drop], fun j v hj => ?_⟩
  rw [natVals_at, List.getElem?_drop] at hj
  by_cases hjk : k + j < F.length
  · rw [List.getElem?_eq_getElem hjk] at hj
    rw [addr_add, own_cell h (k + j) hjk, ← hj]
    rfl
  · rw [List.getElem?_eq_none (by omega)] at hj
    cases hj
theorem src_end (w : World) (ad : Addr) (F : List Nat) (k c : Nat) (h : F.length ≤ k) : SrcI w (.slice (some ad) 0 c) (F.drop k) := by
  have e : (F.drop k).length = 0 := by rw [List.length_drop]; omega
  refine .inr ⟨ad, c, by rw [e], fun j v hj => ?_⟩
  rw [natVals_at, List.getElem?_eq_none (by omega)] at hj
  cases hj
theorem src_one {w : World} {h c : Nat} (hc : w.cell? ⟨h, 0, none⟩ = some (.int .i64 (c : Int))) : SrcI w (.slice (some ⟨h, 0, none⟩) 1 1) [c] := by
  refine .inr ⟨⟨h, 0, none⟩, 1, rfl, fun j v hj => ?_⟩
  cases j with
  | zero =>
    have : v = .int .i64 (c : Int) := by simpa [natVals] using hj.symm
    rw [addr_add, Nat.zero_add, hc, this]
  | succ j => simp [natVals] at hj
end Go.Proofs.YtbbcfghlhgaofacGreatDoor
