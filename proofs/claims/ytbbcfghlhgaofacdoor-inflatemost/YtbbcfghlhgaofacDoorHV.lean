/- Walks of the document's own look at lengths, and of the statements' small helpers. -/
import Derived.Test.YtbbcfghlhgaofacDoorMg1
import Derived.Test.YtbbcfghlhgaofacDoorCn
import Derived.WalkLawsBesides
import Derived.WalkSpells
import Derived.Handy
import Derived.Laws.BitsAllLaws
import Derived.Laws.Shifts
import Derived.Deep.LoopGhost
import Derived.Deep.WholeRow
import Derived.Deep.AppendLies
import Derived.BigRegion
import Derived.Laws.ResultCell
namespace Go.Proofs.YtbbcfghlhgaofacDoor
open Go.RowKit Pm Cn

/-- How many have a word; how many one of 1 bit. -/
def cnt (l : Nat → Nat) (n : Nat) : Nat := upto (fun j => if 0 < l j then 1 else 0) n
def ones (l : Nat → Nat) (n : Nat) : Nat := upto (fun j => if l j = 1 then 1 else 0) n
/-- Lengths that are right. -/
def Right (l : Nat → Nat) (n : Nat) : Prop := cnt l n = 0 ∨ (cnt l n = 1 ∧ ones l n = 1) ∨ all l n = 32768
def Bad (z : Nat → Int) (n : Nat) : Prop := 300 < n ∨ ∃ i, i < n ∧ (z i < 0 ∨ 15 < z i)
def nat (z : Nat → Int) (i : Nat) : Nat := (z i).toNat
open Classical in
noncomputable def vc (z : Nat → Int) (n : Nat) : Int := if Bad z n then 2 else if Right (nat z) n then 0 else 3

theorem vc_bad {z : Nat → Int} {n : Nat} (h : Bad z n) : vc z n = 2 := by unfold vc; rw [if_pos h]
theorem vc_right {z : Nat → Int} {n : Nat} (h : ¬ Bad z n) (h2 : Right (nat z) n) : vc z n = 0 := by unfold vc; rw [if_neg h, if_pos h2]
theorem vc_wrong {z : Nat → Int} {n : Nat} (h : ¬ Bad z n) (h2 : ¬ Right (nat z) n) : vc z n = 3 := by unfold vc; rw [if_neg h, if_neg h2]

theorem cnt_le (l : Nat → Nat) (n : Nat) : cnt l n ≤ n := by
  unfold cnt
  induction n with
  | zero => exact Nat.le_refl _
  | succ n ih => simp only [upto]; split <;> omega
theorem ones_le (l : Nat → Nat) (n : Nat) : ones l n ≤ n := by
  unfold ones
  induction n with
  | zero => exact Nat.le_refl _
  | succ n ih => simp only [upto]; split <;> omega
theorem all_le (l : Nat → Nat) (n : Nat) : all l n ≤ 16384 * n := by
  unfold all
  induction n with
  | zero => exact Nat.le_refl _
  | succ n ih =>
    simp only [upto]
    split
    · have := Nat.pow_le_pow_right (n := 2) (i := 15 - l n) (j := 14) (by omega) (by omega)
      omega
    · omega
theorem cnt_succ (l : Nat → Nat) (n : Nat) : cnt l (n + 1) = (if 0 < l n then 1 else 0) + cnt l n := rfl
theorem ones_succ (l : Nat → Nat) (n : Nat) : ones l (n + 1) = (if l n = 1 then 1 else 0) + ones l n := rfl
theorem all_succ (l : Nat → Nat) (n : Nat) : all l (n + 1) = (if 0 < l n then 2 ^ (15 - l n) else 0) + all l n := rfl

set_option maxHeartbeats 2000000 in
set_option maxRecDepth 100000 in
theorem validCode_any (ao : Option Addr) (len cap : Nat) (z : Nat → Int) (w : World) (hP : IsInts w ao len z) (hlen : len ≤ 100000) :
    Calls Tryd.prog 12 #[.slice ao len cap] w fun e w' => e = .returned (.int .i64 (vc z len)) ∧ w' = w := by
  by_cases hl : 300 < len
  · have hd : decide ((300 : Int) < (len : Int)) = true := by simp; omega
    have hv := hide (vc_bad (z := z) (n := len) (.inl hl))
    clear hP
    go_enter Tryd.func12, Tryd.ntmps12
    go_wp2
    go_ret
    exact ⟨ret_int (unhide hv).symm, rfl⟩
  have hd : decide ((300 : Int) < (len : Int)) = false := by simp; omega
  have HP := hide hP
  clear hP
  go_enter Tryd.func12, Tryd.ntmps12
  go_wp2
  go_loop [2, 3, 4, 5, 6] (fun r s c o i => ∃ k : Nat, k ≤ len ∧ i = .int .i64 k ∧ (∀ j, j < k → ¬ (z j < 0 ∨ 15 < z j)) ∧ s = .int .i64 (all (nat z) k : Nat) ∧ c = .int .i64 (cnt (nat z) k : Nat) ∧ o = .int .i64 (ones (nat z) k : Nat)) (fun _ _ _ _ i => len - (intOf i).toNat)
  case atStart => exact ⟨0, by omega, rfl, fun j hj => by omega, rfl, rfl, rfl⟩
  case round =>
    obtain ⟨k, hk, rfl, hgood, rfl, rfl, rfl⟩ := hrel
    have b1 := cnt_le (nat z) k
    have b2 := ones_le (nat z) k
    have b3 := all_le (nat z) k
    have Hgood := hide hgood
    clear hgood
    by_cases hlt : k < len
    · have hdk : decide ((k : Int) < (len : Int)) = true := by simp; omega
      rcases unhide HP with h0 | ⟨b, off, rfl, hm, hP⟩
      · omega
      obtain ⟨c0, hw1, hw2⟩ := hP k hlt
      clear hP
      have Hc := hide (cnt_succ (nat z) k)
      have Ho := hide (ones_succ (nat z) k)
      have Ha := hide (all_succ (nat z) k)
      have hnat : nat z k = (z k).toNat := rfl
      have Hnat := hide hnat
      clear hnat
      generalize hS : all (nat z) k = S at *
      generalize hC : cnt (nat z) k = C at *
      generalize hO : ones (nat z) k = O at *
      clear hS hC hO
      by_cases hneg : z k < 0
      · have hd1 : decide (z k < 0) = true := by simp; omega
        have hv := hide (vc_bad (z := z) (n := len) (.inr ⟨k, hlt, .inl hneg⟩))
        generalize z k = d at *
        go_wp2
        go_ret
        exact ⟨ret_int (unhide hv).symm, rfl⟩
      have hd1 : decide (z k < 0) = false := by simp; omega
      by_cases hbig : 15 < z k
      · have hd2 : decide (15 < z k) = true := by simp; omega
        have hv := hide (vc_bad (z := z) (n := len) (.inr ⟨k, hlt, .inr hbig⟩))
        generalize z k = d at *
        go_wp2
        go_ret
        exact ⟨ret_int (unhide hv).symm, rfl⟩
      have hd2 : decide (15 < z k) = false := by simp; omega
      have Hnext : Hid (∀ j, j < k + 1 → ¬ (z j < 0 ∨ 15 < z j)) := fun j hj => by
        by_cases e : j = k
        · subst e; omega
        · exact unhide Hgood j (by omega)
      obtain ⟨n, hn⟩ := Int.eq_ofNat_of_zero_le (show 0 ≤ z k by omega)
      rw [hn] at hd1 hd2 c0 hw1 hw2 hneg hbig
      have hnn : nat z k = n := by rw [unhide Hnat, hn]; rfl
      rw [hnn] at Hc Ho Ha
      clear hn hnn Hnat Hgood
      by_cases h0 : n = 0
      · subst h0
        go_wp2
        go_round
        case rel => exact ⟨k + 1, by omega, by go_num, unhide Hnext, by rw [unhide Ha]; simp, by rw [unhide Hc]; simp, by rw [unhide Ho]; simp⟩
        case measure => simp [intOf]; omega
      · have he0 : ((n : Int) == 0) = false := by simp; omega
        obtain ⟨e, he⟩ : ∃ e, e = 15 - n := ⟨_, rfl⟩
        have hei : (15 : Int) - (n : Int) = (e : Int) := by omega
        have hel : e < 15 := by omega
        have hpw : 2 ^ e ≤ 16384 := Nat.pow_le_pow_right (n := 2) (j := 14) (by omega) (by omega)
        have hpi : (2 : Int) ^ e = ((2 ^ e : Nat) : Int) := by simp
        rw [← he, if_pos (by omega)] at Ha
        rw [if_pos (by omega)] at Hc
        generalize 2 ^ e = X at *
        by_cases h1 : n = 1
        · have he1 : ((n : Int) == 1) = true := by simp; omega
          rw [if_pos h1] at Ho
          clear h1 h0 he
          go_wp2
          go_round
          case rel => exact ⟨k + 1, by omega, by go_num, unhide Hnext, by rw [unhide Ha]; go_num, by rw [unhide Hc]; go_num, by rw [unhide Ho]; go_num⟩
          case measure => simp [intOf]; omega
        · have he1 : ((n : Int) == 1) = false := by simp; omega
          rw [if_neg h1] at Ho
          clear h1 h0 he
          go_wp2
          go_round
          case rel => exact ⟨k + 1, by omega, by go_num, unhide Hnext, by rw [unhide Ha]; go_num, by rw [unhide Hc]; go_num, by rw [unhide Ho]; go_num⟩
          case measure => simp [intOf]; omega
    · have : k = len := by omega
      subst this
      have hdk : decide ((k : Int) < (k : Int)) = false := by simp
      have hnb : ¬ Bad z k := fun h => by
        rcases h with h | ⟨i, hi, h⟩
        · omega
        · exact unhide Hgood i hi h
      have Hyes : Hid (Right (nat z) k → vc z k = 0) := fun h => vc_right hnb h
      have Hno : Hid (¬ Right (nat z) k → vc z k = 3) := fun h => vc_wrong hnb h
      have HR : Hid (Right (nat z) k ↔ (cnt (nat z) k = 0 ∨ (cnt (nat z) k = 1 ∧ ones (nat z) k = 1) ∨ all (nat z) k = 32768)) := Iff.rfl
      generalize all (nat z) k = S at *
      generalize cnt (nat z) k = C at *
      generalize ones (nat z) k = O at *
      clear hnb Hgood
      by_cases h0 : C = 0
      · have hv := hide (unhide Hyes ((unhide HR).2 (.inl h0)))
        subst h0
        go_wp2
        go_ret
        exact ⟨ret_int (unhide hv).symm, rfl⟩
      have e0 : ((C : Int) == 0) = false := by simp; omega
      by_cases h1 : C = 1 ∧ O = 1
      · have hv := hide (unhide Hyes ((unhide HR).2 (.inr (.inl h1))))
        obtain ⟨rfl, rfl⟩ := h1
        go_wp2
        go_ret
        exact ⟨ret_int (unhide hv).symm, rfl⟩
      by_cases h2 : S = 32768
      · have hv := hide (unhide Hyes ((unhide HR).2 (.inr (.inr h2))))
        have e2 : ((S : Int) == 32768) = true := by simp; omega
        by_cases h3 : C = 1
        · have e1 : ((C : Int) == 1) = true := by simp; omega
          have e3 : ((O : Int) == 1) = false := by simp; omega
          clear h2 h3
          go_wp2
          go_ret
          exact ⟨ret_int (unhide hv).symm, rfl⟩
        · have e1 : ((C : Int) == 1) = false := by simp; omega
          clear h2 h3
          go_wp2
          go_ret
          exact ⟨ret_int (unhide hv).symm, rfl⟩
      · have hv := hide (unhide Hno (fun h => by rcases (unhide HR).1 h with h | h | h; exact h0 h; exact h1 h; exact h2 h))
        have e2 : ((S : Int) == 32768) = false := by simp; omega
        by_cases h3 : C = 1
        · have e1 : ((C : Int) == 1) = true := by simp; omega
          have e3 : ((O : Int) == 1) = false := by simp; omega
          clear h2 h3
          go_wp2
          go_ret
          exact ⟨ret_int (unhide hv).symm, rfl⟩
        · have e1 : ((C : Int) == 1) = false := by simp; omega
          clear h2 h3
          go_wp2
          go_ret
          exact ⟨ret_int (unhide hv).symm, rfl⟩

theorem info_i64 : (Tryd.prog.info? 3).map (fun i => (i.zero, i.size, i.bytes)) = some (some (.int .i64 0), 1, 8) := by kernel_rfl

/-- Numbers as cells. -/
def intVals (z : Nat → Int) (n : Nat) : List Value := (List.range n).map fun i => .int .i64 (z i)
theorem intVals_length (z : Nat → Int) (n : Nat) : (intVals z n).length = n := by simp [intVals]
theorem intVals_at (z : Nat → Int) (n i : Nat) (h : i < n) : (intVals z n)[i]? = some (.int .i64 (z i)) := by simp [intVals, List.getElem?_range h]

/-- Numbers that the call owns are numbers that can be read. -/
theorem ints_own {w : World} {base n : Nat} {v : Value} {z : Nat → Int} (h : w.ownsRow base 3 1 v n (intVals z n)) (hz : ∀ i, i < n → -9223372036854775808 ≤ z i ∧ z i ≤ 9223372036854775807) :
    ∃ a cap, v = .slice a n cap ∧ IsInts w a n z := by
  rcases h.2 with ⟨rfl, rfl⟩ | ⟨g, cap, cur, rfl, hb, hg, hn, hm, _⟩
  · exact ⟨none, 0, rfl, .inl rfl⟩
  · refine ⟨some ⟨g, 0, none⟩, cap, rfl, .inr ⟨g, 0, rfl, by omega, fun i hi => ⟨?_, hz i hi⟩⟩⟩
    rw [Nat.zero_add, h.cellAt i (by omega), intVals_at _ _ _ hi]

theorem copy_none (w : World) (ao : Option Addr) (cap : Nat) : (Builtin.append_ #[22, 22] 22 #[.slice none 0 0, .slice ao 0 cap]).run Tryd.prog w = .ok (.slice none 0 0) w := by
  cases ao <;> kernel_rfl

/-- An append whose answer is known, and that makes nothing. -/
theorem wpList_append_eq (w : World) {ops : Array Oper} {rest : List Oper} {o : Oper} {a : Act} {Q : Exit → Act → World → Prop} (hgd : o.guard = none) (s x : Operand) (t : TypeId)
    (ho : o.op = .call { callee := .builtin .append, args := #[s, x], argTypes := #[t, t] }) (v u r : Value) (hs : a.eval s = v) (hx : a.eval x = u)
    (hr : (Builtin.append_ #[t, t] o.type #[v, u]).run Tryd.prog w = .ok r w) (h : wpList Tryd.prog ops Q rest (a.put o.dst r) w) : wpList Tryd.prog ops Q (o :: rest) a w :=
  wpList_plain hgd fun _ hK => by
    unfold Oper.wp execOp
    simp only [ho, resolve, invoke, builtin, Sem.run_bind, Sem.run_pure, Result.andThen_ok, List.map_toArray, List.map_cons, List.map_nil, hs, hx, hr]
    exact hK _ _ h

/-- layercakelaw1.ints: a copy in new memory. -/
theorem ints_any (ao : Option Addr) (len cap : Nat) (z : Nat → Int) (w : World) (hP : IsInts w ao len z) (hlen : len ≤ 100000) :
    Calls Tryd.prog 9 #[.slice ao len cap] w fun e w' => ∃ v, e = .returned v ∧ w'.ownsRow w.heap.size 3 1 v len (intVals z len) ∧ Below w.heap.size w w' := by
  obtain ⟨i0, hi, hz0, hz1, hz2⟩ := info_parts info_i64
  by_cases h0 : len = 0
  · subst h0
    have Hc := hide (copy_none w ao cap)
    clear hP
    go_enter Tryd.func9, Tryd.ntmps9
    go_wp2_with (at_builtin; refine wpList_append_eq _ rfl (.tmp 4) (.tmp 5) 22 rfl (.slice none 0 0) (.slice ao 0 cap) (.slice none 0 0) rfl rfl (unhide Hc) ?_)
    go_wp2
    go_ret
    exact ⟨_, rfl, World.ownsRow_nil _ _ _ _, Below.refl _ _⟩
  · rcases hP with h | ⟨b, off, rfl, hm, hP⟩
    · exact absurd h h0
    have hnews : ∀ j u, (intVals z len)[j]? = some u → w.cell? ((⟨b, off, none⟩ : Addr).add j) = some u := fun j u hj => by
      have hjl : j < len := by
        rcases Nat.lt_or_ge j len with h | h
        · exact h
        · rw [List.getElem?_eq_none (by rw [intVals_length]; exact h)] at hj; cases hj
      have hadd : (⟨b, off, none⟩ : Addr).add j = ⟨b, off + j, none⟩ := by unfold Addr.add; split <;> simp_all
      rw [hadd, (hP j hjl).1, ← hj, intVals_at _ _ _ hjl]
    have h1 : ∀ u ∈ intVals z len, u.oneCell' = true := fun u hu => by
      obtain ⟨i, _, rfl⟩ := List.mem_map.1 hu
      rfl
    have Hi := hide hi
    have Hz0 := hide hz0
    have Hz1 := hide hz1
    have Hz2 := hide hz2
    have Hn := hide hnews
    have H1 := hide h1
    clear hi hz0 hz1 hz2 hnews h1 hP
    go_enter Tryd.func9, Tryd.ntmps9
    go_wp2_with (at_builtin; refine wpList_append_lies _ rfl (.tmp 4) (.tmp 5) 22 rfl w.heap.size 3 i0 (.int .i64 0) 1 8 Tryd.underlying22 (unhide Hi) (unhide Hz0) (unhide Hz1) (unhide Hz2) rfl (by omega) (.slice none 0 0) 0 [] rfl (World.ownsRow_nil _ _ _ _) ⟨b, off, none⟩ len cap (intVals z len) rfl (by rw [intVals_length, Nat.mul_one]) (unhide Hn) (unhide H1) (by omega) (by unfold maxLen; omega) (by omega) (Nat.le_refl _) _ rfl ?_)
    intro g cap2 w1 hown1 hgrow hat hlt1
    have hb1 : Below w.heap.size w w1 := (Below.refl _ _).grown hgrow (Nat.le_refl _) (fun k e => by simp [Value.ownBlock] at e)
    have Hown1 := hide hown1
    clear hown1 hgrow hat hlt1
    go_wp2
    go_ret
    exact ⟨_, rfl, unhide Hown1, hb1⟩

end Go.Proofs.YtbbcfghlhgaofacDoor
