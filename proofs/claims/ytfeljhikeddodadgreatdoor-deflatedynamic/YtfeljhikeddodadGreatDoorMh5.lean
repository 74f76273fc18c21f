/- Texts out of rows of bytes; texts of noughts and ones. A row of a call's own, and a byte more in it. Walks: the steps of a row of lengths. -/
import Derived.Test.YtfeljhikeddodadGreatDoorChecked
import Derived.Test.YtfeljhikeddodadGreatDoorMh1
import Derived.WalkKit
import Derived.WalkLawsBesides
import Derived.WalkSpells
import Derived.Handy
import Derived.Laws.BitsAllLaws
import Derived.Laws.Shifts
import Derived.Laws.IdiomStrings
import Derived.Deep.LoopGhost
import Derived.Deep.WholeRow
import Derived.Deep.AppendLies
import Derived.BigRegion
import Derived.Laws.ResultCell
import Derived.Below
import Derived.Test.YtfeljhikeddodadGreatDoorMh4
import Derived.BigQuiet
import Derived.Deep.DeepCutAuto
import Derived.Deep.CutBlock
namespace Go.Proofs.YtfeljhikeddodadGreatDoor
open Go.RowKit

/-- Bytes as cells. -/
def byteVals (l : List UInt8) : List Value := l.map fun b => .int .u8 (b.toNat : Int)
theorem byteVals_at (l : List UInt8) (j : Nat) : (byteVals l)[j]? = l[j]?.map fun b => .int .u8 (b.toNat : Int) := by simp [byteVals]
theorem byteVals_append (a b : List UInt8) : byteVals (a ++ b) = byteVals a ++ byteVals b := by simp [byteVals]
theorem byteVals_set (l : List UInt8) (j : Nat) (b : UInt8) : (byteVals l).set j (.int .u8 (b.toNat : Int)) = byteVals (l.set j b) := by simp [byteVals, List.map_set]
theorem info_u8 : (Tryz.prog.info? 5).map (fun i => (i.zero, i.size, i.bytes)) = some (some (.int .u8 0), 1, 1) := by kernel_rfl
theorem shr_lt (n i : Nat) (h : n < 4294967296) : n / 2 ^ i < 4294967296 := Nat.lt_of_le_of_lt (Nat.div_le_self _ _) h
theorem shape_of {w : World} {base e : Nat} {v : Value} {n : Nat} {xs : List Value} (h : w.ownsRow base e 1 v n xs) : ∃ a c, v = .slice a n c := by
  rcases h.2 with ⟨rfl, rfl⟩ | ⟨g, cap, _, rfl, _⟩
  · exact ⟨_, _, rfl⟩
  · exact ⟨_, _, rfl⟩
theorem empty_text (w : World) : (convert 54 9 (.slice none 0 0)).run Tryz.prog w = .ok (.string ⟨#[]⟩) w := by kernel_rfl
/-- The bytes of an own row as a text. -/
theorem own_text (w : World) (base : Nat) (v : Value) (n : Nat) (l : List UInt8) (h : w.ownsRow base 5 1 v n (byteVals l)) :
    (convert 54 9 v).run Tryz.prog w = .ok (.string ⟨l.toArray⟩) w := by
  have hl : l.length = n := by have := h.1; simpa [byteVals] using this
  rcases h.2 with ⟨rfl, h0⟩ | ⟨g, cap, cur, rfl, _⟩
  · subst h0
    obtain rfl : l = [] := List.length_eq_zero_iff.1 hl
    exact empty_text w
  · subst hl
    refine run_convert_bytes_back w 54 9 5 _ cap l Tryz.underlying54 Tryz.underlying5 Tryz.underlying9 (fun j hj => ?_)
    have hadd : (⟨g, 0, none⟩ : Addr).add j = ⟨g, j, none⟩ := by unfold Addr.add; split <;> simp_all
    rw [hadd, h.cellAt j (by omega), byteVals_at, List.getElem?_eq_getElem hj]
    rfl
/-- The first c bits of N as a text. -/
def bt (c N : Nat) : ByteArray := ⟨(Bt.bl c N).toArray⟩
theorem bt_list (c N : Nat) : (bt c N).data.toList = Bt.bl c N := by simp [bt]
theorem bt_size (c N : Nat) : (bt c N).size = c := by
  have := congrArg List.length (bt_list c N)
  rw [Bt.bl_length] at this
  simpa using this
theorem text_ext {a b : ByteArray} (h : a.data.toList = b.data.toList) : a = b := by
  cases a; cases b
  simp at h
  simp [h]
theorem bt_rev (n i : Nat) : ⟨#[UInt8.ofNat (48 + Bt.bit n i)]⟩ ++ bt i (Bt.rev n i) = bt (i + 1) (Bt.rev n (i + 1)) := by
  apply text_ext
  rw [ByteArray.data_append, Array.toList_append, bt_list, bt_list, ← Bt.bl_rev]
  rfl
theorem bt_bits (c N k : Nat) (hk : k < (bt c N).size) : (bt c N)[k].toNat = 48 + Bt.bit N k := by
  have hs := bt_size c N
  have h1 : (bt c N).data.toList[k]? = some (UInt8.ofNat (48 + Bt.bit N k)) := by rw [bt_list, Bt.bl_at _ _ _ (by omega)]
  have h2 : (bt c N).data.toList[k]? = some (bt c N)[k] := by
    rw [List.getElem?_eq_getElem (by simpa using hk)]; rfl
  rw [h2] at h1
  have := Bt.bit_lt N k
  rw [Option.some.inj h1, UInt8.toNat_ofNat']
  omega
end Go.Proofs.YtfeljhikeddodadGreatDoor
namespace Go.Proofs.YtfeljhikeddodadGreatDoor
open Go.RowKit

theorem addr_add (g o j : Nat) : (⟨g, o, none⟩ : Addr).add j = ⟨g, o + j, none⟩ := by unfold Addr.add; split <;> simp_all
theorem own_shape {w : World} {base n : Nat} {e : TypeId} {v : Value} {xs : List Value} (h : w.ownsRow base e 1 v n xs) : ∃ a c, v = .slice a n c ∧ (0 < n → ∃ g, a = some ⟨g, 0, none⟩ ∧ base ≤ g) := by
  rcases h.2 with ⟨rfl, rfl⟩ | ⟨g, c, cur, rfl, hb, _⟩
  · exact ⟨none, 0, rfl, fun h => by omega⟩
  · exact ⟨_, c, rfl, fun _ => ⟨g, rfl, hb⟩⟩
/-! ### A byte more -/
theorem app_u8 (w : World) (base q : Nat) (v : Value) (l : List UInt8) (b : UInt8) (t : TypeId) (hown : w.ownsRow base 5 1 v l.length (byteVals l)) (hq : w.cell? ⟨q, 0, none⟩ = some (.int .u8 (b.toNat : Int))) (hl : l.length ≤ 1000000) (hb : base ≤ w.heap.size) :
    ∃ v' w', (Builtin.append_ #[54, 54] t #[v, .slice (some ⟨q, 0, none⟩) 1 1]).run Tryz.prog w = .ok v' w' ∧ w'.ownsRow base 5 1 v' (l ++ [b]).length (byteVals (l ++ [b])) ∧ w.grownBy w' v.ownBlock ∧ (v'.ownBlock = v.ownBlock ∨ v'.ownBlock = some w.heap.size) := by
  obtain ⟨i0, hi, hz0, hz1, hz2⟩ := info_parts info_u8
  obtain ⟨v', w', h1, h2, h3, h4, h5⟩ := run_append_own_at (P := Tryz.prog) w base 54 t 5 i0 (.int .u8 0) 1 1 Tryz.underlying54 hi hz0 hz1 hz2 rfl (by omega) v l.length (byteVals l) hown ⟨q, 0, none⟩ 1 1 [.int .u8 (b.toNat : Int)] rfl (fun j u hj => by
    match j, hj with
    | 0, hj => rw [addr_add, Nat.zero_add, hq]; simpa using hj) (fun u hu => by rw [List.mem_singleton] at hu; subst hu; rfl) (by unfold maxLen; omega) (by omega) hb
  refine ⟨v', w', h1, ?_, h3, h5⟩
  rw [byteVals_append, List.length_append]
  exact h2
theorem wpList_appB (w : World) {ops : Array Oper} {rest : List Oper} {o : Oper} {a : Act} {Q : Exit → Act → World → Prop} (hgd : o.guard = none) (s x : Operand)
    (ho : o.op = .call { callee := .builtin .append, args := #[s, x], argTypes := #[54, 54] }) (base q : Nat) (v : Value) (l : List UInt8) (b : UInt8) (hs : a.eval s = v) (hx : a.eval x = .slice (some ⟨q, 0, none⟩) 1 1)
    (hown : w.ownsRow base 5 1 v l.length (byteVals l)) (hq : w.cell? ⟨q, 0, none⟩ = some (.int .u8 (b.toNat : Int))) (hl : l.length ≤ 1000000) (hb : base ≤ w.heap.size)
    (h : ∀ v' w', w'.ownsRow base 5 1 v' (l ++ [b]).length (byteVals (l ++ [b])) → w.grownBy w' v.ownBlock → (v'.ownBlock = v.ownBlock ∨ v'.ownBlock = some w.heap.size) → wpList Tryz.prog ops Q rest (a.put o.dst v') w') : wpList Tryz.prog ops Q (o :: rest) a w := by
  obtain ⟨v', w', h1, h2, h3, h4⟩ := app_u8 w base q v l b o.type hown hq hl hb
  refine wpList_plain hgd fun _ hK => ?_
  unfold Oper.wp execOp
  simp only [ho, resolve, invoke, builtin, Sem.run_bind, Sem.run_pure, Result.andThen_ok, List.map_toArray, List.map_cons, List.map_nil, hs, hx, h1]
  exact hK _ _ (h v' w' h2 h3 h4)
/-- .. as one step of a statement that draws its order. -/
theorem step_appB {w : World} {ops : Array Oper} {o : Oper} {a : Act} {K : Act → World → Prop} {Q : Exit → Act → World → Prop} {E : Prop} (hgd : o.guard = none) (s x : Operand)
    (ho : o.op = .call { callee := .builtin .append, args := #[s, x], argTypes := #[54, 54] }) (base q : Nat) (v : Value) (l : List UInt8) (b : UInt8) (hs : a.eval s = v) (hx : a.eval x = .slice (some ⟨q, 0, none⟩) 1 1)
    (hown : w.ownsRow base 5 1 v l.length (byteVals l)) (hq : w.cell? ⟨q, 0, none⟩ = some (.int .u8 (b.toNat : Int))) (hl : l.length ≤ 1000000) (hb : base ≤ w.heap.size)
    (h : ∀ v' w', w'.ownsRow base 5 1 v' (l ++ [b]).length (byteVals (l ++ [b])) → w.grownBy w' v.ownBlock → (v'.ownBlock = v.ownBlock ∨ v'.ownBlock = some w.heap.size) → K (a.put o.dst v') w') : if Region.wanted o (yielded ops a.tmps) = true then Oper.wp Tryz.prog o a w K Q else E := by
  have hw : Region.wanted o (yielded ops a.tmps) = true := by simp [Region.wanted, hgd]
  rw [if_pos hw]
  obtain ⟨v', w', h1, h2, h3, h5⟩ := app_u8 w base q v l b o.type hown hq hl hb
  unfold Oper.wp execOp
  simp only [ho, resolve, invoke, builtin, Sem.run_bind, Sem.run_pure, Result.andThen_ok, List.map_toArray, List.map_cons, List.map_nil, hs, hx, h1]
  exact h v' w' h2 h3 h5
end Go.Proofs.YtfeljhikeddodadGreatDoor
namespace Go.Proofs.YtfeljhikeddodadGreatDoor
open Go.RowKit Ps Nf

/-! ### Rows of steps -/
def stV (ss : List Sp) : List Value := ss.flatMap fun s => [.int .i64 (s.1 : Int), .int .i64 (s.2 : Int)]
theorem stV_append (a b : List Sp) : stV (a ++ b) = stV a ++ stV b := by simp [stV]
theorem stV_length (ss : List Sp) : (stV ss).length = ss.length * 2 := by
  induction ss with
  | nil => rfl
  | cons c cs ih => simp only [stV, List.flatMap_cons, List.length_append, List.length_cons, List.length_nil] at ih ⊢; omega
theorem stV_at (ss : List Sp) (i : Nat) (h : i < ss.length) : (stV ss)[i * 2]? = some (.int .i64 ((ss.getD i (0, 0)).1 : Int)) ∧ (stV ss)[i * 2 + 1]? = some (.int .i64 ((ss.getD i (0, 0)).2 : Int)) := by
  induction ss generalizing i with
  | nil => exact absurd h (by simp)
  | cons t ts ih =>
    cases i with
    | zero => exact ⟨rfl, rfl⟩
    | succ i =>
      have := ih i (by rw [List.length_cons] at h; omega)
      rw [Nat.succ_mul]
      exact this
theorem stV_one (ss : List Sp) : ∀ u ∈ stV ss, u.oneCell' = true := by
  intro u hu
  obtain ⟨s, _, h⟩ := List.mem_flatMap.1 hu
  simp only [List.mem_cons, List.not_mem_nil, or_false] at h
  rcases h with rfl | rfl <;> rfl
theorem info_st : (Tryz.prog.info? 176).map (fun i => (i.zero, i.size, i.bytes)) = some (some (.agg #[.int .i64 0, .int .i64 0]), 2, 16) := by kernel_rfl
theorem app_st (w : World) (base q c : Nat) (v : Value) (ss m : List Sp) (t : TypeId) (hown : w.ownsRow base 176 2 v ss.length (stV ss)) (hq : ∀ j u, (stV m)[j]? = some u → w.cell? ⟨q, j, none⟩ = some u) (hl : ss.length + m.length ≤ 1000000) (hb : base ≤ w.heap.size) :
    ∃ v' w', (Builtin.append_ #[171, 171] t #[v, .slice (some ⟨q, 0, none⟩) m.length c]).run Tryz.prog w = .ok v' w' ∧ w'.ownsRow base 176 2 v' (ss ++ m).length (stV (ss ++ m)) ∧ w.grownBy w' v.ownBlock ∧ (v'.ownBlock = v.ownBlock ∨ v'.ownBlock = some w.heap.size) := by
  obtain ⟨i0, hi, hz0, hz1, hz2⟩ := info_parts info_st
  obtain ⟨v', w', a1, a2, a3, _, a5⟩ := run_append_own_at (P := Tryz.prog) w base 171 t 176 i0 (.agg #[.int .i64 0, .int .i64 0]) 2 16 Tryz.underlying171 hi hz0 hz1 hz2 rfl (by omega) v ss.length (stV ss) hown ⟨q, 0, none⟩ m.length c (stV m) (by rw [stV_length]) (fun j u hj => by rw [addr_add, Nat.zero_add]; exact hq j u hj) (stV_one m) (by unfold maxLen; omega) (by omega) hb
  refine ⟨v', w', a1, ?_, a3, a5⟩
  rw [stV_append, List.length_append]
  exact a2
theorem wpList_appSt (w : World) {ops : Array Oper} {rest : List Oper} {o : Oper} {a : Act} {Q : Exit → Act → World → Prop} (hgd : o.guard = none) (s x : Operand)
    (ho : o.op = .call { callee := .builtin .append, args := #[s, x], argTypes := #[171, 171] }) (base q k c : Nat) (v : Value) (ss m : List Sp) (hs : a.eval s = v) (hx : a.eval x = .slice (some ⟨q, 0, none⟩) k c) (hk : m.length = k)
    (hown : w.ownsRow base 176 2 v ss.length (stV ss)) (hq : ∀ j u, (stV m)[j]? = some u → w.cell? ⟨q, j, none⟩ = some u) (hl : ss.length + m.length ≤ 1000000) (hb : base ≤ w.heap.size)
    (h : ∀ v' w', w'.ownsRow base 176 2 v' (ss ++ m).length (stV (ss ++ m)) → w.grownBy w' v.ownBlock → (v'.ownBlock = v.ownBlock ∨ v'.ownBlock = some w.heap.size) → wpList Tryz.prog ops Q rest (a.put o.dst v') w') : wpList Tryz.prog ops Q (o :: rest) a w := by
  subst hk
  obtain ⟨v', w', a1, a2, a3, a5⟩ := app_st w base q c v ss m o.type hown hq hl hb
  refine wpList_plain hgd fun _ hK => ?_
  unfold Oper.wp execOp
  simp only [ho, resolve, invoke, builtin, Sem.run_bind, Sem.run_pure, Result.andThen_ok, List.map_toArray, List.map_cons, List.map_nil, hs, hx, a1]
  exact hK _ _ (h v' w' a2 a3 a5)
theorem own_keepS {w w' : World} {base n size : Nat} {e : TypeId} {v : Value} {xs : List Value} (h : w.ownsRow base e size v n xs) (hb : ∀ k, v.ownBlock = some k → k < w.heap.size → w'.heap[k]? = w.heap[k]?) : w'.ownsRow base e size v n xs := by
  rcases h.2 with ⟨rfl, h0⟩ | ⟨g, c, cur, rfl, hg, hh, r⟩
  · exact ⟨h.1, .inl ⟨rfl, h0⟩⟩
  · have hlt : g < w.heap.size := by
      rcases Nat.lt_or_ge g w.heap.size with q | q
      · exact q
      · rw [Array.getElem?_eq_none q] at hh; cases hh
    exact ⟨h.1, .inr ⟨g, c, cur, rfl, hg, by rw [hb g rfl hlt]; exact hh, r⟩⟩
theorem own_inS {w : World} {base n size : Nat} {e : TypeId} {v : Value} {xs : List Value} (h : w.ownsRow base e size v n xs) (k : Nat) (q : v.ownBlock = some k) : base ≤ k ∧ k < w.heap.size := by
  rcases h.2 with ⟨rfl, _⟩ | ⟨g, c, cur, rfl, hg, hh, _⟩
  · cases q
  · simp only [Value.ownBlock, Option.some.injEq] at q
    subst q
    refine ⟨hg, ?_⟩
    rcases Nat.lt_or_ge g w.heap.size with z | z
    · exact z
    · rw [Array.getElem?_eq_none z] at hh; cases hh
theorem own_sliceS {w : World} {base size n : Nat} {e : TypeId} {v : Value} {xs : List Value} (h : w.ownsRow base e size v n xs) : ∃ a c, v = .slice a n c := by
  rcases h.2 with ⟨rfl, rfl⟩ | ⟨g, c, cur, rfl, _⟩
  · exact ⟨_, _, rfl⟩
  · exact ⟨_, _, rfl⟩
/-! ### Plainly: what a step tells -/
/-- Wherever they stand, they tell a length so many times. -/
def Tells (ss : List Sp) (L j : Nat) : Prop := ∀ R : List Nat, Dec R ss (R ++ List.replicate j L)
theorem rep_add (R : List Nat) (L j k : Nat) : R ++ List.replicate j L ++ List.replicate k L = R ++ List.replicate (j + k) L := by
  rw [List.append_assoc, List.replicate_append_replicate]
theorem Tells.plain {ss : List Sp} {L j : Nat} (h : Tells ss L j) (hL : L ≤ 15) : Tells (ss ++ [(L, 0)]) L (j + 1) := fun R => by
  refine (h R).append ?_
  have := Dec.one (r := R ++ List.replicate j L) (s := (L, 0)) ⟨by show L < 19; omega, Nat.two_pow_pos _, fun e => by simp only at e; omega⟩
  unfold dec at this
  rw [if_pos (by show L < 16; omega)] at this
  rw [← rep_add]
  exact this
theorem Tells.zeros {ss : List Sp} {j sym told : Nat} (h : Tells ss 0 j) (hs : (sym = 17 ∧ 3 ≤ told ∧ told ≤ 10) ∨ (sym = 18 ∧ 11 ≤ told ∧ told ≤ 138)) : Tells (ss ++ [(sym, told - againFrom sym)]) 0 (j + told) := fun R => by
  refine (h R).append ?_
  have hf : againFrom sym + (told - againFrom sym) = told := by
    rcases hs with ⟨rfl, h1, h2⟩ | ⟨rfl, h1, h2⟩
    · show 3 + (told - 3) = told; omega
    · show 11 + (told - 11) = told; omega
  have := Dec.one (r := R ++ List.replicate j 0) (s := (sym, told - againFrom sym)) ⟨by show sym < 19; omega, by
    rcases hs with ⟨rfl, h1, h2⟩ | ⟨rfl, h1, h2⟩
    · show told - 3 < 2 ^ 3; omega
    · show told - 11 < 2 ^ 7; omega, fun e => by simp only at e; omega⟩
  unfold dec at this
  rw [if_neg (by show ¬ sym < 16; omega), hf, show againOf sym (R ++ List.replicate j 0) = 0 by unfold againOf; rw [if_neg (by omega)]] at this
  rw [← rep_add]
  exact this
theorem Tells.again {ss : List Sp} {L j told : Nat} (h : Tells ss L j) (hj : 1 ≤ j) (h1 : 3 ≤ told) (h2 : told ≤ 6) : Tells (ss ++ [(16, told - 3)]) L (j + told) := fun R => by
  refine (h R).append ?_
  have := Dec.one (r := R ++ List.replicate j L) (s := (16, told - 3)) ⟨by show 16 < 19; omega, by show told - 3 < 2 ^ 2; omega, fun _ => by rw [List.length_append, List.length_replicate]; omega⟩
  unfold dec at this
  have hl : againOf 16 (R ++ List.replicate j L) = L := by
    unfold againOf
    rw [if_pos rfl, List.length_append, List.length_replicate, List.getD_eq_getElem?_getD, List.getElem?_append_right (by omega), List.getElem?_replicate, if_pos (by omega)]
    rfl
  rw [if_neg (by show ¬ 16 < 16; omega), hl, show againFrom 16 + (told - 3) = told by show 3 + (told - 3) = told; omega] at this
  rw [← rep_add]
  exact this
theorem Tells.few {ss : List Sp} {L j : Nat} (h : Tells ss L j) : ss.length ≤ j := by
  have := (h []).le
  simp at this
  exact this
set_option maxHeartbeats 2000000 in
theorem drun_any (b o n cap : Nat) (z : Nat → Int) (w : World) (hP : ∀ i, i < n → w.cell? ⟨b, o + i, none⟩ = some (.int .i64 (z i))) (hn : 0 < n) (hn3 : n ≤ 1000) :
    Calls Tryz.prog 151 #[.slice (some ⟨b, o, none⟩) n cap] w fun e w' => ∃ k : Nat, e = .returned (.int .i64 (k : Int)) ∧ 1 ≤ k ∧ k ≤ n ∧ (∀ j, j < k → z j = z 0) ∧ ∃ nn, w' = w.drewN nn := by
  have c0 := hP 0 hn
  rw [Nat.add_zero] at c0
  have h0n : (0 : Int) < (n : Int) := by omega
  go_enter Tryz.func151, Tryz.ntmps151
  go_wp2
  go_loopw [3] (fun v wr => ∃ k : Nat, k ≤ n ∧ v = .int .i64 (k : Int) ∧ Hid (∀ j, j < k → z j = z 0) ∧ ∃ nn, wr = w.drewN nn) (fun v _ => n - (intOf v).toNat)
  case atStart => exact ⟨0, by omega, rfl, fun i hi => by omega, 0, rfl⟩
  case round =>
    obtain ⟨k, hk, rfl, HE, nn, rfl⟩ := hrel
    by_cases hlt : k < n
    · have g1 : decide ((k : Int) < (n : Int)) = true := decide_eq_true (by omega)
      have g1n : decide (k < n) = true := decide_eq_true hlt
      have hki : (k : Int) < (n : Int) := by omega
      have ck := hP k hlt
      obtain ⟨x, hx⟩ : ∃ x, x = z k := ⟨_, rfl⟩
      obtain ⟨y, hy⟩ : ∃ y, y = z 0 := ⟨_, rfl⟩
      rw [← hx] at ck
      rw [← hy] at c0
      by_cases he : x = y
      · have g2 : (x == y) = true := by rw [he]; simp
        have HE2 : Hid (∀ j, j < k + 1 → z j = z 0) := fun j hj => by
          by_cases e : j = k
          · subst e; rw [← hx, ← hy]; exact he
          · exact unhide HE j (by omega)
        clear hP hx hy HE
        go_wp2
        go_quiet (fail)
        go_wp2
        go_roundw
        case rel => exact ⟨k + 1, by omega, by go_num, HE2, _, rfl⟩
        case measure => simp [intOf]; omega
      · have g2 : (x == y) = false := by rw [beq_eq_false_iff_ne]; exact he
        have hk1 : 1 ≤ k := by
          rcases Nat.eq_zero_or_pos k with q | q
          · subst q; rw [hx, hy] at he; exact absurd rfl he
          · exact q
        clear hP hx hy
        go_wp2
        go_quiet (fail)
        go_wp2
        go_ret
        exact ⟨k, rfl, hk1, by omega, unhide HE, _, World.drewN_drewN _ _ _⟩
    · obtain rfl : k = n := by omega
      have g1 : decide ((k : Int) < (k : Int)) = false := by simp
      clear hP
      go_wp2
      go_quiet (fail)
      go_wp2
      go_ret
      exact ⟨k, rfl, by omega, by omega, unhide HE, _, World.drewN_drewN _ _ _⟩
end Go.Proofs.YtfeljhikeddodadGreatDoor
