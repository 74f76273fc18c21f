/- Texts of pieces, read. Walks of the closed fact of three bits, and of the writer that goes on to a whole byte. A row of a call's own, and a byte more in it. Numbers appended to a row of one's own. -/
import Derived.Test.YtbbcfghlhgaofadDoorMg4
import Derived.Test.YtbbcfghlhgaofadDoorMg2
import Derived.Test.YtbbcfghlhgaofadDoorMg1
import Derived.Below
import Derived.Test.YtbbcfghlhgaofadDoorMg3
import Derived.Deep.OwnRows
import Derived.Maps.AppendAt
namespace Go.Proofs.YtbbcfghlhgaofadDoor
open Pm Cn Nf Ps

/-- The bytes of pieces, read, are the pieces; whatever stands behind. -/
theorem tv_textP {l : List Pc} (h : Fit l) : tv (textP l) = val l := by
  unfold tv textP
  rw [show (⟨(Bt.yl ((len l + 7) / 8) (val l)).toArray⟩ : ByteArray).data.toList = Bt.yl ((len l + 7) / 8) (val l) by simp, Bt.num_yl]
  refine Nat.mod_eq_of_lt (Nat.lt_of_lt_of_le (val_lt h) ?_)
  rw [Bt.pow256]
  exact Nat.pow_le_pow_right (by omega) (by omega)
theorem textP_size (l : List Pc) : (textP l).size = (len l + 7) / 8 := by
  show (Bt.yl ((len l + 7) / 8) (val l)).toArray.size = _
  simp [Bt.yl_length]
theorem at_text {l : List Pc} (h : Fit l) (more : ByteArray) : At (tv (textP l ++ more)) (8 * (textP l ++ more).size) 0 l := by
  have e : tv (textP l ++ more) = val l + 2 ^ len l * (2 ^ (8 * (textP l).size - len l) * tv more) := by
    unfold tv
    rw [ByteArray.data_append, Array.toList_append, Bt.num_append]
    have h1 : Crc.num (textP l).data.toList = val l := tv_textP h
    have h2 : (textP l).data.toList.length = (textP l).size := Array.length_toList
    rw [h1, h2, ← Nat.mul_assoc, ← Nat.pow_add]
    have := textP_size l
    rw [show len l + (8 * (textP l).size - len l) = 8 * (textP l).size by omega]
  rw [e]
  have := textP_size l
  have hs : 8 * (textP l ++ more).size = len l + (8 * (textP l ++ more).size - len l) := by
    rw [ByteArray.size_append]; omega
  rw [hs]
  exact at_front h

end Go.Proofs.YtbbcfghlhgaofadDoor
namespace Go.Proofs.YtbbcfghlhgaofadDoor
open Go.RowKit

theorem align_end (w : World) (p c N : Nat) (hW : WAt w p c N) (hc : c + 7 ≤ 4000000) : WAt (w.setCell ⟨p, 1, none⟩ (.int .i64 ((8 * ((c + 7) / 8) : Nat) : Int))) p (8 * ((c + 7) / 8)) N ∧
    Kept p w (w.setCell ⟨p, 1, none⟩ (.int .i64 ((8 * ((c + 7) / 8) : Nat) : Int))) := by
  obtain ⟨⟨v, hv, hown⟩, hcnt, f0, f1, hfit, hsm⟩ := hW
  have hcell : (w.setCell ⟨p, 1, none⟩ (.int .i64 ((8 * ((c + 7) / 8) : Nat) : Int))).cell? ⟨p, 0, none⟩ = w.cell? ⟨p, 0, none⟩ := World.cell?_setCell_other _ _ _ _ (by intro e; injection e with _ e2; omega)
  refine ⟨⟨⟨v, hcell.trans hv, ?_⟩, World.cell?_setCell_same _ _ _ hcnt, ?_, ?_, Bt.lt_wide hfit (by omega), by omega⟩, ⟨rfl, rfl, rfl, by simp [World.setCell], ?_, .inl (rowOf_same hcell)⟩⟩
  · rw [show (8 * ((c + 7) / 8) + 7) / 8 = (c + 7) / 8 from by omega]
    exact ownsRow_setCell_below hown (by show p < p + 1; omega) _
  · rw [World.frozen?_setCell]; exact f0
  · rw [World.frozen?_setCell]; exact f1
  · intro k _ h1 _
    exact Below.heap_setCell _ _ _ _ h1

theorem align_any (p c N : Nat) (w : World) (hW : WAt w p c N) (hc : c + 7 ≤ 4000000) :
    Calls Tryd.prog 57 #[.pointer (some ⟨p, 0, none⟩)] w fun e w' => e = .returned (.tuple #[]) ∧ WAt w' p (8 * ((c + 7) / 8)) N ∧ Kept p w w' := by
  have hend := hide (align_end w p c N hW hc)
  obtain ⟨⟨v, hv, hown⟩, hcnt, f0, f1, hfit, hsm⟩ := hW
  obtain ⟨a, cap, rfl⟩ := shape_of hown
  clear hown f0
  have hm : (c + 7) / 8 ≤ 4000000 := by omega
  generalize (c + 7) / 8 = m at *
  have h8 : (m : Int) * 8 = ((8 * m : Nat) : Int) := by omega
  go_enter Tryd.func57, Tryd.ntmps57
  go_wp2
  go_end0
  exact ⟨rfl, unhide hend⟩
end Go.Proofs.YtbbcfghlhgaofadDoor
namespace Go.Proofs.YtbbcfghlhgaofadDoor
open Go.RowKit

theorem addr_add (g o j : Nat) : (⟨g, o, none⟩ : Addr).add j = ⟨g, o + j, none⟩ := by unfold Addr.add; split <;> simp_all
theorem own_shape {w : World} {base n : Nat} {e : TypeId} {v : Value} {xs : List Value} (h : w.ownsRow base e 1 v n xs) : ∃ a c, v = .slice a n c ∧ (0 < n → ∃ g, a = some ⟨g, 0, none⟩ ∧ base ≤ g) := by
  rcases h.2 with ⟨rfl, rfl⟩ | ⟨g, c, cur, rfl, hb, _⟩
  · exact ⟨none, 0, rfl, fun h => by omega⟩
  · exact ⟨_, c, rfl, fun _ => ⟨g, rfl, hb⟩⟩


/-! ### A byte more -/
theorem app_u8 (w : World) (base q : Nat) (v : Value) (l : List UInt8) (b : UInt8) (t : TypeId) (hown : w.ownsRow base 5 1 v l.length (byteVals l)) (hq : w.cell? ⟨q, 0, none⟩ = some (.int .u8 (b.toNat : Int))) (hl : l.length ≤ 1000000) (hb : base ≤ w.heap.size) :
    ∃ v' w', (Builtin.append_ #[55, 55] t #[v, .slice (some ⟨q, 0, none⟩) 1 1]).run Tryd.prog w = .ok v' w' ∧ w'.ownsRow base 5 1 v' (l ++ [b]).length (byteVals (l ++ [b])) ∧ w.grownBy w' v.ownBlock ∧ (v'.ownBlock = v.ownBlock ∨ v'.ownBlock = some w.heap.size) := by
  obtain ⟨i0, hi, hz0, hz1, hz2⟩ := info_parts info_u8
  obtain ⟨v', w', h1, h2, h3, h4, h5⟩ := run_append_own_at (P := Tryd.prog) w base 55 t 5 i0 (.int .u8 0) 1 1 Tryd.underlying55 hi hz0 hz1 hz2 rfl (by omega) v l.length (byteVals l) hown ⟨q, 0, none⟩ 1 1 [.int .u8 (b.toNat : Int)] rfl (fun j u hj => by
    match j, hj with
    | 0, hj => rw [addr_add, Nat.zero_add, hq]; simpa using hj) (fun u hu => by rw [List.mem_singleton] at hu; subst hu; rfl) (by unfold maxLen; omega) (by omega) hb
  refine ⟨v', w', h1, ?_, h3, h5⟩
  rw [byteVals_append, List.length_append]
  exact h2

theorem wpList_appB (w : World) {ops : Array Oper} {rest : List Oper} {o : Oper} {a : Act} {Q : Exit → Act → World → Prop} (hgd : o.guard = none) (s x : Operand)
    (ho : o.op = .call { callee := .builtin .append, args := #[s, x], argTypes := #[55, 55] }) (base q : Nat) (v : Value) (l : List UInt8) (b : UInt8) (hs : a.eval s = v) (hx : a.eval x = .slice (some ⟨q, 0, none⟩) 1 1)
    (hown : w.ownsRow base 5 1 v l.length (byteVals l)) (hq : w.cell? ⟨q, 0, none⟩ = some (.int .u8 (b.toNat : Int))) (hl : l.length ≤ 1000000) (hb : base ≤ w.heap.size)
    (h : ∀ v' w', w'.ownsRow base 5 1 v' (l ++ [b]).length (byteVals (l ++ [b])) → w.grownBy w' v.ownBlock → (v'.ownBlock = v.ownBlock ∨ v'.ownBlock = some w.heap.size) → wpList Tryd.prog ops Q rest (a.put o.dst v') w') : wpList Tryd.prog ops Q (o :: rest) a w := by
  obtain ⟨v', w', h1, h2, h3, h4⟩ := app_u8 w base q v l b o.type hown hq hl hb
  refine wpList_plain hgd fun _ hK => ?_
  unfold Oper.wp execOp
  simp only [ho, resolve, invoke, builtin, Sem.run_bind, Sem.run_pure, Result.andThen_ok, List.map_toArray, List.map_cons, List.map_nil, hs, hx, h1]
  exact hK _ _ (h v' w' h2 h3 h4)

/-- .. as one step of a statement that draws its order. -/
theorem step_appB {w : World} {ops : Array Oper} {o : Oper} {a : Act} {K : Act → World → Prop} {Q : Exit → Act → World → Prop} {E : Prop} (hgd : o.guard = none) (s x : Operand)
    (ho : o.op = .call { callee := .builtin .append, args := #[s, x], argTypes := #[55, 55] }) (base q : Nat) (v : Value) (l : List UInt8) (b : UInt8) (hs : a.eval s = v) (hx : a.eval x = .slice (some ⟨q, 0, none⟩) 1 1)
    (hown : w.ownsRow base 5 1 v l.length (byteVals l)) (hq : w.cell? ⟨q, 0, none⟩ = some (.int .u8 (b.toNat : Int))) (hl : l.length ≤ 1000000) (hb : base ≤ w.heap.size)
    (h : ∀ v' w', w'.ownsRow base 5 1 v' (l ++ [b]).length (byteVals (l ++ [b])) → w.grownBy w' v.ownBlock → (v'.ownBlock = v.ownBlock ∨ v'.ownBlock = some w.heap.size) → K (a.put o.dst v') w') : if Region.wanted o (yielded ops a.tmps) = true then Oper.wp Tryd.prog o a w K Q else E := by
  have hw : Region.wanted o (yielded ops a.tmps) = true := by simp [Region.wanted, hgd]
  rw [if_pos hw]
  obtain ⟨v', w', h1, h2, h3, h5⟩ := app_u8 w base q v l b o.type hown hq hl hb
  unfold Oper.wp execOp
  simp only [ho, resolve, invoke, builtin, Sem.run_bind, Sem.run_pure, Result.andThen_ok, List.map_toArray, List.map_cons, List.map_nil, hs, hx, h1]
  exact h v' w' h2 h3 h5

end Go.Proofs.YtbbcfghlhgaofadDoor
namespace Go.Proofs.YtbbcfghlhgaofadDoor
open Go.RowKit

/-- Numbers as cells. -/
def natVals (F : List Nat) : List Value := F.map fun (x : Nat) => .int .i64 (x : Int)
theorem natVals_length (F : List Nat) : (natVals F).length = F.length := by simp [natVals]
theorem natVals_at (F : List Nat) (j : Nat) : (natVals F)[j]? = F[j]?.map fun (x : Nat) => .int .i64 (x : Int) := by simp [natVals]
theorem natVals_append (F G : List Nat) : natVals (F ++ G) = natVals F ++ natVals G := by simp [natVals]
theorem natVals_one (F : List Nat) : ∀ u ∈ natVals F, u.oneCell' = true := fun u hu => by
  obtain ⟨i, _, rfl⟩ := List.mem_map.1 hu
  rfl

/-- What is appended: nothing, or numbers that stand somewhere. -/
def SrcI (w : World) (u : Value) (G : List Nat) : Prop := (u = .slice none 0 0 ∧ G = []) ∨ ∃ ad c, u = .slice (some ad) G.length c ∧ ∀ j v, (natVals G)[j]? = some v → w.cell? (ad.add j) = some v

theorem wpList_app_ints (w : World) {ops : Array Oper} {rest : List Oper} {o : Oper} {a : Act} {Q : Exit → Act → World → Prop} (hgd : o.guard = none) (s x : Operand)
    (ho : o.op = .call { callee := .builtin .append, args := #[s, x], argTypes := #[51, 51] }) (base : Nat) (v u : Value) (F G : List Nat) (hs : a.eval s = v) (hx : a.eval x = u)
    (hown : w.ownsRow base 3 1 v F.length (natVals F)) (hsrc : SrcI w u G) (hlen : F.length + G.length ≤ 1000000) (hbase : base ≤ w.heap.size)
    (h : ∀ v' w', w'.ownsRow base 3 1 v' (F ++ G).length (natVals (F ++ G)) → w.grownBy w' v.ownBlock → (v'.ownBlock = v.ownBlock ∨ v'.ownBlock = some w.heap.size) → wpList Tryd.prog ops Q rest (a.put o.dst v') w') : wpList Tryd.prog ops Q (o :: rest) a w := by
  obtain ⟨i0, hi, hz0, hz1, hz2⟩ := info_parts info_i64
  have key : ∃ v' w', (Builtin.append_ #[51, 51] o.type #[v, u]).run Tryd.prog w = .ok v' w' ∧ w'.ownsRow base 3 1 v' (F ++ G).length (natVals (F ++ G)) ∧ w.grownBy w' v.ownBlock ∧ (v'.ownBlock = v.ownBlock ∨ v'.ownBlock = some w.heap.size) := by
    rcases hsrc with ⟨rfl, rfl⟩ | ⟨ad, c, rfl, hc⟩
    · refine ⟨v, w, run_append_owned_none w base 51 o.type 3 i0 1 Tryd.underlying51 hi v _ _ hown, by rw [List.append_nil]; exact hown, ⟨rfl, rfl, rfl, Nat.le_refl _, fun _ _ _ => rfl⟩, .inl rfl⟩
    · obtain ⟨v', w', h1, h2, h3, h4, h5⟩ := run_append_own_at (P := Tryd.prog) w base 51 o.type 3 i0 (.int .i64 0) 1 8 Tryd.underlying51 hi hz0 hz1 hz2 rfl (by omega) v F.length (natVals F) hown ad G.length c (natVals G) (by rw [natVals_length, Nat.mul_one]) hc (natVals_one G) (by unfold maxLen; omega) (by omega) hbase
      exact ⟨v', w', h1, by rw [natVals_append, List.length_append]; exact h2, h3, h5⟩
  obtain ⟨v', w', h1, h2, h3, h4⟩ := key
  refine wpList_plain hgd fun _ hK => ?_
  unfold Oper.wp execOp
  simp only [ho, resolve, invoke, builtin, Sem.run_bind, Sem.run_pure, Result.andThen_ok, List.map_toArray, List.map_cons, List.map_nil, hs, hx, h1]
  exact hK _ _ (h v' w' h2 h3 h4)

theorem own_below {w w' : World} {B n : Nat} {e : TypeId} {k : Nat} {v : Value} {xs : List Value} (h : w.ownsRow B e k v n xs) (hb : Below w.heap.size w w') : w'.ownsRow B e k v n xs := by
  refine h.kept (row := none) ⟨hb.os, hb.tape, hb.output, hb.size, fun k hk _ => hb.block k hk⟩ ?_
  cases v.ownBlock with
  | none => exact .inl rfl
  | some k => exact .inr (by simp)
theorem own_fix {w : World} {base n : Nat} {v : Value} {G : List Nat} (h : w.ownsRow base 3 1 v n (natVals G)) : w.ownsRow base 3 1 v G.length (natVals G) := by
  have e := h.1
  rw [natVals_length, Nat.mul_one] at e
  rw [e]; exact h
theorem own_cell {w : World} {base g cap : Nat} {F : List Nat} (h : w.ownsRow base 3 1 (.slice (some ⟨g, 0, none⟩) F.length cap) F.length (natVals F)) (j : Nat) (hj : j < F.length) : w.cell? ⟨g, j, none⟩ = some (.int .i64 (F[j] : Nat)) := by
  rw [h.cellAt j (by omega), natVals_at, List.getElem?_eq_getElem hj]
  rfl

theorem src_take {w : World} {base g cap : Nat} {F : List Nat} (h : w.ownsRow base 3 1 (.slice (some ⟨g, 0, none⟩) F.length cap) F.length (natVals F)) (k c : Nat) (hk : k ≤ F.length) : SrcI w (.slice (some ⟨g, 0, none⟩) k c) (F.take k) := by
  refine .inr ⟨⟨g, 0, none⟩, c, by rw [List.length_take, Nat.min_eq_left hk], fun j v hj => ?_⟩
  rw [natVals_at] at hj
  by_cases hjk : j < k
  · rw [List.getElem?_take_of_lt hjk, List.getElem?_eq_getElem (by omega)] at hj
    rw [addr_add, Nat.zero_add, own_cell h j (by omega), ← hj]
    rfl
  · rw [List.getElem?_eq_none (by rw [List.length_take]; omega)] at hj
    cases hj
theorem src_drop {w : World} {base g cap : Nat} {F : List Nat} (h : w.ownsRow base 3 1 (.slice (some ⟨g, 0, none⟩) F.length cap) F.length (natVals F)) (k c : Nat) : SrcI w (.slice (some ⟨g, k, none⟩) (F.length - k) c) (F.drop k) := by
  refine .inr ⟨⟨g, k, none⟩, c, by rw [List.length_drop], fun j v hj => ?_⟩
  rw [natVals_at, List.getElem?_drop] at hj
  by_cases hjk : k + j < F.length
  · rw [List.getElem?_eq_getElem hjk] at hj
    rw [addr_add, own_cell h (k + j) hjk, ← hj]
    rfl
  · rw [List.getElem?_eq_none (by omega)] at hj
    cases hj
theorem src_end (w : World) (ad : Addr) (F : List Nat) (k c : Nat) (h : F.length ≤ k) : SrcI w (.slice (some ad) 0 c) (F.drop k) := by
  have e : (F.drop k).length = 0 := by rw [List.length_drop]; omega
  refine .inr ⟨ad, c, by rw [e], fun j v hj => ?_⟩
  rw [natVals_at, List.getElem?_eq_none (by omega)] at hj
  cases hj
theorem src_one {w : World} {h c : Nat} (hc : w.cell? ⟨h, 0, none⟩ = some (.int .i64 (c : Int))) : SrcI w (.slice (some ⟨h, 0, none⟩) 1 1) [c] := by
  refine .inr ⟨⟨h, 0, none⟩, 1, rfl, fun j v hj => ?_⟩
  cases j with
  | zero =>
    have : v = .int .i64 (c : Int) := by simpa [natVals] using hj.symm
    rw [addr_add, Nat.zero_add, hc, this]
  | succ j => simp [natVals] at hj
end Go.Proofs.YtbbcfghlhgaofadDoor
