/- Numbers appended to a row of one's own. -/
import Derived.Test.YtkdckcengmkhhajDoorAp
import Derived.Test.YtkdckcengmkhhajDoorHV
import Derived.Deep.OwnRows
import Derived.Maps.AppendAt
namespace Go.Proofs.YtkdckcengmkhhajDoor
open Go.RowKit

/-- Numbers as cells. -/
def natVals (F : List Nat) : List Value := F.map fun (x : Nat) => .int .i64 (x : Int)
theorem natVals_length (F : List Nat) : (natVals F).length = F.length := by simp [natVals]
theorem natVals_at (F : List Nat) (j : Nat) : (natVals F)[j]? = F[j]?.map fun (x : Nat) => .int .i64 (x : Int) := by simp [natVals]
theorem natVals_append (F G : List Nat) : natVals (F ++ G) = natVals F ++ natVals G := by simp [natVals]
theorem natVals_one (F : List Nat) : ∀ u ∈ natVals F, u.oneCell' = true := fun u hu => by
  obtain ⟨i, _, rfl⟩ := List.mem_map.1 hu
  rfl

/-- What is appended: nothing, or numbers that stand somewhere. -/
def SrcI (w : World) (u : Value) (G : List Nat) : Prop := (u = .slice none 0 0 ∧ G = []) ∨ ∃ ad c, u = .slice (some ad) G.length c ∧ ∀ j v, (natVals G)[j]? = some v → w.cell? (ad.add j) = some v

theorem wpList_app_ints (w : World) {ops : Array Oper} {rest : List Oper} {o : Oper} {a : Act} {Q : Exit → Act → World → Prop} (hgd : o.guard = none) (s x : Operand)
    (ho : o.op = .call { callee := .builtin .append, args := #[s, x], argTypes := #[63, 63] }) (base : Nat) (v u : Value) (F G : List Nat) (hs : a.eval s = v) (hx : a.eval x = u)
    (hown : w.ownsRow base 3 1 v F.length (natVals F)) (hsrc : SrcI w u G) (hlen : F.length + G.length ≤ 1000000) (hbase : base ≤ w.heap.size)
    (h : ∀ v' w', w'.ownsRow base 3 1 v' (F ++ G).length (natVals (F ++ G)) → w.grownBy w' v.ownBlock → (v'.ownBlock = v.ownBlock ∨ v'.ownBlock = some w.heap.size) → wpList Tryd.prog ops Q rest (a.put o.dst v') w') : wpList Tryd.prog ops Q (o :: rest) a w := by
  obtain ⟨i0, hi, hz0, hz1, hz2⟩ := info_parts info_i64
  have key : ∃ v' w', (Builtin.append_ #[63, 63] o.type #[v, u]).run Tryd.prog w = .ok v' w' ∧ w'.ownsRow base 3 1 v' (F ++ G).length (natVals (F ++ G)) ∧ w.grownBy w' v.ownBlock ∧ (v'.ownBlock = v.ownBlock ∨ v'.ownBlock = some w.heap.size) := by
    rcases hsrc with ⟨rfl, rfl⟩ | ⟨ad, c, rfl, hc⟩
    · refine ⟨v, w, run_append_owned_none w base 63 o.type 3 i0 1 Tryd.underlying63 hi v _ _ hown, by rw [List.append_nil]; exact hown, ⟨rfl, rfl, rfl, Nat.le_refl _, fun _ _ _ => rfl⟩, .inl rfl⟩
    · obtain ⟨v', w', h1, h2, h3, h4, h5⟩ := run_append_own_at (P := Tryd.prog) w base 63 o.type 3 i0 (.int .i64 0) 1 8 Tryd.underlying63 hi hz0 hz1 hz2 rfl (by omega) v F.length (natVals F) hown ad G.length c (natVals G) (by rw [natVals_length, Nat.mul_one]) hc (natVals_one G) (by unfold maxLen; omega) (by omega) hbase
      exact ⟨v', w', h1, by rw [natVals_append, List.length_append]; exact h2, h3, h5⟩
  obtain ⟨v', w', h1, h2, h3, h4⟩ := key
  refine wpList_plain hgd fun _ hK => ?_
  unfold Oper.wp execOp
  simp only [ho, resolve, invoke, builtin, Sem.run_bind, Sem.run_pure, Result.andThen_ok, List.map_toArray, List.map_cons, List.map_nil, hs, hx, h1]
  exact hK _ _ (h v' w' h2 h3 h4)

theorem own_below {w w' : World} {B n : Nat} {e : TypeId} {k : Nat} {v : Value} {xs : List Value} (h : w.ownsRow B e k v n xs) (hb : Below w.heap.size w w') : w'.ownsRow B e k v n xs := by
  refine h.kept (row := none) ⟨hb.os, hb.tape, hb.output, hb.size, fun k hk _ => hb.block k hk⟩ ?_
  cases v.ownBlock with
  | none => exact .inl rfl
  | some k => exact .inr (by simp)
theorem own_fix {w : World} {base n : Nat} {v : Value} {G : List Nat} (h : w.ownsRow base 3 1 v n (natVals G)) : w.ownsRow base 3 1 v G.length (natVals G) := by
  have e := h.1
  rw [natVals_length, Nat.mul_one] at e
  rw [e]; exact h
theorem own_cell {w : World} {base g cap : Nat} {F : List Nat} (h : w.ownsRow base 3 1 (.slice (some ⟨g, 0, none⟩) F.length cap) F.length (natVals F)) (j : Nat) (hj : j < F.length) : w.cell? ⟨g, j, none⟩ = some (.int .i64 (F[j] : Nat)) := by
  rw [h.cellAt j (by omega), natVals_at, List.getElem?_eq_getElem hj]
  rfl

theorem src_take {w : World} {base g cap : Nat} {F : List Nat} (h : w.ownsRow base 3 1 (.slice (some ⟨g, 0, none⟩) F.length cap) F.length (natVals F)) (k c : Nat) (hk : k ≤ F.length) : SrcI w (.slice (some ⟨g, 0, none⟩) k c) (F.take k) := by
  refine .inr ⟨⟨g, 0, none⟩, c, by rw [List.length_take, Nat.min_eq_left hk], fun j v hj => ?_⟩
  rw [natVals_at] at hj
  by_cases hjk : j < k
  · rw [List.getElem?_take_of_lt hjk, List.getElem?_eq_getElem (by omega)] at hj
    rw [addr_add, Nat.zero_add, own_cell h j (by omega), ← hj]
    rfl
  · rw [List.getElem?_eq_none (by rw [List.length_take]; omega)] at hj
    cases hj
theorem src_drop {w : World} {base g cap : Nat} {F : List Nat} (h : w.ownsRow base 3 1 (.slice (some ⟨g, 0, none⟩) F.length cap) F.length (natVals F)) (k c : Nat) : SrcI w (.slice (some ⟨g, k, none⟩) (F.length - k) c) (F.drop k) := by
  refine .inr ⟨⟨g, k, none⟩, c, by rw [List.length_drop], fun j v hj => ?_⟩
  rw [natVals_at, List.getElem?_drop] at hj
  by_cases hjk : k + j < F.length
  · rw [List.getElem?_eq_getElem hjk] at hj
    rw [addr_add, own_cell h (k + j) hjk, ← hj]
    rfl
  · rw [List.getElem?_eq_none (by omega)] at hj
    cases hj
theorem src_end (w : World) (ad : Addr) (F : List Nat) (k c : Nat) (h : F.length ≤ k) : SrcI w (.slice (some ad) 0 c) (F.drop k) := by
  have e : (F.drop k).length = 0 := by rw [List.length_drop]; omega
  refine .inr ⟨ad, c, by rw [e], fun j v hj => ?_⟩
  rw [natVals_at, List.getElem?_eq_none (by omega)] at hj
  cases hj
theorem src_one {w : World} {h c : Nat} (hc : w.cell? ⟨h, 0, none⟩ = some (.int .i64 (c : Int))) : SrcI w (.slice (some ⟨h, 0, none⟩) 1 1) [c] := by
  refine .inr ⟨⟨h, 0, none⟩, 1, rfl, fun j v hj => ?_⟩
  cases j with
  | zero =>
    have : v = .int .i64 (c : Int) := by simpa [natVals] using hj.symm
    rw [addr_add, Nat.zero_add, hc, this]
  | succ j => simp [natVals] at hj
end Go.Proofs.YtkdckcengmkhhajDoor
