/- Rows of numbers of one's own. -/
import Derived.Test.YtbbcfghlhgaofacDoorAn
namespace Go.Proofs.YtbbcfghlhgaofacDoor
open Go.RowKit

theorem intVals_set (z : Nat → Int) (n i : Nat) (x : Int) (hi : i < n) : (intVals z n).set i (.int .i64 x) = intVals (fun j => if j = i then x else z j) n := by
  apply List.ext_getElem?
  intro j
  rw [List.getElem?_set, intVals_length]
  by_cases hj : j < n
  · rw [intVals_at _ _ _ hj, intVals_at _ _ _ hj]
    by_cases e : i = j
    · subst e; rw [if_pos rfl, if_pos hi, if_pos rfl]
    · rw [if_neg e, if_neg (fun h => e h.symm)]
  · rw [List.getElem?_eq_none (by rw [intVals_length]; omega), List.getElem?_eq_none (by rw [intVals_length]; omega)]
    split
    · omega
    · rfl
theorem intVals_congr {f g : Nat → Int} (n : Nat) (h : ∀ j, j < n → f j = g j) : intVals f n = intVals g n := List.map_congr_left (fun j hj => by rw [h j (List.mem_range.1 hj)])
theorem intVals_none (n : Nat) : intVals (fun _ => 0) n = List.replicate n (.int .i64 0) := by
  unfold intVals
  rw [List.map_const', List.length_range]
theorem made_own (w : World) (n : Nat) (hn : n ≤ 10000000) : (w.alloc (.cells (madeCells #[.int .i64 0] n) 3)).ownsRow w.heap.size 3 1 (.slice (some ⟨w.heap.size, 0, none⟩) n n) n (intVals (fun _ => 0) n) := by
  rw [intVals_none]
  have := World.ownsRow_lit (base := w.heap.size) (e := 3) (size := 1) w (madeCells #[.int .i64 0] n) n (Nat.le_refl _) (by unfold maxLen; omega) (by rw [size_madeCells, Nat.mul_one])
  rw [toList_madeCells_one] at this
  exact this
theorem own_keep {w w' : World} {B n : Nat} {v : Value} {xs : List Value} (h : w.ownsRow B 3 1 v n xs) (hb : Below w.heap.size w w') : w'.ownsRow B 3 1 v n xs := by
  refine h.kept (row := none) ⟨hb.os, hb.tape, hb.output, hb.size, fun k hk _ => hb.block k hk⟩ ?_
  cases v.ownBlock with
  | none => exact .inl rfl
  | some k => exact .inr (by simp)
theorem own_int {w : World} {base g n cap : Nat} {z : Nat → Int} (h : w.ownsRow base 3 1 (.slice (some ⟨g, 0, none⟩) n cap) n (intVals z n)) (j : Nat) (hj : j < n) : w.cell? ⟨g, j, none⟩ = some (.int .i64 (z j)) := by
  rw [h.cellAt j (by omega), intVals_at _ _ _ hj]
end Go.Proofs.YtbbcfghlhgaofacDoor
