/- Walk of the document's own least cost: counts put in order, their sums, a table; then the choosing. -/
import Derived.Test.YtogpkpjdipeiiabDoorHB
import Derived.Test.YtogpkpjdipeiiabDoorAn
import Derived.Test.YtogpkpjdipeiiabDoorPm4
import Derived.Deep.OwnRows
import Derived.Maps.AppendAt
import Derived.BigQuiet
namespace Go.Proofs.YtogpkpjdipeiiabDoor
open Go.RowKit Pm

/-- The counts above 0 of the first i. -/
def posOf (c : Nat → Nat) (i : Nat) : List Nat := ((List.range i).map c).filter fun x => decide (0 < x)
theorem posOf_zero (c : Nat → Nat) (i : Nat) (h : c i = 0) : posOf c (i + 1) = posOf c i := by
  unfold posOf; rw [List.range_succ, List.map_append, List.filter_append]; simp [h]
theorem posOf_pos (c : Nat → Nat) (i : Nat) (h : 0 < c i) : posOf c (i + 1) = posOf c i ++ [c i] := by
  unfold posOf; rw [List.range_succ, List.map_append, List.filter_append]; simp [h]
theorem posOf_length (c : Nat → Nat) (i : Nat) : (posOf c i).length ≤ i := by
  unfold posOf
  refine Nat.le_trans (List.length_filter_le _ _) (by simp)

/-- Falling. -/
def Fall (F : List Nat) : Prop := F.Pairwise (fun a b => b ≤ a)

theorem fall_put (F : List Nat) (k x : Nat) (h : Fall F) (hk : k ≤ F.length) (h1 : ∀ j, j < k → ∀ y, F[j]? = some y → x ≤ y) (h2 : ∀ y, F[k]? = some y → y < x) : Fall (F.take k ++ [x] ++ F.drop k) := by
  induction F generalizing k with
  | nil => simp [Fall]
  | cons a F ih =>
    cases k with
    | zero =>
      have ha := h2 a (by simp)
      simp only [List.take_zero, List.nil_append, List.drop_zero, List.singleton_append]
      refine List.pairwise_cons.2 ⟨fun y hy => ?_, h⟩
      rcases List.mem_cons.1 hy with rfl | hy
      · omega
      · have := (List.pairwise_cons.1 h).1 y hy; omega
    | succ k =>
      have ha := h1 0 (by omega) a (by simp)
      have hf := ih k (List.pairwise_cons.1 h).2 (by simp at hk; omega) (fun j hj y hy => h1 (j + 1) (by omega) y (by simpa using hy)) (fun y hy => h2 y (by simpa using hy))
      simp only [List.take_succ_cons, List.drop_succ_cons, List.cons_append]
      refine List.pairwise_cons.2 ⟨fun y hy => ?_, hf⟩
      simp only [List.append_assoc, List.mem_append, List.mem_singleton] at hy
      rcases hy with hy | rfl | hy
      · exact (List.pairwise_cons.1 h).1 y (List.mem_of_mem_take hy)
      · exact ha
      · exact (List.pairwise_cons.1 h).1 y (List.mem_of_mem_drop hy)
theorem perm_put (F : List Nat) (k x : Nat) : (F.take k ++ [x] ++ F.drop k).Perm (F ++ [x]) := by
  have h : (F.take k ++ ([x] ++ F.drop k)).Perm (F.take k ++ (F.drop k ++ [x])) := List.Perm.append_left _ List.perm_append_comm
  rw [List.append_assoc]
  refine h.trans ?_
  rw [← List.append_assoc, List.take_append_drop]
end Go.Proofs.YtogpkpjdipeiiabDoor
