/- Some of the project's errors, where no type's handle is listed. -/
import Derived.Test.YthkecbgifajmmaaDoorCodeV
namespace Go.Proofs.YthkecbgifajmmaaDoor
open Go.RowKit

/-- The variables of these errors hold errors of errors.New's make. -/
def Told (w : World) (l : List Nat) (a : Nat → Addr) : Prop := ∀ i, i ∈ l → w.cell? ⟨sentAt i, 0, none⟩ = some (sentV a i)

theorem Told.below {w w' : World} {l : List Nat} {a : Nat → Addr} (h : Told w l a) (hb : Below w.heap.size w w') : Told w' l a := fun i hi => by
  rw [hb.cell (cell_block (h i hi))]; exact h i hi
end Go.Proofs.YthkecbgifajmmaaDoor
