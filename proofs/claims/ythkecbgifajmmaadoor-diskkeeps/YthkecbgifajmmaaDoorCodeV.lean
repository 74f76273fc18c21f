/- The project's errors as values (cut out of Code). -/
import Derived.Test.YthkecbgifajmmaaDoorBase
import Derived.Below
namespace Go.Proofs.YthkecbgifajmmaaDoor
open Go.RowKit

/-- The number of the i-th error's variable. -/
def sentAt (i : Nat) : Nat := [1, 0, 2, 3, 4, 5, 6, 7, 8].getD i 0

/-- The i-th error as a value. -/
def sentV (a : Nat → Addr) (i : Nat) : Value := .iface 110 (.pointer (some (a i)))

theorem cell_block {w : World} {p : Addr} {v : Value} (h : w.cell? p = some v) : p.block < w.heap.size := by
  rcases Nat.lt_or_ge p.block w.heap.size with h' | h'
  · exact h'
  · simp [World.cell?, Array.getElem?_eq_none h'] at h
theorem heap_block {w : World} {k : Nat} {o : Obj} (h : w.heap[k]? = some o) : k < w.heap.size := by
  rcases Nat.lt_or_ge k w.heap.size with h' | h'
  · exact h'
  · simp [Array.getElem?_eq_none h'] at h

end Go.Proofs.YthkecbgifajmmaaDoor
