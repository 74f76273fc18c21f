/- GifTwice, with each error's variable by itself. -/
import Derived.Test.YtjcoahahponabaaDoorGtw
namespace Go.Proofs.YtjcoahahponabaaDoor
open Go.RowKit

theorem gifTwice_any (s : Option Addr) (n c : Nat) (V : Nat → FrV) (loops : Int) (w : World) (a : Nat → Addr)
    (e0 : w.cell? ⟨0, 0, none⟩ = some (.iface 153 (.pointer (some (a 0)))))
    (e1 : w.cell? ⟨1, 0, none⟩ = some (.iface 153 (.pointer (some (a 1)))))
    (e2 : w.cell? ⟨3, 0, none⟩ = some (.iface 153 (.pointer (some (a 2)))))
    (e6 : w.cell? ⟨2, 0, none⟩ = some (.iface 153 (.pointer (some (a 6)))))
    (hF : IsFr w s n V) (hZ : n ≤ maxLen ∧ ∀ i, i < n → (V i).f.n ≤ 140737488355328) :
    Calls Tryd.prog 3 #[.slice s n c, .int .i64 loops] w fun e w' => e = .returned (.bool true) ∧ Below w.heap.size w w' := by
  have hS : Told w [1, 2, 6] a := fun i hi => by
    simp only [List.mem_cons, List.not_mem_nil, or_false] at hi
    rcases hi with rfl | rfl | rfl
    · exact e1
    · exact e2
    · exact e6
  have b0 := World.block_lt_of_cell? _ _ e0
  have b1 := World.block_lt_of_cell? _ _ e1
  have b2 := World.block_lt_of_cell? _ _ e2
  have b6 := World.block_lt_of_cell? _ _ e6
  simp only at b0 b1 b2 b6
  exact gifTwice_core s n c V loops w a hS e0 (by omega) hF hZ
end Go.Proofs.YtjcoahahponabaaDoor
