/- GifReads. -/
import Derived.Test.YtjcoahahponabaaGreatDoorMh29
import Derived.Test.YtjcoahahponabaaGreatDoorGq5
namespace Go.Proofs.YtjcoahahponabaaGreatDoor
open Go.RowKit

theorem gifReads_any (s : ByteArray) (w : World) (a : Nat → Addr) (hS : Sent w a) (_hs : s.size ≤ maxLen) :
    Calls Tryz.prog 5 #[.string s] w fun e w' => e = .returned (.bool true) ∧ Below w.heap.size w w' := by
  have h0 := World.block_lt_of_cell? _ _ hS.handle
  simp only at h0
  exact gifReads_core (fun s n c loops V w h1 h2 h3 => gifOf_any s n c loops V w h1 h2 h3) s w a hS (by omega)
end Go.Proofs.YtjcoahahponabaaGreatDoor
