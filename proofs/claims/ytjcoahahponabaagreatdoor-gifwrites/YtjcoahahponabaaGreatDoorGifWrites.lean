/- GifWrites. -/
import Derived.Test.YtjcoahahponabaaGreatDoorMg28
import Derived.Test.YtjcoahahponabaaGreatDoorGq5
namespace Go.Proofs.YtjcoahahponabaaGreatDoor
open Go.RowKit

theorem gifWrites_any (s : Option Addr) (n c : Nat) (V : Nat → FrV) (loops : Int) (w : World) (a : Nat → Addr) (hS : Sent w a) (hF : IsFr w s n V) (hZ : n ≤ maxLen ∧ ∀ i, i < n → (V i).f.n ≤ 140737488355328) :
    Calls Tryz.prog 4 #[.slice s n c, .int .i64 loops] w fun e w' => e = .returned (.bool true) ∧ Below w.heap.size w w' := by
  have h0 := World.block_lt_of_cell? _ _ hS.handle
  simp only at h0
  exact gifWrites_core (fun s n c loops V w h1 h2 h3 => gifOf_any s n c loops V w h1 h2 h3) s n c V loops w a hS (by omega) hF hZ
end Go.Proofs.YtjcoahahponabaaGreatDoor
