/- The statement on pictures flipped, turned, halved and of another size. Written by genrl.py. -/
import Derived.Test.YtjchafbihfblnahDoorRasterTurnsA
import Derived.Test.YtjchafbihfblnahDoorRasterTurnsB
import Derived.Test.YtjchafbihfblnahDoorRasterTurnsC
namespace Go.Proofs.YtjchafbihfblnahDoor
open Go.RowKit

theorem rasterTurns_any (W H : Int) (a : Option Addr) (n c : Nat) (p : Nat → Px) (d : Bool) (z u v : Int) (w : World) (A : Nat → Addr) (hS : Sent w A) (hP : IsPx w a n p) (_bW : -9223372036854775808 ≤ W ∧ W ≤ 9223372036854775807) (_bH : -9223372036854775808 ≤ H ∧ H ≤ 9223372036854775807) :
    Calls Tryd.prog 6 #[.agg #[.int .i64 W, .int .i64 H, .slice a n c], .bool d, .int .i64 z, .int .i64 u, .int .i64 v] w fun e w' => e = .returned (.bool true) ∧ Below w.heap.size w w' := by
  by_cases hn3 : n ≤ 3000
  rotate_left
  · exact rasterTurns_many W H a n c p d z u v w A hS hP hn3
  by_cases hR : RightP W H n
  rotate_left
  · exact rasterTurns_shape W H a n c p d z u v w A hS hP hn3 hR
  obtain ⟨⟨hW0, hW⟩, ⟨hH0, hH⟩, hn⟩ := hR
  obtain ⟨W, rfl⟩ := Int.eq_ofNat_of_zero_le (show 0 ≤ W by omega)
  obtain ⟨H, rfl⟩ := Int.eq_ofNat_of_zero_le (show 0 ≤ H by omega)
  have hn : n = W * H := by exact_mod_cast hn
  have w1 : 1 ≤ W := by omega
  have w2 : W ≤ 256 := by omega
  have w3 : 1 ≤ H := by omega
  have w4 : H ≤ 256 := by omega
  by_cases hu : 1 ≤ u ∧ u ≤ 256
  rotate_left
  · exact rasterTurns_bad1 W H a n c p d z u v w A hS hP hn3 w1 w2 w3 w4 hn hu
  by_cases hv : 1 ≤ v ∧ v ≤ 256
  rotate_left
  · exact rasterTurns_bad2 W H a n c p d z u v w A hS hP hn3 w1 w2 w3 w4 hn hu hv
  obtain ⟨u, rfl⟩ := Int.eq_ofNat_of_zero_le (show 0 ≤ u by omega)
  obtain ⟨v, rfl⟩ := Int.eq_ofNat_of_zero_le (show 0 ≤ v by omega)
  exact rasterTurns_ok W H a n c p d z u v w A hS hP hn3 w1 w2 w3 w4 hn (by omega) (by omega) (by omega) (by omega)
end Go.Proofs.YtjchafbihfblnahDoor
