/- The statement on floods. -/
import Derived.Test.YtcicbafdacfbpaiDoorRasterFloodsA
import Derived.Test.YtcicbafdacfbpaiDoorRasterFloodsB
namespace Go.Proofs.YtcicbafdacfbpaiDoor
open Go.RowKit

theorem rasterFloods_any (W H : Int) (a : Option Addr) (n c : Nat) (p : Nat → Px) (x y : Int) (q : Px) (w : World) (A : Nat → Addr) (hS : Sent w A) (hP : IsPx w a n p) (_bW : -9223372036854775808 ≤ W ∧ W ≤ 9223372036854775807) (_bH : -9223372036854775808 ≤ H ∧ H ≤ 9223372036854775807) :
    Calls Tryd.prog 3 #[.agg #[.int .i64 W, .int .i64 H, .slice a n c], .int .i64 x, .int .i64 y, q.val] w fun e w' => e = .returned (.bool true) ∧ Below w.heap.size w w' := by
  by_cases hn3 : n ≤ 3000
  rotate_left
  · exact rasterFloods_many W H a n c p x y q w A hS hP hn3
  by_cases hR : RightP W H n
  rotate_left
  · by_cases hin : 0 ≤ x ∧ 0 ≤ y ∧ x < W ∧ y < H
    · exact rasterFloods_shapein W H a n c p x y q w A hS hP hn3 hR hin
    · exact rasterFloods_shapeout W H a n c p x y q w A hS hP hn3 hR hin
  obtain ⟨⟨hW0, hW⟩, ⟨hH0, hH⟩, hn⟩ := hR
  obtain ⟨W, rfl⟩ := Int.eq_ofNat_of_zero_le (show 0 ≤ W by omega)
  obtain ⟨H, rfl⟩ := Int.eq_ofNat_of_zero_le (show 0 ≤ H by omega)
  have hn : n = W * H := by exact_mod_cast hn
  by_cases hin : 0 ≤ x ∧ 0 ≤ y ∧ x < (W : Int) ∧ y < (H : Int)
  · obtain ⟨x, rfl⟩ := Int.eq_ofNat_of_zero_le hin.1
    obtain ⟨y, rfl⟩ := Int.eq_ofNat_of_zero_le hin.2.1
    exact rasterFloods_ok W H a n c p x y q w A hS hP hn3 (by omega) (by omega) (by omega) (by omega) hn (by omega) (by omega)
  · exact rasterFloods_bound W H a n c p x y q w A hS hP hn3 (by omega) (by omega) (by omega) (by omega) hn hin
end Go.Proofs.YtcicbafdacfbpaiDoor
