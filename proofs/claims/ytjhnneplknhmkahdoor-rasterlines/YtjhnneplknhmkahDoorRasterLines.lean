/- The statement on lines. Written by genrl.py. -/
import Derived.Test.YtjhnneplknhmkahDoorRasterLinesA
import Derived.Test.YtjhnneplknhmkahDoorRasterLinesB
import Derived.Test.YtjhnneplknhmkahDoorRasterLinesC
import Derived.Test.YtjhnneplknhmkahDoorRasterLinesD
namespace Go.Proofs.YtjhnneplknhmkahDoor
open Go.RowKit

theorem rasterLines_any (W H : Int) (a : Option Addr) (n c : Nat) (p : Nat → Px) (x0 y0 x1 y1 : Int) (q : Px) (w : World) (A : Nat → Addr) (hS : Sent w A) (hP : IsPx w a n p) (_bW : -9223372036854775808 ≤ W ∧ W ≤ 9223372036854775807) (_bH : -9223372036854775808 ≤ H ∧ H ≤ 9223372036854775807) :
    Calls Tryd.prog 8 #[.agg #[.int .i64 W, .int .i64 H, .slice a n c], .int .i64 x0, .int .i64 y0, .int .i64 x1, .int .i64 y1, q.val] w fun e w' => e = .returned (.bool true) ∧ Below w.heap.size w w' := by
  by_cases hn3 : n ≤ 3000
  rotate_left
  · exact rasterLines_many W H a n c p x0 y0 x1 y1 q w A hS hP hn3
  by_cases hR : RightP W H n
  rotate_left
  · by_cases n1 : Nr x0
    rotate_left
    · exact rasterLines_shape1 W H a n c p x0 y0 x1 y1 q w A hS hP hn3 hR n1
    by_cases n2 : Nr y0
    rotate_left
    · exact rasterLines_shape2 W H a n c p x0 y0 x1 y1 q w A hS hP hn3 hR n1 n2
    by_cases n3 : Nr x1
    rotate_left
    · exact rasterLines_shape3 W H a n c p x0 y0 x1 y1 q w A hS hP hn3 hR n1 n2 n3
    by_cases n4 : Nr y1
    rotate_left
    · exact rasterLines_shape4 W H a n c p x0 y0 x1 y1 q w A hS hP hn3 hR n1 n2 n3 n4
    exact rasterLines_shape0 W H a n c p x0 y0 x1 y1 q w A hS hP hn3 hR n1 n2 n3 n4
  obtain ⟨⟨hW0, hW⟩, ⟨hH0, hH⟩, hn⟩ := hR
  obtain ⟨W, rfl⟩ := Int.eq_ofNat_of_zero_le (show 0 ≤ W by omega)
  obtain ⟨H, rfl⟩ := Int.eq_ofNat_of_zero_le (show 0 ≤ H by omega)
  have hn : n = W * H := by exact_mod_cast hn
  have w1 : 1 ≤ W := by omega
  have w2 : W ≤ 256 := by omega
  have w3 : 1 ≤ H := by omega
  have w4 : H ≤ 256 := by omega
  by_cases n1 : Nr x0
  rotate_left
  · exact rasterLines_bound1 W H a n c p x0 y0 x1 y1 q w A hS hP hn3 w1 w2 w3 w4 hn n1
  by_cases n2 : Nr y0
  rotate_left
  · exact rasterLines_bound2 W H a n c p x0 y0 x1 y1 q w A hS hP hn3 w1 w2 w3 w4 hn n1 n2
  by_cases n3 : Nr x1
  rotate_left
  · exact rasterLines_bound3 W H a n c p x0 y0 x1 y1 q w A hS hP hn3 w1 w2 w3 w4 hn n1 n2 n3
  by_cases n4 : Nr y1
  rotate_left
  · exact rasterLines_bound4 W H a n c p x0 y0 x1 y1 q w A hS hP hn3 w1 w2 w3 w4 hn n1 n2 n3 n4
  exact rasterLines_ok W H a n c p x0 y0 x1 y1 q w A hS hP hn3 w1 w2 w3 w4 hn n1 n2 n3 n4
end Go.Proofs.YtjhnneplknhmkahDoor
