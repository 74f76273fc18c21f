/- The statement on parts of pictures. Written by genrl.py. -/
import Derived.Test.YtjhnneplknhmkahDoorRasterPartsA
import Derived.Test.YtjhnneplknhmkahDoorRasterPartsB
import Derived.Test.YtjhnneplknhmkahDoorRasterPartsC
import Derived.Test.YtjhnneplknhmkahDoorRc
namespace Go.Proofs.YtjhnneplknhmkahDoor
open Go.RowKit

theorem rasterParts_any (W H : Int) (a : Option Addr) (n c : Nat) (p : Nat → Px) (X Y RW RH : Int) (q : Px) (w : World) (A : Nat → Addr) (hS : Sent w A) (hP : IsPx w a n p) (_bW : -9223372036854775808 ≤ W ∧ W ≤ 9223372036854775807) (_bH : -9223372036854775808 ≤ H ∧ H ≤ 9223372036854775807) :
    Calls Tryd.prog 4 #[.agg #[.int .i64 W, .int .i64 H, .slice a n c], .agg #[.int .i64 X, .int .i64 Y, .int .i64 RW, .int .i64 RH], q.val] w fun e w' => e = .returned (.bool true) ∧ Below w.heap.size w w' := by
  by_cases hn3 : n ≤ 3000
  rotate_left
  · exact rasterParts_many W H a n c p X Y RW RH q w A hS hP hn3
  by_cases hR : RightP W H n
  rotate_left
  · exact rasterParts_shape W H a n c p X Y RW RH q w A hS hP hn3 hR
  obtain ⟨⟨hW0, hW⟩, ⟨hH0, hH⟩, hn⟩ := hR
  obtain ⟨W, rfl⟩ := Int.eq_ofNat_of_zero_le (show 0 ≤ W by omega)
  obtain ⟨H, rfl⟩ := Int.eq_ofNat_of_zero_le (show 0 ≤ H by omega)
  have hn : n = W * H := by exact_mod_cast hn
  have w1 : 1 ≤ W := by omega
  have w2 : W ≤ 256 := by omega
  have w3 : 1 ≤ H := by omega
  have w4 : H ≤ 256 := by omega
  by_cases hcb : (0 ≤ X ∧ X < (W : Int) ∧ 0 ≤ Y ∧ Y < (H : Int)) ∧ 1 ≤ RW ∧ 1 ≤ RH ∧ RW ≤ (W : Int) - X ∧ RH ≤ (H : Int) - Y
  · obtain ⟨X, rfl⟩ := Int.eq_ofNat_of_zero_le (show 0 ≤ X by omega)
    obtain ⟨Y, rfl⟩ := Int.eq_ofNat_of_zero_le (show 0 ≤ Y by omega)
    obtain ⟨RW, rfl⟩ := Int.eq_ofNat_of_zero_le (show 0 ≤ RW by omega)
    obtain ⟨RH, rfl⟩ := Int.eq_ofNat_of_zero_le (show 0 ≤ RH by omega)
    exact rasterParts_ok W H a n c p X Y RW RH q w A hS hP hn3 w1 w2 w3 w4 hn (by omega) (by omega) (by omega) (by omega) (by omega) (by omega)
  by_cases n1 : Nr X
  rotate_left
  · exact rasterParts_near1 W H a n c p X Y RW RH q w A hS hP hn3 w1 w2 w3 w4 hn hcb n1
  by_cases n2 : Nr Y
  rotate_left
  · exact rasterParts_near2 W H a n c p X Y RW RH q w A hS hP hn3 w1 w2 w3 w4 hn hcb n1 n2
  by_cases n3 : Nr RW
  rotate_left
  · exact rasterParts_near3 W H a n c p X Y RW RH q w A hS hP hn3 w1 w2 w3 w4 hn hcb n1 n2 n3
  by_cases n4 : Nr RH
  rotate_left
  · exact rasterParts_near4 W H a n c p X Y RW RH q w A hS hP hn3 w1 w2 w3 w4 hn hcb n1 n2 n3 n4
  by_cases h0 : RW < 0
  · exact rasterParts_less1 W H a n c p X Y RW RH q w A hS hP hn3 w1 w2 w3 w4 hn hcb n1 n2 n3 n4 h0
  by_cases h1 : RH < 0
  · exact rasterParts_less2 W H a n c p X Y RW RH q w A hS hP hn3 w1 w2 w3 w4 hn hcb n1 n2 n3 n4 h0 h1
  · exact rasterParts_fill W H a n c p X Y RW RH q w A hS hP hn3 w1 w2 w3 w4 hn hcb n1 n2 n3 n4 h0 h1
end Go.Proofs.YtjhnneplknhmkahDoor
