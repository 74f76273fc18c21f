/- The statement on pictures stamped on others. -/
import Derived.Test.YtjhnneplknhmkahDoorRasterStampsA
import Derived.Test.YtjhnneplknhmkahDoorRasterStampsB
import Derived.Test.YtjhnneplknhmkahDoorRasterStampsC
import Derived.Test.YtjhnneplknhmkahDoorRasterStampsD
import Derived.Test.YtjhnneplknhmkahDoorRasterStampsE
import Derived.Test.YtjhnneplknhmkahDoorRasterStampsF
import Derived.Test.YtjhnneplknhmkahDoorRasterStampsG
namespace Go.Proofs.YtjhnneplknhmkahDoor
open Go.RowKit

theorem rasterStamps_any (W H : Int) (a : Option Addr) (n c : Nat) (p : Nat → Px) (QW QH : Int) (b : Option Addr) (m d : Nat) (s : Nat → Px) (X Y mo : Int) (w : World) (A : Nat → Addr) (hS : Sent w A) (hP : IsPx w a n p) (_bW : -9223372036854775808 ≤ W ∧ W ≤ 9223372036854775807) (_bH : -9223372036854775808 ≤ H ∧ H ≤ 9223372036854775807) (hQ : IsPx w b m s) (_bQ : -9223372036854775808 ≤ QW ∧ QW ≤ 9223372036854775807) (_bR : -9223372036854775808 ≤ QH ∧ QH ≤ 9223372036854775807) :
    Calls Tryd.prog 5 #[.agg #[.int .i64 W, .int .i64 H, .slice a n c], .agg #[.int .i64 QW, .int .i64 QH, .slice b m d], .int .i64 X, .int .i64 Y, .int .i64 mo] w fun e w' => e = .returned (.bool true) ∧ Below w.heap.size w w' := by
  by_cases hn3 : n ≤ 3000
  rotate_left
  · exact rasterStamps_many1 W H a n c p QW QH b m d s X Y mo w A hS hP hQ hn3
  by_cases hm3 : m ≤ 3000
  rotate_left
  · exact rasterStamps_many2 W H a n c p QW QH b m d s X Y mo w A hS hP hQ hn3 hm3
  by_cases hR : RightP W H n
  rotate_left
  · by_cases n1 : Nr X
    rotate_left
    · exact rasterStamps_s1n1 W H a n c p QW QH b m d s X Y mo w A hS hP hQ hn3 hm3 hR n1
    by_cases n2 : Nr Y
    rotate_left
    · exact rasterStamps_s1n2 W H a n c p QW QH b m d s X Y mo w A hS hP hQ hn3 hm3 hR n1 n2
    by_cases hmo : 0 ≤ mo ∧ mo ≤ 5
    rotate_left
    · exact rasterStamps_s1mo W H a n c p QW QH b m d s X Y mo w A hS hP hQ hn3 hm3 hR n1 n2 hmo
    exact rasterStamps_s1ok W H a n c p QW QH b m d s X Y mo w A hS hP hQ hn3 hm3 hR n1 n2 hmo
  obtain ⟨⟨hW0, hW⟩, ⟨hH0, hH⟩, hn⟩ := hR
  obtain ⟨W, rfl⟩ := Int.eq_ofNat_of_zero_le (show 0 ≤ W by omega)
  obtain ⟨H, rfl⟩ := Int.eq_ofNat_of_zero_le (show 0 ≤ H by omega)
  have hn : n = W * H := by exact_mod_cast hn
  have w1 : 1 ≤ W := by omega
  have w2 : W ≤ 256 := by omega
  have w3 : 1 ≤ H := by omega
  have w4 : H ≤ 256 := by omega
  by_cases hR : RightP QW QH m
  rotate_left
  · by_cases n1 : Nr X
    rotate_left
    · exact rasterStamps_s2n1 W H a n c p QW QH b m d s X Y mo w A hS hP hQ hn3 hm3 w1 w2 w3 w4 hn hR n1
    by_cases n2 : Nr Y
    rotate_left
    · exact rasterStamps_s2n2 W H a n c p QW QH b m d s X Y mo w A hS hP hQ hn3 hm3 w1 w2 w3 w4 hn hR n1 n2
    by_cases hmo : 0 ≤ mo ∧ mo ≤ 5
    rotate_left
    · exact rasterStamps_s2mo W H a n c p QW QH b m d s X Y mo w A hS hP hQ hn3 hm3 w1 w2 w3 w4 hn hR n1 n2 hmo
    exact rasterStamps_s2ok W H a n c p QW QH b m d s X Y mo w A hS hP hQ hn3 hm3 w1 w2 w3 w4 hn hR n1 n2 hmo
  obtain ⟨⟨gW0, gW⟩, ⟨gH0, gH⟩, hm⟩ := hR
  obtain ⟨QW, rfl⟩ := Int.eq_ofNat_of_zero_le (show 0 ≤ QW by omega)
  obtain ⟨QH, rfl⟩ := Int.eq_ofNat_of_zero_le (show 0 ≤ QH by omega)
  have hm : m = QW * QH := by exact_mod_cast hm
  have v1 : 1 ≤ QW := by omega
  have v2 : QW ≤ 256 := by omega
  have v3 : 1 ≤ QH := by omega
  have v4 : QH ≤ 256 := by omega
  by_cases n1 : Nr X
  rotate_left
  · exact rasterStamps_bn1 W H a n c p QW QH b m d s X Y mo w A hS hP hQ hn3 hm3 w1 w2 w3 w4 hn v1 v2 v3 v4 hm n1
  by_cases n2 : Nr Y
  rotate_left
  · exact rasterStamps_bn2 W H a n c p QW QH b m d s X Y mo w A hS hP hQ hn3 hm3 w1 w2 w3 w4 hn v1 v2 v3 v4 hm n1 n2
  by_cases hmo : 0 ≤ mo ∧ mo ≤ 5
  rotate_left
  · exact rasterStamps_bmo W H a n c p QW QH b m d s X Y mo w A hS hP hQ hn3 hm3 w1 w2 w3 w4 hn v1 v2 v3 v4 hm n1 n2 hmo
  obtain ⟨mo, rfl⟩ := Int.eq_ofNat_of_zero_le hmo.1
  exact rasterStamps_ok W H a n c p QW QH b m d s X Y mo w A hS hP hQ hn3 hm3 w1 w2 w3 w4 hn v1 v2 v3 v4 hm n1 n2 (by omega)
end Go.Proofs.YtjhnneplknhmkahDoor
