/- The statement on grids that are nil, and on one of another size. -/
import Derived.Test.YtcicbafdacfbpaiGreatDoorTilesNilA
import Derived.Test.YtcicbafdacfbpaiGreatDoorTilesNilB
import Derived.Test.YtcicbafdacfbpaiGreatDoorTilesNilC
namespace Go.Proofs.YtcicbafdacfbpaiGreatDoor
open Go.RowKit

theorem tilesNil_any (W H : Int) (a : Option Addr) (n c : Nat) (p : Nat → Px) (V U : Int) (b : Option Addr) (m d : Nat) (s : Nat → Px) (w : World) (A : Nat → Addr) (hS : Sent w A) (hP : IsPx w a n p) (_bW : -9223372036854775808 ≤ W ∧ W ≤ 9223372036854775807) (_bH : -9223372036854775808 ≤ H ∧ H ≤ 9223372036854775807) (hQ : IsPx w b m s) (_bQ : -9223372036854775808 ≤ V ∧ V ≤ 9223372036854775807) (_bR : -9223372036854775808 ≤ U ∧ U ≤ 9223372036854775807) :
    Calls Tryz.prog 6 #[.agg #[.int .i64 W, .int .i64 H, .slice a n c], .agg #[.int .i64 V, .int .i64 U, .slice b m d]] w fun e w' => e = .returned (.bool true) ∧ Below w.heap.size w w' := by
  by_cases hn3 : n ≤ 3000
  rotate_left
  · exact tilesNil_many1 W H a n c p V U b m d s w A hS hP hQ hn3
  by_cases hm3 : m ≤ 3000
  rotate_left
  · exact tilesNil_many2 W H a n c p V U b m d s w A hS hP hQ hn3 hm3
  by_cases hR : RightP W H n
  rotate_left
  · by_cases hR2 : RightP V U m
    rotate_left
    · exact tilesNil_s1s2 W H a n c p V U b m d s w A hS hP hQ hn3 hm3 hR hR2
    obtain ⟨⟨hV0, hV⟩, ⟨hU0, hU⟩, hm⟩ := hR2
    obtain ⟨V, rfl⟩ := Int.eq_ofNat_of_zero_le (show 0 ≤ V by omega)
    obtain ⟨U, rfl⟩ := Int.eq_ofNat_of_zero_le (show 0 ≤ U by omega)
    have hm : m = V * U := by exact_mod_cast hm
    exact tilesNil_s1q W H a n c p V U b m d s w A hS hP hQ hn3 hm3 hR (by omega) (by omega) (by omega) (by omega) hm
  obtain ⟨⟨hW0, hW⟩, ⟨hH0, hH⟩, hn⟩ := hR
  obtain ⟨W, rfl⟩ := Int.eq_ofNat_of_zero_le (show 0 ≤ W by omega)
  obtain ⟨H, rfl⟩ := Int.eq_ofNat_of_zero_le (show 0 ≤ H by omega)
  have hn : n = W * H := by exact_mod_cast hn
  by_cases hR2 : RightP V U m
  rotate_left
  · exact tilesNil_s2 W H a n c p V U b m d s w A hS hP hQ hn3 hm3 hR2 (by omega) (by omega) (by omega) (by omega) hn
  obtain ⟨⟨hV0, hV⟩, ⟨hU0, hU⟩, hm⟩ := hR2
  obtain ⟨V, rfl⟩ := Int.eq_ofNat_of_zero_le (show 0 ≤ V by omega)
  obtain ⟨U, rfl⟩ := Int.eq_ofNat_of_zero_le (show 0 ≤ U by omega)
  have hm : m = V * U := by exact_mod_cast hm
  by_cases hne : W = V ∧ H = U
  · obtain ⟨rfl, rfl⟩ := hne
    obtain rfl : m = n := by rw [hm, hn]
    exact tilesNil_one W H a m c p b d s w A hS hP hQ hn3 (by omega) (by omega) (by omega) (by omega) hn
  · exact tilesNil_other W H a n c p V U b m d s w A hS hP hQ hn3 hm3 (by omega) (by omega) (by omega) (by omega) hn (by omega) (by omega) (by omega) (by omega) hm hne
end Go.Proofs.YtcicbafdacfbpaiGreatDoor
