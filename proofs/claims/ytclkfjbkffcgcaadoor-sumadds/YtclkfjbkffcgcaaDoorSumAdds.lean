/- Walks of the statement on sums that are joined again. -/
import Derived.Test.YtclkfjbkffcgcaaDoorJoin
namespace Go.Proofs.YtclkfjbkffcgcaaDoor
open Go.RowKit

theorem adds (x y z a b : Nat) : Crc.steps (8 * b) (Crc.steps (8 * a) x ^^^ y) ^^^ z = Crc.steps (8 * (a + b)) x ^^^ (Crc.steps (8 * b) y ^^^ z) := by
  rw [Crc.steps_xor, show 8 * (a + b) = 8 * a + 8 * b from by omega, Crc.steps_add, Nat.xor_assoc]

set_option maxHeartbeats 400000 in
theorem sumAdds_in (x y z a b : Nat) (w : World) (hx : x < 4294967296) (hy : y < 4294967296) (hz : z < 4294967296) (ha : a ≤ 1073741824) (hb : b ≤ 1073741824) :
    Calls Tryd.prog 5 #[.int .u32 (x : Int), .int .u32 (y : Int), .int .u32 (z : Int), .int .i64 (a : Int), .int .i64 (b : Int)] w fun e w' => e = .returned (.bool true) ∧ Below w.heap.size w w' := by
  have h1 : decide ((a : Int) < 0) = false := by simp
  have h2 : decide ((1073741824 : Int) < (a : Int)) = false := by simp; omega
  have h3 : decide ((b : Int) < 0) = false := by simp
  have h4 : decide ((1073741824 : Int) < (b : Int)) = false := by simp; omega
  have hp := xor_lt32 (Crc.steps_lt (8 * a) hx) hy
  have hq := xor_lt32 (Crc.steps_lt (8 * b) hy) hz
  have hadd := hide (adds x y z a b)
  have hcl : a + b ≤ 1099511627776 := by omega
  obtain ⟨c, hc⟩ : ∃ c, c = a + b := ⟨_, rfl⟩
  have hab : (a : Int) + (b : Int) = (c : Int) := by omega
  rw [← hc] at hcl hadd
  clear hc
  go_enter Tryd.func5, Tryd.ntmps5
  go_wp2_with fail
  refine (known_any _).mono ?_; rintro e w1 ⟨rfl, hb1⟩
  go_wp2_with fail
  refine (joinCRC_yes x y a _ hx hy (by omega)).mono ?_; rintro e w2 ⟨rfl, rfl⟩
  go_wp2_with fail
  refine (joinCRC_yes _ z b _ hp hz (by omega)).mono ?_; rintro e w3 ⟨rfl, rfl⟩
  go_wp2_with fail
  refine (joinCRC_yes y z b _ hy hz (by omega)).mono ?_; rintro e w4 ⟨rfl, rfl⟩
  go_wp2_with fail
  refine (joinCRC_yes x _ c _ hx hq hcl).mono ?_; rintro e w5 ⟨rfl, rfl⟩
  rw [unhide hadd]
  go_wp2
  go_ret
  exact ⟨by simp, hb1⟩

set_option maxHeartbeats 400000 in
theorem sumAdds_any (x y z : Nat) (a b : Int) (w : World) (hx : x < 4294967296) (hy : y < 4294967296) (hz : z < 4294967296) :
    Calls Tryd.prog 5 #[.int .u32 (x : Int), .int .u32 (y : Int), .int .u32 (z : Int), .int .i64 a, .int .i64 b] w fun e w' => e = .returned (.bool true) ∧ Below w.heap.size w w' := by
  by_cases h1 : a < 0
  · have hd : decide (a < 0) = true := by simp; omega
    go_enter Tryd.func5, Tryd.ntmps5
    go_wp2_with fail
    refine (known_any _).mono ?_; rintro e w1 ⟨rfl, hb1⟩
    go_wp2
    go_ret
    exact ⟨rfl, hb1⟩
  have hd1 : decide (a < 0) = false := by simp; omega
  by_cases h2 : 1073741824 < a
  · have hd : decide (1073741824 < a) = true := by simp; omega
    go_enter Tryd.func5, Tryd.ntmps5
    go_wp2_with fail
    refine (known_any _).mono ?_; rintro e w1 ⟨rfl, hb1⟩
    go_wp2
    go_ret
    exact ⟨rfl, hb1⟩
  have hd2 : decide (1073741824 < a) = false := by simp; omega
  by_cases h3 : b < 0
  · have hd : decide (b < 0) = true := by simp; omega
    go_enter Tryd.func5, Tryd.ntmps5
    go_wp2_with fail
    refine (known_any _).mono ?_; rintro e w1 ⟨rfl, hb1⟩
    go_wp2
    go_ret
    exact ⟨rfl, hb1⟩
  have hd3 : decide (b < 0) = false := by simp; omega
  by_cases h4 : 1073741824 < b
  · have hd : decide (1073741824 < b) = true := by simp; omega
    go_enter Tryd.func5, Tryd.ntmps5
    go_wp2_with fail
    refine (known_any _).mono ?_; rintro e w1 ⟨rfl, hb1⟩
    go_wp2
    go_ret
    exact ⟨rfl, hb1⟩
  obtain ⟨m, rfl⟩ := Int.eq_ofNat_of_zero_le (show 0 ≤ a by omega)
  obtain ⟨n, rfl⟩ := Int.eq_ofNat_of_zero_le (show 0 ≤ b by omega)
  exact sumAdds_in x y z m n w hx hy hz (by omega) (by omega)
end Go.Proofs.YtclkfjbkffcgcaaDoor
