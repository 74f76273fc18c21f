/- The statement on rows one behind the other: the walk. -/
import Derived.Test.YtmmilamaahmaoafDoorFrA
import Derived.Test.YtmmilamaahmaoafDoorFrB
import Derived.Test.YtmmilamaahmaoafDoorFrC
namespace Go.Proofs.YtmmilamaahmaoafDoor
open Go.RowKit

set_option maxHeartbeats 2000000 in
set_option maxRecDepth 100000 in
theorem filterRows_any (s u : ByteArray) (z st : Int) (w : World) (a : Nat → Addr) (hS : Sent w a) (_hr : s.size ≤ maxLen) (_ha : u.size ≤ maxLen) :
    Calls Tryd.prog 4 #[.string s, .string u, .int .i64 z, .int .i64 st] w fun e w' => e = .returned (.bool true) ∧ Below w.heap.size w w' := by
  by_cases h0 : s.size ≤ 1000
  rotate_left
  · have HL := hide (less_any w a hS)
    have g1 : decide ((s.size : Int) > 1000) = true := by simp; omega
    have g1' : decide ((1000 : Int) < (s.size : Int)) = true := g1
    have g1n : decide (1000 < s.size) = true := by simp; omega
    clear hS
    go_enter Tryd.func4, Tryd.ntmps4
    go_wp2_with fail
    refine (unhide HL).mono ?_; rintro e w1 ⟨rfl, hb1⟩
    go_wp2
    go_ret
    exact ⟨rfl, hb1⟩
  by_cases h00 : u.size ≤ 1000
  rotate_left
  · have HL := hide (less_any w a hS)
    have g1 : decide ((s.size : Int) > 1000) = false := by simp; omega
    have g1' : decide ((1000 : Int) < (s.size : Int)) = false := g1
    have g1n : decide (1000 < s.size) = false := by simp; omega
    have g2 : decide ((u.size : Int) > 1000) = true := by simp; omega
    have g2' : decide ((1000 : Int) < (u.size : Int)) = true := g2
    have g2n : decide (1000 < u.size) = true := by simp; omega
    clear hS
    go_enter Tryd.func4, Tryd.ntmps4
    go_wp2_with fail
    refine (unhide HL).mono ?_; rintro e w1 ⟨rfl, hb1⟩
    go_wp2
    go_ret
    exact ⟨rfl, hb1⟩
  rcases (by omega : z < 1 ∨ 300000 < z ∨ (1 ≤ z ∧ z ≤ 300000)) with h1 | h1 | h1
  · exact fr_wlo s u z st w a hS h1 h0 h00
  · exact fr_whi s u z st w a hS h1 h0 h00
  rcases (by omega : st < 1 ∨ 8 < st ∨ (1 ≤ st ∧ st ≤ 8)) with h2 | h2 | h2
  · exact fr_slo s u z st w a hS h1 h2 h0 h00
  · exact fr_shi s u z st w a hS h1 h2 h0 h00
  obtain ⟨wd, rfl⟩ := Int.eq_ofNat_of_zero_le (show 0 ≤ z by omega)
  obtain ⟨t, rfl⟩ := Int.eq_ofNat_of_zero_le (show 0 ≤ st by omega)
  have h1' : 1 ≤ wd ∧ wd ≤ 300000 := by omega
  have h2' : 1 ≤ t ∧ t ≤ 8 := by omega
  have whole : ∀ n m : Nat, n % m = 0 → n / m * m = n := fun n m h => by
    have := Nat.div_add_mod n m
    rw [h, Nat.add_zero, Nat.mul_comm] at this
    exact this
  by_cases h3 : s.size % wd = 0
  · by_cases h4 : u.size % (wd + 1) = 0
    · rcases first_bad u.data.toList wd (u.size / (wd + 1)) with h5 | ⟨i, hi, h5, h6⟩
      · exact fr_ok_all s u wd t _ _ w a hS h1' h2' (whole _ _ h3) (whole _ _ h4) h5 h0 h00
      · exact fr_ok_at s u wd t _ _ w a hS h1' h2' (whole _ _ h3) (whole _ _ h4) i hi h5 h6 h0 h00
    · exact fr_ok_shape s u wd t _ w a hS h1' h2' (whole _ _ h3) h4 h0 h00
  · by_cases h4 : u.size % (wd + 1) = 0
    · rcases first_bad u.data.toList wd (u.size / (wd + 1)) with h5 | ⟨i, hi, h5, h6⟩
      · exact fr_bad_all s u wd t _ w a hS h1' h2' h3 (whole _ _ h4) h5 h0 h00
      · exact fr_bad_at s u wd t _ w a hS h1' h2' h3 (whole _ _ h4) i hi h5 h6 h0 h00
    · exact fr_bad_shape s u wd t w a hS h1' h2' h3 h4 h0 h00
end Go.Proofs.YtmmilamaahmaoafDoor
