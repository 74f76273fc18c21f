/- The statement on bits of any text: for every text and slice of numbers. -/
import Derived.Test.YtpdbkolbbkbbnabDoorBitsGet
namespace Go.Proofs.YtpdbkolbbkbbnabDoor
open Go.RowKit

set_option maxHeartbeats 400000 in
theorem bitsGet_none (s : ByteArray) (ao : Option Addr) (cap : Nat) (w : World) (hs : s.size ≤ 500) :
    Calls Tryd.prog 4 #[.string s, .slice ao 0 cap] w fun e w' => e = .returned (.bool true) ∧ Below w.heap.size w w' := by
  have hd0 : decide ((500 : Int) < (s.size : Int)) = false := by simp; omega
  go_enter Tryd.func4, Tryd.ntmps4
  go_wp2_with fail
  refine (three_any _).mono ?_; rintro e w1 ⟨rfl, hb1⟩
  go_wp2_with fail
  refine (newReader_any s _ (by omega)).mono ?_; rintro e w2 ⟨rfl, hR2, hb2⟩
  clear hR2
  go_wp2_with fail
  refine (bits_any s _ (by omega)).mono ?_; rintro e w3 ⟨rfl, hb3⟩
  have k2 := hb1.trans (hb2.mono hb1.size)
  have k3 := k2.trans (hb3.mono k2.size)
  clear hb1 hb2 hb3 k2
  generalize bt (8 * s.size) (tv s) = al at *
  generalize w1.heap.size = p at *
  go_wp2
  go_loopw [4, 8, 9] (fun r t i wr => i = .int .i64 0 ∧ wr = w3) (fun _ _ i _ => 0)
  case atStart => exact ⟨rfl, rfl⟩
  case round =>
    obtain ⟨rfl, rfl⟩ := hrel
    go_wp2
    go_ret
    exact ⟨rfl, k3⟩

set_option maxHeartbeats 400000 in
theorem bitsGet_any (s : ByteArray) (ao : Option Addr) (len cap : Nat) (z : Nat → Int) (w : World) (a : Nat → Addr) (hS : Sent w a) (hms : s.size ≤ maxLen) (hP : IsInts w ao len z) :
    Calls Tryd.prog 4 #[.string s, .slice ao len cap] w fun e w' => e = .returned (.bool true) ∧ Below w.heap.size w w' := by
  unfold maxLen at hms
  by_cases hs : s.size ≤ 500
  · rcases hP with rfl | ⟨b, off, rfl, hm, hP⟩
    · exact bitsGet_none s ao cap w hs
    · by_cases hl : len ≤ 100
      · exact bitsGet_short s b off len cap z w a hS hs hl hP
      · have hd0 : decide ((500 : Int) < (s.size : Int)) = false := by simp; omega
        have hd : decide ((100 : Int) < (len : Int)) = true := by simp; omega
        unfold maxLen at hm
        clear hS hP
        go_enter Tryd.func4, Tryd.ntmps4
        go_wp2_with fail
        refine (three_any _).mono ?_; rintro e w1 ⟨rfl, hb1⟩
        go_wp2
        go_ret
        exact ⟨rfl, hb1⟩
  · have hd0 : decide ((500 : Int) < (s.size : Int)) = true := by simp; omega
    clear hS hP
    go_enter Tryd.func4, Tryd.ntmps4
    go_wp2_with fail
    refine (three_any _).mono ?_; rintro e w1 ⟨rfl, hb1⟩
    go_wp2
    go_ret
    exact ⟨rfl, hb1⟩
end Go.Proofs.YtpdbkolbbkbbnabDoor
