/- The statement on bits, one behind the other: for every slice of pieces. -/
import Derived.Test.YtpdbkolbbkbbnaaDoorBitsPut
namespace Go.Proofs.YtpdbkolbbkbbnaaDoor
open Go.RowKit

set_option maxHeartbeats 400000 in
theorem bitsPut_none (ao : Option Addr) (cap : Nat) (w : World) :
    Calls Tryd.prog 6 #[.slice ao 0 cap] w fun e w' => e = .returned (.bool true) ∧ Below w.heap.size w w' := by
  go_enter Tryd.func6, Tryd.ntmps6
  go_wp2_with fail
  refine (three_any _).mono ?_; rintro e w1 ⟨rfl, hb1⟩
  have hnew := new_writer w1
  have hb2 := hb1.trans (((Below.refl w1.heap.size w1).alloc (Nat.le_refl _) (.cells #[.slice none 0 0, .int .i64 0] 48)).mono hb1.size)
  have Hnew := hide hnew
  clear hnew hb1
  go_wp2
  generalize w1.alloc (.cells #[.slice none 0 0, .int .i64 0] 48) = w2 at *
  generalize w1.heap.size = p at *
  go_loopw [2, 5, 6] (fun r want i wr => i = .int .i64 0 ∧ want = .string (bt 0 0) ∧ wr = w2) (fun _ _ i _ => 0)
  case atStart => exact ⟨rfl, rfl, rfl⟩
  case round =>
    obtain ⟨rfl, rfl, rfl⟩ := hrel
    go_wp2_with fail
    refine (text_any p 0 0 _ (unhide Hnew)).mono ?_; rintro e w3 ⟨rfl, rfl⟩
    go_wp2_with fail
    refine (packed_any 0 0 _ (by omega) (by omega)).mono ?_; rintro e w4 ⟨rfl, hb4⟩
    go_wp2
    go_ret
    exact ⟨rfl, hb2.trans (hb4.mono hb2.size)⟩

theorem bitsPut_any (ao : Option Addr) (len cap : Nat) (pn : Nat → Nat) (pw : Nat → Int) (pt pa : Nat → Bool) (w : World) (a : Nat → Addr) (hS : Sent w a) (hP : IsPieces w ao len pn pw pt pa) :
    Calls Tryd.prog 6 #[.slice ao len cap] w fun e w' => e = .returned (.bool true) ∧ Below w.heap.size w w' := by
  rcases hP with rfl | ⟨b, off, rfl, hm, hP⟩
  · exact bitsPut_none ao cap w
  · by_cases hl : len ≤ 100
    · exact bitsPut_short b off len cap pn pw pt pa w a hS hl hP
    · have hd : decide ((100 : Int) < (len : Int)) = true := by simp; omega
      unfold maxLen at hm
      clear hS hP
      go_enter Tryd.func6, Tryd.ntmps6
      go_wp2_with fail
      refine (three_any _).mono ?_; rintro e w1 ⟨rfl, hb1⟩
      go_wp2
      go_ret
      exact ⟨rfl, hb1⟩
end Go.Proofs.YtpdbkolbbkbbnaaDoor
