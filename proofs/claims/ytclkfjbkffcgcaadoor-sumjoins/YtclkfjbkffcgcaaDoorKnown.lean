/- Walks of the closed fact on sums; plain facts on CRC of joined texts. -/
import Derived.Test.YtclkfjbkffcgcaaDoorW3
namespace Go.Proofs.YtclkfjbkffcgcaaDoor
open Go.RowKit

theorem crc_digits : crcOf [49, 50, 51, 52, 53, 54, 55, 56, 57] = 3421780262 := by decide +kernel
theorem adler_abc : Ad.more 1 [97, 98, 99] = 38600999 := by decide +kernel

set_option maxHeartbeats 400000 in
theorem known_any (w : World) :
    Calls Tryd.prog 10 #[] w fun e w' => e = .returned (.bool true) ∧ Below w.heap.size w w' := by
  have h1 := crc_digits
  have h2 := adler_abc
  go_enter Tryd.func10, Tryd.ntmps10
  go_wp2_with (first | (go_at_call 12; refine (crc_any _ _ (by decide)).mono ?_; rintro e w1 ⟨rfl, hb1⟩) | (go_at_call 14; refine (adler_any _ _ (by decide)).mono ?_; rintro e w2 ⟨rfl, rfl⟩))
  go_ret
  exact ⟨rfl, hb1⟩

theorem crcOf_lt (l : List UInt8) : crcOf l < 4294967296 := xor_lt32 (by omega) (Crc.run_lt _ _ (by omega))
theorem crcOf_append (a b : List UInt8) : 4294967295 ^^^ Crc.run (4294967295 ^^^ crcOf a) b = crcOf (a ++ b) := by
  unfold crcOf
  rw [Crc.run_append, ← Nat.xor_assoc, Nat.xor_self, Nat.zero_xor]

end Go.Proofs.YtclkfjbkffcgcaaDoor
