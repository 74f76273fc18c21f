/- Walks of the closed fact on sums, and of the statement on sums of any text. -/
import Derived.Test.YtclkfjbkffcgcaaW3
namespace Go.Proofs.Ytclkfjbkffcgcaa
open Go.RowKit

theorem crc_digits : crcOf [49, 50, 51, 52, 53, 54, 55, 56, 57] = 3421780262 := by decide +kernel
theorem adler_abc : Ad.more 1 [97, 98, 99] = 38600999 := by decide +kernel

set_option maxHeartbeats 400000 in
theorem known_any (w : World) :
    Calls Try.prog 5 #[] w fun e w' => e = .returned (.bool true) ∧ Below w.heap.size w w' := by
  have h1 := crc_digits
  have h2 := adler_abc
  go_enter Try.func5, Try.ntmps5
  go_wp2_with (first | (go_at_call 6; refine (crc_any _ _ (by decide)).mono ?_; rintro e w1 ⟨rfl, hb1⟩) | (go_at_call 8; refine (adler_any _ _ (by decide)).mono ?_; rintro e w2 ⟨rfl, rfl⟩))
  go_ret
  exact ⟨rfl, hb1⟩

theorem crcOf_lt (l : List UInt8) : crcOf l < 4294967296 := xor_lt32 (by omega) (Crc.run_lt _ _ (by omega))
theorem crcOf_append (a b : List UInt8) : 4294967295 ^^^ Crc.run (4294967295 ^^^ crcOf a) b = crcOf (a ++ b) := by
  unfold crcOf
  rw [Crc.run_append, ← Nat.xor_assoc, Nat.xor_self, Nat.zero_xor]

theorem moreCRC_crc (l : List UInt8) (s : ByteArray) (w : World) (hs : s.size ≤ maxLen) :
    Calls Try.prog 10 #[.int .u32 (crcOf l : Nat), .string s] w fun e w' => e = .returned (.int .u32 (crcOf (l ++ s.data.toList) : Nat)) ∧ Below w.heap.size w w' := by
  rw [← crcOf_append]
  exact moreCRC_any _ _ _ (crcOf_lt l) hs
theorem moreAdler_adler (n : Nat) (l : List UInt8) (s : ByteArray) (w : World) (hs : s.size ≤ maxLen) :
    Calls Try.prog 11 #[.int .u32 (Ad.more n l : Nat), .string s] w fun e w' => e = .returned (.int .u32 (Ad.more n (l ++ s.data.toList) : Nat)) ∧ w' = w := by
  rw [Ad.more_append]
  exact moreAdler_any _ _ _ (Ad.more_lt n l) hs

set_option maxHeartbeats 1000000 in
set_option maxRecDepth 100000 in
theorem sumIs_short (a b : ByteArray) (n : Nat) (w : World) (hn : n < 4294967296) (ha : a.size ≤ 2000) (hb : b.size ≤ 2000) :
    Calls Try.prog 3 #[.string a, .string b, .int .u32 (n : Int)] w fun e w' => e = .returned (.bool true) ∧ Below w.heap.size w w' := by
  have hda : decide ((2000 : Int) < (a.size : Int)) = false := by simp; omega
  have hdb : decide ((2000 : Int) < (b.size : Int)) = false := by simp; omega
  have hma : a.size ≤ maxLen := by unfold maxLen; omega
  have hmb : b.size ≤ maxLen := by unfold maxLen; omega
  go_enter Try.func3, Try.ntmps3
  go_wp2_with fail
  refine (known_any _).mono ?_; rintro e w1 ⟨rfl, hb1⟩
  go_wp2_with fail
  refine (crc_any _ _ hma).mono ?_; rintro e w2 ⟨rfl, hb2⟩
  go_wp2_with fail
  refine (refCRC_any _ _ hma).mono ?_; rintro e w3 ⟨rfl, rfl⟩
  go_wp2_with fail
  refine (adler_any _ _ hma).mono ?_; rintro e w4 ⟨rfl, rfl⟩
  go_wp2_with fail
  refine (refAdler_any _ _ hma).mono ?_; rintro e w5 ⟨rfl, rfl⟩
  go_wp2_with fail
  refine (crc_any _ _ hma).mono ?_; rintro e w6 ⟨rfl, hb6⟩
  go_wp2_with fail
  refine (moreCRC_crc _ _ _ hmb).mono ?_; rintro e w7 ⟨rfl, hb7⟩
  have hab : (a ++ b).size ≤ maxLen := by rw [ByteArray.size_append]; unfold maxLen; omega
  have hjoin : (a ++ b).data.toList = a.data.toList ++ b.data.toList := by simp
  go_wp2_with fail
  refine (refCRC_any _ _ hab).mono ?_; rintro e w8 ⟨rfl, rfl⟩
  rw [hjoin]
  go_wp2_with fail
  refine (adler_any _ _ hma).mono ?_; rintro e w9 ⟨rfl, rfl⟩
  go_wp2_with fail
  refine (moreAdler_adler _ _ _ _ hmb).mono ?_; rintro e w10 ⟨rfl, rfl⟩
  go_wp2_with fail
  refine (refAdler_any _ _ hab).mono ?_; rintro e w11 ⟨rfl, rfl⟩
  rw [hjoin]
  go_wp2_with fail
  refine (moreAdler_any _ _ _ hn hmb).mono ?_; rintro e w12 ⟨rfl, rfl⟩
  go_wp2_with fail
  refine (moreAdlerOf_any _ _ _ hn hmb).mono ?_; rintro e w13 ⟨rfl, rfl⟩
  go_wp2
  go_ret
  refine ⟨by simp, ?_⟩
  have h6 := hb1.trans ((hb2.mono hb1.size))
  have h7 := h6.trans (hb6.mono h6.size)
  exact h7.trans (hb7.mono h7.size)

set_option maxHeartbeats 400000 in
theorem sumIs_any (a b : ByteArray) (n : Nat) (w : World) (hn : n < 4294967296) (hma : a.size ≤ maxLen) (hmb : b.size ≤ maxLen) :
    Calls Try.prog 3 #[.string a, .string b, .int .u32 (n : Int)] w fun e w' => e = .returned (.bool true) ∧ Below w.heap.size w w' := by
  unfold maxLen at hma hmb
  by_cases ha : a.size ≤ 2000
  · by_cases hb : b.size ≤ 2000
    · exact sumIs_short a b n w hn ha hb
    · have hda : decide ((2000 : Int) < (a.size : Int)) = false := by simp; omega
      have hdb : decide ((2000 : Int) < (b.size : Int)) = true := by simp; omega
      go_enter Try.func3, Try.ntmps3
      go_wp2_with fail
      refine (known_any _).mono ?_; rintro e w1 ⟨rfl, hb1⟩
      go_wp2
      go_ret
      exact ⟨rfl, hb1⟩
  · have hda : decide ((2000 : Int) < (a.size : Int)) = true := by simp; omega
    go_enter Try.func3, Try.ntmps3
    go_wp2_with fail
    refine (known_any _).mono ?_; rintro e w1 ⟨rfl, hb1⟩
    go_wp2
    go_ret
    exact ⟨rfl, hb1⟩
end Go.Proofs.Ytclkfjbkffcgcaa
