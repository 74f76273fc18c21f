/- Walk of the number of bits that stand as noughts and ones. -/
import Derived.Test.YtfgphihhnlgfhaeDoorBG
namespace Go.Proofs.YtfgphihhnlgfhaeDoor
open Go.RowKit

theorem bt_cut (c N a d : Nat) (h : a + d ≤ c) : (bt c N).extract a (a + d) = bt d (N / 2 ^ a) := by
  apply text_ext
  rw [bt_list, ← Bt.drop_take c N a d h, ← bt_list, ByteArray.data_extract, Array.toList_extract]
  simp [List.extract]

theorem low_step (N d j x b : Nat) (hj : j < d) (hd : d ≤ 32) (hb : b = Bt.bit N j) (hx : x = N % 2 ^ d / 2 ^ (j + 1)) : x * 2 + b = N % 2 ^ d / 2 ^ j ∧ x < 2147483648 ∧ b < 2 := by
  have h1 := Bt.from_above N d j hj
  have h2 : N % 2 ^ d / 2 ^ j < 4294967296 := Nat.lt_of_le_of_lt (Nat.div_le_self _ _) (Nat.lt_of_lt_of_le (Nat.mod_lt _ (Nat.two_pow_pos d)) (Nat.pow_le_pow_right (n := 2) (j := 32) (by omega) hd))
  have h3 := Bt.bit_lt N j
  rw [← hb, ← hx] at h1
  omega

set_option maxHeartbeats 400000 in
theorem lowOf_any (d N : Nat) (w : World) (hd : d ≤ 32) :
    Calls Tryd.prog 31 #[.string (bt d N)] w fun e w' => e = .returned (.int .u32 (N % 2 ^ d : Nat)) ∧ w' = w := by
  have hsz := bt_size d N
  have hszi : ((bt d N).size : Int) = (d : Int) := by omega
  go_enter Tryd.func31, Tryd.ntmps31
  go_wp2
  go_loop [3, 4] (fun m i => ∃ k : Nat, k ≤ d ∧ i = .int .i64 ((k : Int) - 1) ∧ m = .int .u32 (N % 2 ^ d / 2 ^ k : Nat)) (fun _ i => (intOf i + 1).toNat)
  case atStart => exact ⟨d, by omega, rfl, by rw [Nat.div_eq_of_lt (Nat.mod_lt _ (Nat.two_pow_pos d))]; rfl⟩
  case round =>
    obtain ⟨k, hk, rfl, rfl⟩ := hrel
    by_cases h0 : k = 0
    · subst h0
      have hd0 : decide ((0 : Int) ≤ ((0 : Nat) : Int) - 1) = false := by decide
      go_wp2
      go_ret
      exact ⟨ret_int (by simp), rfl⟩
    · obtain ⟨j, rfl⟩ : ∃ j, k = j + 1 := ⟨k - 1, by omega⟩
      have hji : ((j + 1 : Nat) : Int) - 1 = (j : Int) := by omega
      rw [hji]
      have hd0 : decide ((0 : Int) ≤ (j : Int)) = true := by simp
      have hjs : j < (bt d N).size := by omega
      have hbit := bt_bits d N j hjs
      obtain ⟨x, hx⟩ : ∃ x, x = N % 2 ^ d / 2 ^ (j + 1) := ⟨_, rfl⟩
      obtain ⟨b, hb⟩ : ∃ b, b = Bt.bit N j := ⟨_, rfl⟩
      obtain ⟨hs1, hs2, hs3⟩ := low_step N d j x b (by omega) hd hb hx
      rw [← hx]
      obtain ⟨y, hy⟩ : ∃ y, y = 48 + b := ⟨_, rfl⟩
      rw [← hb, ← hy] at hbit
      have hy48 : ((y : Int) - 48) = (b : Int) := by omega
      have hyb : y < 50 := by omega
      have Hs := hide hs1
      clear hx hb hs1 hy
      go_wp2
      go_round
      case rel => exact ⟨j, by omega, by go_num, by rw [← unhide Hs]; go_num⟩
      case measure => simp [intOf]
end Go.Proofs.YtfgphihhnlgfhaeDoor
