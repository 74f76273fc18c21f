/- Walks of the joining of CRC sums. -/
import Derived.Test.YtclkfjbkffcgcaaDoorKnown
import Derived.Deep.LoopGhost
import Derived.BigQuiet
namespace Go.Proofs.YtclkfjbkffcgcaaDoor
open Go.RowKit

/-- The power 0. -/
def top : Nat := 2147483648
theorem top_lt : top < 4294967296 := by unfold top; omega

theorem prod_step (k a : Nat) (h : a < 4294967296) : Crc.steps k a = (if a / 2147483648 = 1 then Crc.steps k top else 0) ^^^ Crc.steps (k + 1) (a * 2 % 4294967296) := by
  have e : a = (2 ^ 31 * (a / 2147483648)) ^^^ (a % 2147483648) := by
    rw [← Crc.join_xor 31 _ _ (by omega)]
    omega
  have e2 : a * 2 % 4294967296 = 2 * (a % 2147483648) := by omega
  rw [e2]
  show _ = _ ^^^ Crc.steps k (Crc.step (2 * (a % 2147483648)))
  rw [Crc.step_two_mul]
  conv => lhs; rw [e, Crc.steps_xor]
  congr 1
  by_cases h1 : a / 2147483648 = 1
  · rw [if_pos h1, h1]; rfl
  · rw [if_neg h1, show a / 2147483648 = 0 from by omega, Nat.mul_zero, Crc.steps_zero]

theorem mod_step (x i : Nat) (hi : i < 32) (h : x % 2 ^ i = 0) : x * 2 % 4294967296 % 2 ^ (i + 1) = 0 := by
  rw [show 4294967296 = 2 ^ 32 from rfl, Nat.mod_mod_of_dvd _ (Nat.pow_dvd_pow 2 (show i + 1 ≤ 32 by omega)), Nat.pow_succ, Nat.mul_mod_mul_right, h, Nat.zero_mul]
theorem mod_end (x : Nat) (hx : x < 4294967296) (h : x % 2 ^ 32 = 0) : x = 0 := by
  rw [Nat.mod_eq_of_lt (show x < 2 ^ 32 from hx)] at h
  exact h

set_option maxHeartbeats 400000 in
theorem product_any (a k : Nat) (w : World) (h : a < 4294967296) :
    Calls Tryd.prog 22 #[.int .u32 (a : Int), .int .u32 (Crc.steps k top : Nat)] w fun e w' => e = .returned (.int .u32 (Crc.steps k a : Nat)) ∧ w' = w := by
  go_enter Tryd.func22, Tryd.ntmps22
  go_wp2
  go_loopg [0, 1, 5] 32 (fun g s0 s1 s5 wx => ∃ i x j out : Nat, i + g = 32 ∧ s0 = .int .u32 x ∧ s1 = .int .u32 (Crc.steps j top : Nat) ∧ s5 = .int .u32 out ∧ x < 4294967296 ∧ x % 2 ^ i = 0 ∧ out < 4294967296 ∧ out ^^^ Crc.steps j x = Crc.steps k a ∧ wx = w)
  case atStart => exact ⟨0, a, k, 0, by omega, rfl, rfl, rfl, h, by simp [Nat.mod_one], by omega, by simp, rfl⟩
  case round =>
    obtain ⟨i, x, j, out, hig, rfl, rfl, rfl, hx, hxi, hout, hsum, rfl⟩ := hrel
    by_cases h0 : x = 0
    · subst h0
      rw [Crc.steps_zero, Nat.xor_zero] at hsum
      have Hsum := hide hsum
      clear hsum hxi hig
      go_wp2
      go_ret
      exact ⟨ret_int (by rw [unhide Hsum]), rfl⟩
    · have hne : ((x : Int) != 0) = true := by rw [bne_iff_ne]; omega
      have hst := Crc.steps_lt j top_lt
      have hps := prod_step j x hx
      have hsu := hide (Crc.steps_succ' j top)
      cases gk with
      | zero => exact absurd (mod_end x hx (by rw [show (32 : Nat) = i from by omega]; exact hxi)) h0
      | succ g =>
        have Hms := hide (mod_step x i (by omega) hxi)
        have hcast : (x : Int) * 2 % 4294967296 = ((x * 2 % 4294967296 : Nat) : Int) := by omega
        have hyl : x * 2 % 4294967296 < 4294967296 := by omega
        generalize x * 2 % 4294967296 = y at *
        rw [hps] at hsum
        have Hsum := hide hsum
        have Hig := hide hig
        clear hsum hxi hig hps
        by_cases h1 : x / 2147483648 = 1
        · have hb1 : ((x : Int) / 2147483648 == 1) = true := by simp; omega
          have hxo := u32_xor_nat out _ hout hst
          have hxl := xor_lt32 hout hst
          go_wp2_with (go_at_call 33; refine (oneRight_any _ _ hst).mono ?_; rintro e w' ⟨rfl, rfl⟩)
          go_roundg g
          case measure => omega
          case rel =>
            have h2 := unhide Hsum
            rw [if_pos h1, ← Nat.xor_assoc] at h2
            exact ⟨i + 1, y, j + 1, _, by have := unhide Hig; omega, congrArg (Value.int .u32) (by omega), by rw [unhide hsu], rfl, hyl, unhide Hms, hxl, h2, rfl⟩
        · have hb1 : ((x : Int) / 2147483648 == 1) = false := by simp; omega
          go_wp2_with (go_at_call 33; refine (oneRight_any _ _ hst).mono ?_; rintro e w' ⟨rfl, rfl⟩)
          go_roundg g
          case measure => omega
          case rel =>
            have h2 := unhide Hsum
            rw [if_neg h1, Nat.zero_xor] at h2
            exact ⟨i + 1, y, j + 1, out, by have := unhide Hig; omega, congrArg (Value.int .u32) (by omega), by rw [unhide hsu], rfl, hyl, unhide Hms, hout, h2, rfl⟩

theorem half_odd (p x : Nat) (h : x % 2 = 1) : p * x = p + (p + p) * (x / 2) := by
  rw [Nat.add_mul, ← Nat.mul_add]
  conv => lhs; rw [show x = 1 + (x / 2 + x / 2) from by omega, Nat.mul_add, Nat.mul_one]
theorem half_even (p x : Nat) (h : ¬ x % 2 = 1) : p * x = (p + p) * (x / 2) := by
  rw [Nat.add_mul, ← Nat.mul_add]
  conv => lhs; rw [show x = x / 2 + x / 2 from by omega]
theorem and_one64 (c : Nat) : bits .and .i64 (c : Int) 1 = ((c % 2 : Nat) : Int) := by
  have h1 : (BitVec.ofInt 64 1).toNat = 2 ^ 1 - 1 := by decide
  have key : (BitVec.ofInt 64 (c : Int) &&& BitVec.ofInt 64 1).toNat = ((c : Int) % ((2 ^ 64 : Nat) : Int)).toNat % 2 ^ 1 := by
    rw [BitVec.toNat_and, BitVec.toNat_ofInt, h1, Nat.and_two_pow_sub_one_eq_mod]
  show IntKind.i64.wrap ((BitVec.ofInt 64 (c : Int) &&& BitVec.ofInt 64 1).toNat : Nat) = _
  rw [key, IntKind.wrap_i64]
  omega

set_option maxHeartbeats 400000 in
theorem zeroBytes_any (n : Nat) (w : World) (h : n ≤ 1099511627776) :
    Calls Tryd.prog 23 #[.int .i64 (n : Int)] w fun e w' => e = .returned (.int .u32 (Crc.steps (8 * n) top : Nat)) ∧ w' = w := by
  have e23 : 8388608 = Crc.steps 8 top := (Crc.steps_pow 8 8388608).symm
  go_enter Tryd.func23, Tryd.ntmps23
  go_wp2
  go_loopw [0, 3, 4] (fun s0 s3 s4 wx => ∃ x m p : Nat, s0 = .int .i64 x ∧ s3 = .int .u32 (Crc.steps m top : Nat) ∧ s4 = .int .u32 (Crc.steps p top : Nat) ∧ x ≤ 1099511627776 ∧ m + p * x = 8 * n ∧ wx = w) (fun s0 _ _ _ => (intOf s0).toNat)
  case atStart => exact ⟨n, 0, 8, rfl, rfl, by rw [← e23]; rfl, h, by omega, rfl⟩
  case round =>
    obtain ⟨x, m, p, rfl, rfl, rfl, hx, hsum, rfl⟩ := hrel
    clear e23
    by_cases h0 : x = 0
    · subst h0
      rw [Nat.mul_zero, Nat.add_zero] at hsum
      subst hsum
      go_wp2
      go_ret
      exact ⟨rfl, rfl⟩
    · have hd : decide ((0 : Int) < (x : Int)) = true := by simp; omega
      have hst := Crc.steps_lt p top_lt
      have hsm := Crc.steps_lt m top_lt
      have ha := and_one64 x
      have Hsum := hide hsum
      have H1 := hide (Crc.steps_add m p top)
      have H2 := hide (Crc.steps_add p p top)
      clear hsum
      by_cases h1 : x % 2 = 1
      · have hb1 : (bits .and .i64 (x : Int) 1 == 1) = true := by rw [ha, h1]; rfl
        clear ha
        go_wp2_with fail
        refine (product_any _ p _ hsm).mono ?_; rintro e w1 ⟨rfl, rfl⟩
        go_wp2_with fail
        refine (product_any _ p _ hst).mono ?_; rintro e w2 ⟨rfl, rfl⟩
        go_wp2
        go_roundw
        case rel => exact ⟨x / 2, m + p, p + p, by go_num, by rw [unhide H1], by rw [unhide H2], by omega, by have := unhide Hsum; have := half_odd p x h1; omega, trivial⟩
        case measure => simp [intOf]; omega
      · have hb1 : (bits .and .i64 (x : Int) 1 == 1) = false := by rw [ha, show x % 2 = 0 from by omega]; rfl
        clear ha
        go_wp2_with fail
        refine (product_any _ p _ hst).mono ?_; rintro e w2 ⟨rfl, rfl⟩
        go_wp2
        go_roundw
        case rel => exact ⟨x / 2, m, p + p, by go_num, rfl, by rw [unhide H2], by omega, by have := unhide Hsum; have := half_even p x h1; omega, trivial⟩
        case measure => simp [intOf]; omega

theorem countable_yes (n : Nat) (w : World) (h : n ≤ 1099511627776) :
    Calls Tryd.prog 21 #[.int .i64 (n : Int)] w fun e w' => e = .returned (.bool true) ∧ w' = w := by
  have h1 : decide ((0 : Int) ≤ (n : Int)) = true := by simp
  have h2 : decide ((n : Int) ≤ 1099511627776) = true := by simp; omega
  go_enter Tryd.func21, Tryd.ntmps21
  go_wp2
  go_ret
  exact ⟨rfl, rfl⟩
theorem countable_no (n : Int) (w : World) (h : n < 0 ∨ 1099511627776 < n) :
    Calls Tryd.prog 21 #[.int .i64 n] w fun e w' => e = .returned (.bool false) ∧ w' = w := by
  by_cases h0 : n < 0
  · have h1 : decide ((0 : Int) ≤ n) = false := by simp; omega
    go_enter Tryd.func21, Tryd.ntmps21
    go_wp2
    go_ret
    exact ⟨rfl, rfl⟩
  · have h1 : decide ((0 : Int) ≤ n) = true := by simp; omega
    have h2 : decide (n ≤ 1099511627776) = false := by simp; omega
    go_enter Tryd.func21, Tryd.ntmps21
    go_wp2
    go_ret
    exact ⟨rfl, rfl⟩

set_option maxHeartbeats 400000 in
theorem joinCRC_yes (a b n : Nat) (w : World) (ha : a < 4294967296) (hb : b < 4294967296) (h : n ≤ 1099511627776) :
    Calls Tryd.prog 11 #[.int .u32 (a : Int), .int .u32 (b : Int), .int .i64 (n : Int)] w fun e w' => e = .returned (.tuple #[.int .u32 ((Crc.steps (8 * n) a ^^^ b : Nat) : Int), .nilIface]) ∧ w' = w := by
  have hst := Crc.steps_lt (8 * n) ha
  have hx := u32_xor_nat _ b hst hb
  go_enter Tryd.func11, Tryd.ntmps11
  go_wp2_with fail
  refine (countable_yes n _ h).mono ?_; rintro e w1 ⟨rfl, rfl⟩
  go_wp2_with fail
  refine (zeroBytes_any n _ h).mono ?_; rintro e w2 ⟨rfl, rfl⟩
  go_wp2_with fail
  refine (product_any a _ _ ha).mono ?_; rintro e w3 ⟨rfl, rfl⟩
  go_wp2
  go_ret2
  exact ⟨rfl, rfl⟩
end Go.Proofs.YtclkfjbkffcgcaaDoor
