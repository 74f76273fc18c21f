/- Plain facts on bits of natural numbers: as texts of noughts and ones, as bytes, one behind the other, turned round. -/
import Derived.Test.YtpfobocdbmiagaaDoorCrc
namespace Go.Proofs.YtpfobocdbmiagaaDoor.Bt

/-- Bit i of a number. -/
def bit (N i : Nat) : Nat := N / 2 ^ i % 2

theorem bit_lt (N i : Nat) : bit N i < 2 := Nat.mod_lt _ (by omega)

/-- The first c bits as a text of noughts and ones. -/
def bl (c N : Nat) : List UInt8 := (List.range c).map fun i => UInt8.ofNat (48 + bit N i)

/-- The first m bytes of a number, the lowest first. -/
def yl (m N : Nat) : List UInt8 := (List.range m).map fun i => UInt8.ofNat (N / 256 ^ i)

/-- The first i bits of n, turned round. -/
def rev (n : Nat) : Nat → Nat
  | 0 => 0
  | i + 1 => bit n i + 2 * rev n i

/-- The highest i of w bits, the highest first. -/
def top (n w : Nat) : Nat → Nat
  | 0 => 0
  | i + 1 => top n w i + 2 ^ i * bit n (w - 1 - i)

theorem bl_length (c N : Nat) : (bl c N).length = c := by simp [bl]
theorem yl_length (m N : Nat) : (yl m N).length = m := by simp [yl]
theorem bl_zero (N : Nat) : bl 0 N = [] := rfl
theorem yl_zero (N : Nat) : yl 0 N = [] := rfl

theorem bl_succ (c N : Nat) : bl (c + 1) N = bl c N ++ [UInt8.ofNat (48 + bit N c)] := by
  simp [bl, List.range_succ]
theorem yl_succ (m N : Nat) : yl (m + 1) N = yl m N ++ [UInt8.ofNat (N / 256 ^ m)] := by
  simp [yl, List.range_succ]

theorem bl_at (c N i : Nat) (h : i < c) : (bl c N)[i]? = some (UInt8.ofNat (48 + bit N i)) := by
  simp [bl, List.getElem?_range h]
theorem yl_at (m N i : Nat) (h : i < m) : (yl m N)[i]? = some (UInt8.ofNat (N / 256 ^ i)) := by
  simp [yl, List.getElem?_range h]

theorem bit_low (c N n i : Nat) (h : i < c) : bit (N + 2 ^ c * n) i = bit N i := by
  unfold bit
  have e : c = i + 1 + (c - i - 1) := by omega
  rw [e, Nat.pow_add, Nat.pow_succ, Nat.mul_assoc, Nat.mul_assoc, Nat.add_mul_div_left _ _ (Nat.two_pow_pos i)]
  omega

theorem bit_high (c N n i : Nat) (h : N < 2 ^ c) : bit (N + 2 ^ c * n) (c + i) = bit n i := by
  unfold bit
  rw [Nat.pow_add, ← Nat.div_div_eq_div_mul, Nat.add_mul_div_left _ _ (Nat.two_pow_pos c), Nat.div_eq_of_lt h, Nat.zero_add]

theorem bl_append (c N w n : Nat) (h : N < 2 ^ c) : bl c N ++ bl w n = bl (c + w) (N + 2 ^ c * n) := by
  unfold bl
  rw [List.range_add, List.map_append, List.map_map]
  congr 1
  · refine List.map_congr_left fun i hi => ?_
    rw [bit_low _ _ _ _ (List.mem_range.1 hi)]
  · refine List.map_congr_left fun i _ => ?_
    simp only [Function.comp]
    rw [bit_high _ _ _ _ h]

theorem bl_one (b : Nat) (h : b < 2) : bl 1 b = [UInt8.ofNat (48 + b)] := by
  have : bit b 0 = b := by unfold bit; omega
  simp [bl, this]

/-- A nought more. -/
theorem bl_nought (c N : Nat) (h : N < 2 ^ c) : bl c N ++ [48] = bl (c + 1) N := by
  have := bl_append c N 1 0 h
  rw [bl_one 0 (by omega)] at this
  simpa using this

theorem rev_lt (n i : Nat) : rev n i < 2 ^ i := by
  induction i with
  | zero => simp [rev]
  | succ i ih =>
    have := bit_lt n i
    rw [rev, Nat.pow_succ]
    omega

theorem bl_rev (n i : Nat) : UInt8.ofNat (48 + bit n i) :: bl i (rev n i) = bl (i + 1) (rev n (i + 1)) := by
  have := bl_append 1 (bit n i) i (rev n i) (by simpa using bit_lt n i)
  rw [bl_one _ (bit_lt n i)] at this
  rw [rev, Nat.add_comm i 1]
  simpa using this

theorem top_rev (n w i : Nat) (h : i ≤ w) : top n (w + 1) (i + 1) = bit n w + 2 * top n w i := by
  induction i with
  | zero => simp [top]
  | succ i ih =>
    have e : top n (w + 1) (i + 1 + 1) = top n (w + 1) (i + 1) + 2 ^ (i + 1) * bit n (w + 1 - 1 - (i + 1)) := rfl
    rw [e, ih (by omega), top, show w + 1 - 1 - (i + 1) = w - 1 - i from by omega, Nat.pow_succ, Nat.mul_add]
    rw [Nat.mul_comm (2 ^ i) 2, Nat.mul_assoc]
    omega

theorem top_all (n w : Nat) : top n w w = rev n w := by
  induction w with
  | zero => rfl
  | succ w ih => rw [top_rev n w w (Nat.le_refl _), ih, rev]

theorem drop_take (c N a w : Nat) (h : a + w ≤ c) : ((bl c N).drop a).take w = bl w (N / 2 ^ a) := by
  apply List.ext_getElem?
  intro i
  by_cases hi : i < w
  · rw [List.getElem?_take_of_lt hi, List.getElem?_drop, bl_at _ _ _ (by omega), bl_at _ _ _ hi]
    unfold bit
    rw [Nat.div_div_eq_div_mul, ← Nat.pow_add]
  · rw [List.getElem?_eq_none (by simp; omega), List.getElem?_eq_none (by rw [bl_length]; omega)]

/-- What is read off from above, a bit more. -/
theorem bit_mod (N w i : Nat) (h : i < w) : bit (N % 2 ^ w) i = bit N i := by
  have := Nat.mod_add_div N (2 ^ w)
  have e := bit_low w (N % 2 ^ w) (N / 2 ^ w) i h
  rw [this] at e
  exact e.symm

theorem from_above (N w i : Nat) (h : i < w) : N % 2 ^ w / 2 ^ (i + 1) * 2 + bit N i = N % 2 ^ w / 2 ^ i := by
  rw [← bit_mod N w i h]
  unfold bit
  rw [Nat.pow_succ, ← Nat.div_div_eq_div_mul]
  omega

theorem mod_succ (N i : Nat) : N % 2 ^ (i + 1) = N % 2 ^ i + 2 ^ i * bit N i := Nat.mod_pow_succ

theorem pow256 (j : Nat) : 256 ^ j = 2 ^ (8 * j) := by
  rw [Nat.pow_mul]

/-- A byte 0 behind. -/
theorem yl_nought (m N : Nat) (h : N < 256 ^ m) : yl m N ++ [0] = yl (m + 1) N := by
  rw [yl_succ, Nat.div_eq_of_lt h]
  rfl

theorem div_byte (c N : Nat) (h : N < 2 ^ c) : N / 256 ^ (c / 8) < 2 ^ (c % 8) := by
  apply Nat.div_lt_of_lt_mul
  rw [pow256, ← Nat.pow_add]
  rw [show 8 * (c / 8) + c % 8 = c from by omega]
  exact h

theorem two_pow_split (c : Nat) : 2 ^ c = 256 ^ (c / 8) * 2 ^ (c % 8) := by
  rw [pow256, ← Nat.pow_add, show 8 * (c / 8) + c % 8 = c from by omega]

theorem pow_le_128 (r : Nat) (h : r < 8) : 2 ^ r ≤ 128 := Nat.pow_le_pow_right (n := 2) (j := 7) (by omega) (by omega)

/-- One bit more changes one byte. -/
theorem yl_bit (m c N b : Nat) (h : N < 2 ^ c) (hb : b < 2) : yl m (N + 2 ^ c * b) = (yl m N).set (c / 8) (UInt8.ofNat (N / 256 ^ (c / 8) + 2 ^ (c % 8) * b)) := by
  apply List.ext_getElem?
  intro j
  rw [List.getElem?_set, yl_length]
  by_cases hj : j < m
  · rw [yl_at _ _ _ hj, yl_at _ _ _ hj]
    by_cases e : c / 8 = j
    · subst e
      rw [if_pos rfl, if_pos hj]
      congr 1
      have hp : 0 < 256 ^ (c / 8) := Nat.pow_pos (by omega)
      have := two_pow_split c
      rw [this, Nat.mul_assoc, Nat.add_mul_div_left _ _ hp]
    · rw [if_neg e]
      congr 1
      by_cases hl : j < c / 8
      · have hp : 0 < 256 ^ j := Nat.pow_pos (by omega)
        have : 2 ^ c * b = 256 ^ j * (256 * (2 ^ (c - 8 * j - 8) * b)) := by
          rw [pow256, show (256 : Nat) = 2 ^ 8 from rfl, ← Nat.mul_assoc, ← Nat.mul_assoc, ← Nat.pow_add, ← Nat.pow_add]
          congr 2
          omega
        rw [this, Nat.add_mul_div_left _ _ hp]
        apply UInt8.toNat_inj.1
        rw [UInt8.toNat_ofNat', UInt8.toNat_ofNat']
        omega
      · have h1 : 2 ^ (c + 1) ≤ 256 ^ j := by
          rw [pow256]
          exact Nat.pow_le_pow_right (by omega) (by omega)
        have h2 : 2 ^ c * b ≤ 2 ^ c := by
          have := Nat.mul_le_mul_left (2 ^ c) (show b ≤ 1 by omega)
          simpa using this
        rw [Nat.pow_succ] at h1
        rw [Nat.div_eq_of_lt (by omega), Nat.div_eq_of_lt (by omega)]
  · rw [List.getElem?_eq_none (by rw [yl_length]; omega), List.getElem?_eq_none (by rw [yl_length]; omega)]
    split
    · rename_i e
      rw [if_neg (by omega)]
    · rfl

theorem num_append (a b : List UInt8) : Crc.num (a ++ b) = Crc.num a + 2 ^ (8 * a.length) * Crc.num b := by
  induction a with
  | nil => simp [Crc.num]
  | cons x a ih =>
    rw [List.cons_append, Crc.num, ih, Crc.num, List.length_cons, show 8 * (a.length + 1) = 8 + 8 * a.length from by omega, Nat.pow_add, Nat.mul_assoc]
    omega

/-- The bits of a byte of a text, among the bits of the text. -/
theorem bit_num (l : List UInt8) (q r : Nat) (hq : q < l.length) (hr : r < 8) : bit (Crc.num l) (8 * q + r) = bit l[q].toNat r := by
  induction l generalizing q with
  | nil => simp at hq
  | cons x l ih =>
    cases q with
    | zero =>
      have := bit_low 8 x.toNat (Crc.num l) r hr
      simpa [Crc.num] using this
    | succ q =>
      have h := bit_high 8 x.toNat (Crc.num l) (8 * q + r) x.toNat_lt
      rw [show 8 * (q + 1) + r = 8 + (8 * q + r) from by omega]
      simp only [Crc.num]
      rw [show (256 : Nat) = 2 ^ 8 from rfl, h, ih q (by simpa using hq)]
      simp

theorem num_yl (m N : Nat) : Crc.num (yl m N) = N % 256 ^ m := by
  induction m with
  | zero => simp [yl, Crc.num, Nat.mod_one]
  | succ m ih =>
    rw [yl_succ, num_append, ih, yl_length, ← pow256]
    simp only [Crc.num]
    rw [UInt8.toNat_ofNat', Nat.mul_zero, Nat.add_zero, show (2 : Nat) ^ 8 = 256 from rfl]
    exact (Nat.mod_pow_succ).symm

theorem lt_more (c w N n : Nat) (h : N < 2 ^ c) (hn : n < 2 ^ w) : N + 2 ^ c * n < 2 ^ (c + w) := by
  rw [Nat.pow_add]
  have := Nat.mul_le_mul_left (2 ^ c) (show n + 1 ≤ 2 ^ w by omega)
  rw [Nat.mul_add] at this
  omega

theorem lt_wide {c d N : Nat} (h : N < 2 ^ c) (hc : c ≤ d) : N < 2 ^ d := Nat.lt_of_lt_of_le h (Nat.pow_le_pow_right (by omega) hc)

/-- Low bits, one more. -/
theorem low_succ (c N n i : Nat) : N + 2 ^ c * (n % 2 ^ (i + 1)) = (N + 2 ^ c * (n % 2 ^ i)) + 2 ^ (c + i) * bit n i := by
  rw [mod_succ, Nat.mul_add, Nat.pow_add, Nat.mul_assoc, Nat.add_assoc]
theorem top_succ (c N n w i : Nat) : N + 2 ^ c * top n w (i + 1) = (N + 2 ^ c * top n w i) + 2 ^ (c + i) * bit n (w - 1 - i) := by
  rw [top, Nat.mul_add, Nat.pow_add, Nat.mul_assoc, Nat.add_assoc]

theorem top_lt (n w i : Nat) : top n w i < 2 ^ i := by
  induction i with
  | zero => simp [top]
  | succ i ih =>
    have h := bit_lt n (w - 1 - i)
    have := Nat.mul_le_mul_left (2 ^ i) (show bit n (w - 1 - i) ≤ 1 by omega)
    rw [top, Nat.pow_succ]
    omega

/-- What a reader has got, one bit more. -/
theorem got_succ (V a i : Nat) : V / 2 ^ a % 2 ^ (i + 1) = V / 2 ^ a % 2 ^ i + 2 ^ i * bit V (a + i) := by
  rw [mod_succ]
  unfold bit
  rw [Nat.div_div_eq_div_mul, ← Nat.pow_add]

theorem or_above (x b i : Nat) (h : x < 2 ^ i) : x ||| (2 ^ i * b) = x + 2 ^ i * b := by
  have := Nat.two_pow_add_eq_or_of_lt h b
  rw [Nat.or_comm, ← this, Nat.add_comm]

end Go.Proofs.YtpfobocdbmiagaaDoor.Bt
