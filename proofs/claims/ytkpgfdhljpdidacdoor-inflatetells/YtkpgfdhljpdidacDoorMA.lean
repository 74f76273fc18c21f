/- Plain facts on the one-bit step of CRC over natural numbers: it is linear over exclusive or, and it loses nothing of 32 bits. Plain facts on bits of natural numbers: as texts of noughts and ones, as bytes, one behind the other, turned round. Small handles. Texts out of rows of bytes; texts of noughts and ones. A row of a call's own, and a byte more in it. What a walk is told of a slice of numbers that came in. Plain facts on packages that are merged (LARMORE and HIRSCHBERG): of a list in order that holds what is to be chosen from and pairs of the list below, the first ones weigh no more than any choice that is as wide. Plain facts on code words in their order: shorter ones ahead, of one length those of lesser symbols; no word begins another one. -/
import Derived.Test.YtkpgfdhljpdidacDoorChecked
import Derived.WalkKit
import Derived.WalkLawsBesides
import Derived.WalkSpells
import Derived.Handy
import Derived.Laws.BitsAllLaws
import Derived.Laws.Shifts
import Derived.Laws.IdiomStrings
import Derived.Deep.LoopGhost
import Derived.Deep.WholeRow
import Derived.Deep.AppendLies
import Derived.BigRegion
import Derived.Laws.ResultCell
import Derived.Below
import Derived.ProofKit
import Derived.OpenShut
import Derived.ChangeArms
import Derived.Deep.Slices
namespace Go.Proofs.YtkpgfdhljpdidacDoor.Crc

/-- One bit to the right; a bit that falls out is joined in. -/
def step (c : Nat) : Nat := if c % 2 = 1 then (c / 2) ^^^ 3988292384 else c / 2

def steps : Nat → Nat → Nat
  | 0, c => c
  | n + 1, c => steps n (step c)

theorem xor_four (a b c d : Nat) : (a ^^^ b) ^^^ (c ^^^ d) = (a ^^^ c) ^^^ (b ^^^ d) := by
  rw [Nat.xor_assoc, Nat.xor_assoc]
  congr 1
  rw [← Nat.xor_assoc, ← Nat.xor_assoc, Nat.xor_comm b c]

theorem eq_of_xor {a b : Nat} (h : a ^^^ b = 0) : a = b := by
  have := congrArg (fun x => x ^^^ b) h
  simpa [Nat.xor_assoc] using this

theorem step_xor (a b : Nat) : step (a ^^^ b) = step a ^^^ step b := by
  unfold step
  rw [Nat.xor_div_two]
  have hm : (a ^^^ b) % 2 = (a % 2) ^^^ (b % 2) := Nat.xor_mod_two_pow (n := 1)
  rcases Nat.mod_two_eq_zero_or_one a with ha | ha <;> rcases Nat.mod_two_eq_zero_or_one b with hb | hb
  · have : (a ^^^ b) % 2 = 0 := by rw [hm, ha, hb]; decide
    simp [ha, hb, this]
  · have : (a ^^^ b) % 2 = 1 := by rw [hm, ha, hb]; decide
    simp [ha, hb, this, Nat.xor_assoc]
  · have : (a ^^^ b) % 2 = 1 := by rw [hm, ha, hb]; decide
    simp only [ha, hb, this, if_true]
    rw [if_neg (by omega), Nat.xor_assoc, Nat.xor_assoc, Nat.xor_comm (b / 2)]
  · have : (a ^^^ b) % 2 = 0 := by rw [hm, ha, hb]; decide
    simp only [ha, hb, this, if_true]
    rw [if_neg (by omega), xor_four, Nat.xor_self, Nat.xor_zero]

theorem step_two_mul (a : Nat) : step (2 * a) = a := by
  unfold step
  rw [if_neg (by omega)]
  omega

theorem step_zero : step 0 = 0 := rfl

theorem step_lt {c : Nat} (h : c < 4294967296) : step c < 4294967296 := by
  unfold step
  split
  · exact Nat.xor_lt_two_pow (n := 32) (by omega) (by omega)
  · omega

theorem step_eq_zero {c : Nat} (h : c < 4294967296) (h0 : step c = 0) : c = 0 := by
  unfold step at h0
  split at h0
  · have : c / 2 = 3988292384 := eq_of_xor h0
    omega
  · omega

theorem steps_add (m n c : Nat) : steps (m + n) c = steps n (steps m c) := by
  induction m generalizing c with
  | zero => simp [steps]
  | succ m ih => rw [show m + 1 + n = (m + n) + 1 from by omega]; simp only [steps]; exact ih _

theorem steps_succ' (n c : Nat) : steps (n + 1) c = step (steps n c) := by
  rw [steps_add]; rfl

theorem steps_xor (n a b : Nat) : steps n (a ^^^ b) = steps n a ^^^ steps n b := by
  induction n generalizing a b with
  | zero => rfl
  | succ n ih => simp only [steps]; rw [step_xor, ih]

theorem steps_zero (n : Nat) : steps n 0 = 0 := by
  induction n with
  | zero => rfl
  | succ n ih => simp only [steps]; rw [step_zero, ih]

theorem steps_lt (n : Nat) {c : Nat} (h : c < 4294967296) : steps n c < 4294967296 := by
  induction n generalizing c with
  | zero => exact h
  | succ n ih => exact ih (step_lt h)

theorem steps_eq_zero (n : Nat) {c : Nat} (h : c < 4294967296) (h0 : steps n c = 0) : c = 0 := by
  induction n generalizing c with
  | zero => exact h0
  | succ n ih => exact step_eq_zero h (ih (step_lt h) h0)

theorem steps_pow (n a : Nat) : steps n (2 ^ n * a) = a := by
  induction n generalizing a with
  | zero => simp [steps]
  | succ n ih =>
    rw [show 2 ^ (n + 1) * a = 2 * (2 ^ n * a) from by rw [Nat.pow_succ, Nat.mul_comm (2 ^ n) 2, Nat.mul_assoc]]
    simp only [steps]
    rw [step_two_mul, ih]

theorem join_xor (n h l : Nat) (hl : l < 2 ^ n) : 2 ^ n * h + l = (2 ^ n * h) ^^^ l := by
  have e1 : ((2 ^ n * h) ^^^ l) / 2 ^ n = h := by
    rw [Nat.xor_div_two_pow, Nat.mul_div_cancel_left _ (Nat.two_pow_pos n), Nat.div_eq_of_lt hl, Nat.xor_zero]
  have e2 : ((2 ^ n * h) ^^^ l) % 2 ^ n = l := by
    rw [Nat.xor_mod_two_pow, Nat.mul_mod_right, Nat.mod_eq_of_lt hl, Nat.zero_xor]
  have := Nat.div_add_mod ((2 ^ n * h) ^^^ l) (2 ^ n)
  rw [e1, e2] at this
  exact this

/-- A table's step is eight bits' step. -/
theorem byte_step (c s : Nat) : (c / 256) ^^^ steps 8 ((c % 256) ^^^ s) = steps 8 (c ^^^ s) := by
  have e : c = (2 ^ 8 * (c / 256)) ^^^ (c % 256) := by
    rw [← join_xor 8 _ _ (by omega)]
    omega
  rw [show c ^^^ s = (2 ^ 8 * (c / 256)) ^^^ ((c % 256) ^^^ s) from by rw [← Nat.xor_assoc, ← e]]
  rw [steps_xor 8 (2 ^ 8 * (c / 256)), steps_pow]

/-- The bytes as one number, the first the lowest. -/
def num : List UInt8 → Nat
  | [] => 0
  | b :: l => b.toNat + 256 * num l

theorem num_cons (b : UInt8) (l : List UInt8) : num (b :: l) = (256 * num l) ^^^ b.toNat := by
  have : 256 * num l + b.toNat = (256 * num l) ^^^ b.toNat := join_xor 8 (num l) b.toNat b.toNat_lt
  simp only [num]
  omega

theorem num_lt (l : List UInt8) : num l < 2 ^ (8 * l.length) := by
  induction l with
  | nil => simp [num]
  | cons b l ih =>
    have hb := b.toNat_lt
    simp only [num, List.length_cons]
    rw [show 8 * (l.length + 1) = 8 * l.length + 8 from by omega, Nat.pow_add]
    omega

theorem num_inj (a b : List UInt8) (hl : a.length = b.length) (h : num a = num b) : a = b := by
  induction a generalizing b with
  | nil => cases b with
    | nil => rfl
    | cons x b => simp at hl
  | cons y a ih => cases b with
    | nil => simp at hl
    | cons x b =>
      simp only [num] at h
      have hx := x.toNat_lt
      have hy := y.toNat_lt
      have e : y.toNat = x.toNat := by omega
      have e' : y = x := UInt8.toNat_inj.1 e
      rw [e', ih b (by simpa using hl) (by omega)]

/-- CRC's run over bytes, bit by bit. -/
def run (c : Nat) (l : List UInt8) : Nat := l.foldl (fun c b => steps 8 (c ^^^ b.toNat)) c

theorem run_append (c : Nat) (a b : List UInt8) : run c (a ++ b) = run (run c a) b := by simp [run]

theorem run_snoc (c : Nat) (a : List UInt8) (b : UInt8) : run c (a ++ [b]) = steps 8 (run c a ^^^ b.toNat) := by simp [run]

theorem run_lt (c : Nat) (l : List UInt8) (h : c < 4294967296) : run c l < 4294967296 := by
  induction l generalizing c with
  | nil => exact h
  | cons b l ih =>
    have hb := b.toNat_lt
    exact ih _ (steps_lt 8 (Nat.xor_lt_two_pow (n := 32) (by omega) (by omega)))

theorem run_eq (c : Nat) (l : List UInt8) : run c l = steps (8 * l.length) (c ^^^ num l) := by
  induction l generalizing c with
  | nil => simp [run, num, steps]
  | cons b l ih =>
    have e : run c (b :: l) = run (steps 8 (c ^^^ b.toNat)) l := rfl
    rw [e, ih, List.length_cons, show 8 * (l.length + 1) = 8 + 8 * l.length from by omega, steps_add, num_cons]
    congr 1
    rw [Nat.xor_comm (256 * num l), ← Nat.xor_assoc, steps_xor 8 (c ^^^ b.toNat), show 256 * num l = 2 ^ 8 * num l from rfl, steps_pow]

/-- Two texts of one length, whose difference is a burst. -/
theorem run_burst (c : Nat) (a b : List UInt8) (hl : a.length = b.length) (at_ turn : Nat) (hat : at_ ≤ 8 * a.length) (ht : turn < 4294967296)
    (hd : num b = num a ^^^ (2 ^ at_ * turn)) (h : run c b = run c a) : b = a := by
  rw [run_eq, run_eq, hd, ← hl, ← Nat.xor_assoc, steps_xor _ (c ^^^ num a)] at h
  have h2 : steps (8 * a.length) (2 ^ at_ * turn) = 0 := by
    have h3 := congrArg (fun x => steps (8 * a.length) (c ^^^ num a) ^^^ x) h
    simp only [← Nat.xor_assoc, Nat.xor_self, Nat.zero_xor] at h3
    exact h3
  rw [show 8 * a.length = at_ + (8 * a.length - at_) from by omega, steps_add, steps_pow] at h2
  have h3 := steps_eq_zero _ ht h2
  rw [h3, Nat.mul_zero, Nat.xor_zero] at hd
  exact num_inj _ _ hl.symm hd

end Go.Proofs.YtkpgfdhljpdidacDoor.Crc
namespace Go.Proofs.YtkpgfdhljpdidacDoor.Bt

/-- Bit i of a number. -/
def bit (N i : Nat) : Nat := N / 2 ^ i % 2

theorem bit_lt (N i : Nat) : bit N i < 2 := Nat.mod_lt _ (by omega)

/-- The first c bits as a text of noughts and ones. -/
def bl (c N : Nat) : List UInt8 := (List.range c).map fun i => UInt8.ofNat (48 + bit N i)

/-- The first m bytes of a number, the lowest first. -/
def yl (m N : Nat) : List UInt8 := (List.range m).map fun i => UInt8.ofNat (N / 256 ^ i)

/-- The first i bits of n, turned round. -/
def rev (n : Nat) : Nat → Nat
  | 0 => 0
  | i + 1 => bit n i + 2 * rev n i

/-- The highest i of w bits, the highest first. -/
def top (n w : Nat) : Nat → Nat
  | 0 => 0
  | i + 1 => top n w i + 2 ^ i * bit n (w - 1 - i)

theorem bl_length (c N : Nat) : (bl c N).length = c := by simp [bl]
theorem yl_length (m N : Nat) : (yl m N).length = m := by simp [yl]
theorem bl_zero (N : Nat) : bl 0 N = [] := rfl
theorem yl_zero (N : Nat) : yl 0 N = [] := rfl

theorem bl_succ (c N : Nat) : bl (c + 1) N = bl c N ++ [UInt8.ofNat (48 + bit N c)] := by
  simp [bl, List.range_succ]
theorem yl_succ (m N : Nat) : yl (m + 1) N = yl m N ++ [UInt8.ofNat (N / 256 ^ m)] := by
  simp [yl, List.range_succ]

theorem bl_at (c N i : Nat) (h : i < c) : (bl c N)[i]? = some (UInt8.ofNat (48 + bit N i)) := by
  simp [bl, List.getElem?_range h]
theorem yl_at (m N i : Nat) (h : i < m) : (yl m N)[i]? = some (UInt8.ofNat (N / 256 ^ i)) := by
  simp [yl, List.getElem?_range h]

theorem bit_low (c N n i : Nat) (h : i < c) : bit (N + 2 ^ c * n) i = bit N i := by
  unfold bit
  have e : c = i + 1 + (c - i - 1) := by omega
  rw [e, Nat.pow_add, Nat.pow_succ, Nat.mul_assoc, Nat.mul_assoc, Nat.add_mul_div_left _ _ (Nat.two_pow_pos i)]
  omega

theorem bit_high (c N n i : Nat) (h : N < 2 ^ c) : bit (N + 2 ^ c * n) (c + i) = bit n i := by
  unfold bit
  rw [Nat.pow_add, ← Nat.div_div_eq_div_mul, Nat.add_mul_div_left _ _ (Nat.two_pow_pos c), Nat.div_eq_of_lt h, Nat.zero_add]

theorem bl_append (c N w n : Nat) (h : N < 2 ^ c) : bl c N ++ bl w n = bl (c + w) (N + 2 ^ c * n) := by
  unfold bl
  rw [List.range_add, List.map_append, List.map_map]
  congr 1
  · refine List.map_congr_left fun i hi => ?_
    rw [bit_low _ _ _ _ (List.mem_range.1 hi)]
  · refine List.map_congr_left fun i _ => ?_
    simp only [Function.comp]
    rw [bit_high _ _ _ _ h]

theorem bl_one (b : Nat) (h : b < 2) : bl 1 b = [UInt8.ofNat (48 + b)] := by
  have : bit b 0 = b := by unfold bit; omega
  simp [bl, this]

/-- A nought more. -/
theorem bl_nought (c N : Nat) (h : N < 2 ^ c) : bl c N ++ [48] = bl (c + 1) N := by
  have := bl_append c N 1 0 h
  rw [bl_one 0 (by omega)] at this
  simpa using this

theorem rev_lt (n i : Nat) : rev n i < 2 ^ i := by
  induction i with
  | zero => simp [rev]
  | succ i ih =>
    have := bit_lt n i
    rw [rev, Nat.pow_succ]
    omega

theorem bl_rev (n i : Nat) : UInt8.ofNat (48 + bit n i) :: bl i (rev n i) = bl (i + 1) (rev n (i + 1)) := by
  have := bl_append 1 (bit n i) i (rev n i) (by simpa using bit_lt n i)
  rw [bl_one _ (bit_lt n i)] at this
  rw [rev, Nat.add_comm i 1]
  simpa using this

theorem top_rev (n w i : Nat) (h : i ≤ w) : top n (w + 1) (i + 1) = bit n w + 2 * top n w i := by
  induction i with
  | zero => simp [top]
  | succ i ih =>
    have e : top n (w + 1) (i + 1 + 1) = top n (w + 1) (i + 1) + 2 ^ (i + 1) * bit n (w + 1 - 1 - (i + 1)) := rfl
    rw [e, ih (by omega), top, show w + 1 - 1 - (i + 1) = w - 1 - i from by omega, Nat.pow_succ, Nat.mul_add]
    rw [Nat.mul_comm (2 ^ i) 2, Nat.mul_assoc]
    omega

theorem top_all (n w : Nat) : top n w w = rev n w := by
  induction w with
  | zero => rfl
  | succ w ih => rw [top_rev n w w (Nat.le_refl _), ih, rev]

theorem drop_take (c N a w : Nat) (h : a + w ≤ c) : ((bl c N).drop a).take w = bl w (N / 2 ^ a) := by
  apply List.ext_getElem?
  intro i
  by_cases hi : i < w
  · rw [List.getElem?_take_of_lt hi, List.getElem?_drop, bl_at _ _ _ (by omega), bl_at _ _ _ hi]
    unfold bit
    rw [Nat.div_div_eq_div_mul, ← Nat.pow_add]
  · rw [List.getElem?_eq_none (by simp; omega), List.getElem?_eq_none (by rw [bl_length]; omega)]

/-- What is read off from above, a bit more. -/
theorem bit_mod (N w i : Nat) (h : i < w) : bit (N % 2 ^ w) i = bit N i := by
  have := Nat.mod_add_div N (2 ^ w)
  have e := bit_low w (N % 2 ^ w) (N / 2 ^ w) i h
  rw [this] at e
  exact e.symm

theorem from_above (N w i : Nat) (h : i < w) : N % 2 ^ w / 2 ^ (i + 1) * 2 + bit N i = N % 2 ^ w / 2 ^ i := by
  rw [← bit_mod N w i h]
  unfold bit
  rw [Nat.pow_succ, ← Nat.div_div_eq_div_mul]
  omega

theorem mod_succ (N i : Nat) : N % 2 ^ (i + 1) = N % 2 ^ i + 2 ^ i * bit N i := Nat.mod_pow_succ

theorem pow256 (j : Nat) : 256 ^ j = 2 ^ (8 * j) := by
  rw [Nat.pow_mul]

/-- A byte 0 behind. -/
theorem yl_nought (m N : Nat) (h : N < 256 ^ m) : yl m N ++ [0] = yl (m + 1) N := by
  rw [yl_succ, Nat.div_eq_of_lt h]
  rfl

theorem div_byte (c N : Nat) (h : N < 2 ^ c) : N / 256 ^ (c / 8) < 2 ^ (c % 8) := by
  apply Nat.div_lt_of_lt_mul
  rw [pow256, ← Nat.pow_add]
  rw [show 8 * (c / 8) + c % 8 = c from by omega]
  exact h

theorem two_pow_split (c : Nat) : 2 ^ c = 256 ^ (c / 8) * 2 ^ (c % 8) := by
  rw [pow256, ← Nat.pow_add, show 8 * (c / 8) + c % 8 = c from by omega]

theorem pow_le_128 (r : Nat) (h : r < 8) : 2 ^ r ≤ 128 := Nat.pow_le_pow_right (n := 2) (j := 7) (by omega) (by omega)

/-- One bit more changes one byte. -/
theorem yl_bit (m c N b : Nat) (h : N < 2 ^ c) (hb : b < 2) : yl m (N + 2 ^ c * b) = (yl m N).set (c / 8) (UInt8.ofNat (N / 256 ^ (c / 8) + 2 ^ (c % 8) * b)) := by
  apply List.ext_getElem?
  intro j
  rw [List.getElem?_set, yl_length]
  by_cases hj : j < m
  · rw [yl_at _ _ _ hj, yl_at _ _ _ hj]
    by_cases e : c / 8 = j
    · subst e
      rw [if_pos rfl, if_pos hj]
      congr 1
      have hp : 0 < 256 ^ (c / 8) := Nat.pow_pos (by omega)
      have := two_pow_split c
      rw [this, Nat.mul_assoc, Nat.add_mul_div_left _ _ hp]
    · rw [if_neg e]
      congr 1
      by_cases hl : j < c / 8
      · have hp : 0 < 256 ^ j := Nat.pow_pos (by omega)
        have : 2 ^ c * b = 256 ^ j * (256 * (2 ^ (c - 8 * j - 8) * b)) := by
          rw [pow256, show (256 : Nat) = 2 ^ 8 from rfl, ← Nat.mul_assoc, ← Nat.mul_assoc, ← Nat.pow_add, ← Nat.pow_add]
          congr 2
          omega
        rw [this, Nat.add_mul_div_left _ _ hp]
        apply UInt8.toNat_inj.1
        rw [UInt8.toNat_ofNat', UInt8.toNat_ofNat']
        omega
      · have h1 : 2 ^ (c + 1) ≤ 256 ^ j := by
          rw [pow256]
          exact Nat.pow_le_pow_right (by omega) (by omega)
        have h2 : 2 ^ c * b ≤ 2 ^ c := by
          have := Nat.mul_le_mul_left (2 ^ c) (show b ≤ 1 by omega)
          simpa using this
        rw [Nat.pow_succ] at h1
        rw [Nat.div_eq_of_lt (by omega), Nat.div_eq_of_lt (by omega)]
  · rw [List.getElem?_eq_none (by rw [yl_length]; omega), List.getElem?_eq_none (by rw [yl_length]; omega)]
    split
    · rename_i e
      rw [if_neg (by omega)]
    · rfl

theorem num_append (a b : List UInt8) : Crc.num (a ++ b) = Crc.num a + 2 ^ (8 * a.length) * Crc.num b := by
  induction a with
  | nil => simp [Crc.num]
  | cons x a ih =>
    rw [List.cons_append, Crc.num, ih, Crc.num, List.length_cons, show 8 * (a.length + 1) = 8 + 8 * a.length from by omega, Nat.pow_add, Nat.mul_assoc]
    omega

/-- The bits of a byte of a text, among the bits of the text. -/
theorem bit_num (l : List UInt8) (q r : Nat) (hq : q < l.length) (hr : r < 8) : bit (Crc.num l) (8 * q + r) = bit l[q].toNat r := by
  induction l generalizing q with
  | nil => simp at hq
  | cons x l ih =>
    cases q with
    | zero =>
      have := bit_low 8 x.toNat (Crc.num l) r hr
      simpa [Crc.num] using this
    | succ q =>
      have h := bit_high 8 x.toNat (Crc.num l) (8 * q + r) x.toNat_lt
      rw [show 8 * (q + 1) + r = 8 + (8 * q + r) from by omega]
      simp only [Crc.num]
      rw [show (256 : Nat) = 2 ^ 8 from rfl, h, ih q (by simpa using hq)]
      simp

theorem num_yl (m N : Nat) : Crc.num (yl m N) = N % 256 ^ m := by
  induction m with
  | zero => simp [yl, Crc.num, Nat.mod_one]
  | succ m ih =>
    rw [yl_succ, num_append, ih, yl_length, ← pow256]
    simp only [Crc.num]
    rw [UInt8.toNat_ofNat', Nat.mul_zero, Nat.add_zero, show (2 : Nat) ^ 8 = 256 from rfl]
    exact (Nat.mod_pow_succ).symm

theorem lt_more (c w N n : Nat) (h : N < 2 ^ c) (hn : n < 2 ^ w) : N + 2 ^ c * n < 2 ^ (c + w) := by
  rw [Nat.pow_add]
  have := Nat.mul_le_mul_left (2 ^ c) (show n + 1 ≤ 2 ^ w by omega)
  rw [Nat.mul_add] at this
  omega

theorem lt_wide {c d N : Nat} (h : N < 2 ^ c) (hc : c ≤ d) : N < 2 ^ d := Nat.lt_of_lt_of_le h (Nat.pow_le_pow_right (by omega) hc)

/-- Low bits, one more. -/
theorem low_succ (c N n i : Nat) : N + 2 ^ c * (n % 2 ^ (i + 1)) = (N + 2 ^ c * (n % 2 ^ i)) + 2 ^ (c + i) * bit n i := by
  rw [mod_succ, Nat.mul_add, Nat.pow_add, Nat.mul_assoc, Nat.add_assoc]
theorem top_succ (c N n w i : Nat) : N + 2 ^ c * top n w (i + 1) = (N + 2 ^ c * top n w i) + 2 ^ (c + i) * bit n (w - 1 - i) := by
  rw [top, Nat.mul_add, Nat.pow_add, Nat.mul_assoc, Nat.add_assoc]

theorem top_lt (n w i : Nat) : top n w i < 2 ^ i := by
  induction i with
  | zero => simp [top]
  | succ i ih =>
    have h := bit_lt n (w - 1 - i)
    have := Nat.mul_le_mul_left (2 ^ i) (show bit n (w - 1 - i) ≤ 1 by omega)
    rw [top, Nat.pow_succ]
    omega

/-- What a reader has got, one bit more. -/
theorem got_succ (V a i : Nat) : V / 2 ^ a % 2 ^ (i + 1) = V / 2 ^ a % 2 ^ i + 2 ^ i * bit V (a + i) := by
  rw [mod_succ]
  unfold bit
  rw [Nat.div_div_eq_div_mul, ← Nat.pow_add]

theorem or_above (x b i : Nat) (h : x < 2 ^ i) : x ||| (2 ^ i * b) = x + 2 ^ i * b := by
  have := Nat.two_pow_add_eq_or_of_lt h b
  rw [Nat.or_comm, ← this, Nat.add_comm]

end Go.Proofs.YtkpgfdhljpdidacDoor.Bt
namespace Go.Proofs.YtkpgfdhljpdidacDoor
open Go.RowKit

theorem hide {p : Prop} (h : p) : Hid p := h
theorem unhide {p : Prop} (h : Hid p) : p := h
theorem ret_int {k : IntKind} {a b : Int} (h : a = b) : Ending.returned (.int k a) = .returned (.int k b) := by rw [h]
end Go.Proofs.YtkpgfdhljpdidacDoor
namespace Go.Proofs.YtkpgfdhljpdidacDoor
open Go.RowKit

/-- Bytes as cells. -/
def byteVals (l : List UInt8) : List Value := l.map fun b => .int .u8 (b.toNat : Int)

theorem byteVals_length (l : List UInt8) : (byteVals l).length = l.length := by simp [byteVals]
theorem byteVals_at (l : List UInt8) (j : Nat) : (byteVals l)[j]? = l[j]?.map fun b => .int .u8 (b.toNat : Int) := by simp [byteVals]
theorem byteVals_append (a b : List UInt8) : byteVals (a ++ b) = byteVals a ++ byteVals b := by simp [byteVals]
theorem byteVals_set (l : List UInt8) (j : Nat) (b : UInt8) : (byteVals l).set j (.int .u8 (b.toNat : Int)) = byteVals (l.set j b) := by simp [byteVals, List.map_set]

theorem info_u8 : (Tryd.prog.info? 5).map (fun i => (i.zero, i.size, i.bytes)) = some (some (.int .u8 0), 1, 1) := by kernel_rfl

theorem shr_lt (n i : Nat) (h : n < 4294967296) : n / 2 ^ i < 4294967296 := Nat.lt_of_le_of_lt (Nat.div_le_self _ _) h

theorem shape_of {w : World} {base e : Nat} {v : Value} {n : Nat} {xs : List Value} (h : w.ownsRow base e 1 v n xs) : ∃ a c, v = .slice a n c := by
  rcases h.2 with ⟨rfl, rfl⟩ | ⟨g, cap, _, rfl, _⟩
  · exact ⟨_, _, rfl⟩
  · exact ⟨_, _, rfl⟩

theorem empty_text (w : World) : (convert 36 9 (.slice none 0 0)).run Tryd.prog w = .ok (.string ⟨#[]⟩) w := by kernel_rfl

/-- The bytes of an own row as a text. -/
theorem own_text (w : World) (base : Nat) (v : Value) (n : Nat) (l : List UInt8) (h : w.ownsRow base 5 1 v n (byteVals l)) :
    (convert 36 9 v).run Tryd.prog w = .ok (.string ⟨l.toArray⟩) w := by
  have hl : l.length = n := by have := h.1; simpa [byteVals] using this
  rcases h.2 with ⟨rfl, h0⟩ | ⟨g, cap, cur, rfl, _⟩
  · subst h0
    obtain rfl : l = [] := List.length_eq_zero_iff.1 hl
    exact empty_text w
  · subst hl
    refine run_convert_bytes_back w 36 9 5 _ cap l Tryd.underlying36 Tryd.underlying5 Tryd.underlying9 (fun j hj => ?_)
    have hadd : (⟨g, 0, none⟩ : Addr).add j = ⟨g, j, none⟩ := by unfold Addr.add; split <;> simp_all
    rw [hadd, h.cellAt j (by omega), byteVals_at, List.getElem?_eq_getElem hj]
    rfl

/-- The first c bits of N as a text. -/
def bt (c N : Nat) : ByteArray := ⟨(Bt.bl c N).toArray⟩
theorem bt_list (c N : Nat) : (bt c N).data.toList = Bt.bl c N := by simp [bt]
theorem bt_size (c N : Nat) : (bt c N).size = c := by
  have := congrArg List.length (bt_list c N)
  rw [Bt.bl_length] at this
  simpa using this
theorem text_ext {a b : ByteArray} (h : a.data.toList = b.data.toList) : a = b := by
  cases a; cases b
  simp at h
  simp [h]
theorem bt_append (c N d n : Nat) (h : N < 2 ^ c) : bt c N ++ bt d n = bt (c + d) (N + 2 ^ c * n) := by
  apply text_ext
  rw [ByteArray.data_append, Array.toList_append, bt_list, bt_list, bt_list, Bt.bl_append _ _ _ _ h]
theorem bt_nought (c N : Nat) (h : N < 2 ^ c) : bt c N ++ ⟨#[48]⟩ = bt (c + 1) N := by
  apply text_ext
  rw [ByteArray.data_append, Array.toList_append, bt_list, bt_list, ← Bt.bl_nought _ _ h]
theorem bt_succ (c N : Nat) : bt c N ++ ⟨#[UInt8.ofNat (48 + Bt.bit N c)]⟩ = bt (c + 1) N := by
  apply text_ext
  rw [ByteArray.data_append, Array.toList_append, bt_list, bt_list, Bt.bl_succ]
theorem bt_rev (n i : Nat) : ⟨#[UInt8.ofNat (48 + Bt.bit n i)]⟩ ++ bt i (Bt.rev n i) = bt (i + 1) (Bt.rev n (i + 1)) := by
  apply text_ext
  rw [ByteArray.data_append, Array.toList_append, bt_list, bt_list, ← Bt.bl_rev]
  rfl
theorem bt_zero (N : Nat) : bt 0 N = ⟨#[]⟩ := rfl

theorem bt_bits (c N k : Nat) (hk : k < (bt c N).size) : (bt c N)[k].toNat = 48 + Bt.bit N k := by
  have hs := bt_size c N
  have h1 : (bt c N).data.toList[k]? = some (UInt8.ofNat (48 + Bt.bit N k)) := by rw [bt_list, Bt.bl_at _ _ _ (by omega)]
  have h2 : (bt c N).data.toList[k]? = some (bt c N)[k] := by
    rw [List.getElem?_eq_getElem (by simpa using hk)]; rfl
  rw [h2] at h1
  have := Bt.bit_lt N k
  rw [Option.some.inj h1, UInt8.toNat_ofNat']
  omega

end Go.Proofs.YtkpgfdhljpdidacDoor
namespace Go.Proofs.YtkpgfdhljpdidacDoor
open Go.RowKit

theorem addr_add (g o j : Nat) : (⟨g, o, none⟩ : Addr).add j = ⟨g, o + j, none⟩ := by unfold Addr.add; split <;> simp_all
theorem own_shape {w : World} {base n : Nat} {e : TypeId} {v : Value} {xs : List Value} (h : w.ownsRow base e 1 v n xs) : ∃ a c, v = .slice a n c ∧ (0 < n → ∃ g, a = some ⟨g, 0, none⟩ ∧ base ≤ g) := by
  rcases h.2 with ⟨rfl, rfl⟩ | ⟨g, c, cur, rfl, hb, _⟩
  · exact ⟨none, 0, rfl, fun h => by omega⟩
  · exact ⟨_, c, rfl, fun _ => ⟨g, rfl, hb⟩⟩


/-! ### A byte more -/
theorem app_u8 (w : World) (base q : Nat) (v : Value) (l : List UInt8) (b : UInt8) (t : TypeId) (hown : w.ownsRow base 5 1 v l.length (byteVals l)) (hq : w.cell? ⟨q, 0, none⟩ = some (.int .u8 (b.toNat : Int))) (hl : l.length ≤ 1000000) (hb : base ≤ w.heap.size) :
    ∃ v' w', (Builtin.append_ #[36, 36] t #[v, .slice (some ⟨q, 0, none⟩) 1 1]).run Tryd.prog w = .ok v' w' ∧ w'.ownsRow base 5 1 v' (l ++ [b]).length (byteVals (l ++ [b])) ∧ w.grownBy w' v.ownBlock ∧ (v'.ownBlock = v.ownBlock ∨ v'.ownBlock = some w.heap.size) := by
  obtain ⟨i0, hi, hz0, hz1, hz2⟩ := info_parts info_u8
  obtain ⟨v', w', h1, h2, h3, h4, h5⟩ := run_append_own_at (P := Tryd.prog) w base 36 t 5 i0 (.int .u8 0) 1 1 Tryd.underlying36 hi hz0 hz1 hz2 rfl (by omega) v l.length (byteVals l) hown ⟨q, 0, none⟩ 1 1 [.int .u8 (b.toNat : Int)] rfl (fun j u hj => by
    match j, hj with
    | 0, hj => rw [addr_add, Nat.zero_add, hq]; simpa using hj) (fun u hu => by rw [List.mem_singleton] at hu; subst hu; rfl) (by unfold maxLen; omega) (by omega) hb
  refine ⟨v', w', h1, ?_, h3, h5⟩
  rw [byteVals_append, List.length_append]
  exact h2

theorem wpList_appB (w : World) {ops : Array Oper} {rest : List Oper} {o : Oper} {a : Act} {Q : Exit → Act → World → Prop} (hgd : o.guard = none) (s x : Operand)
    (ho : o.op = .call { callee := .builtin .append, args := #[s, x], argTypes := #[36, 36] }) (base q : Nat) (v : Value) (l : List UInt8) (b : UInt8) (hs : a.eval s = v) (hx : a.eval x = .slice (some ⟨q, 0, none⟩) 1 1)
    (hown : w.ownsRow base 5 1 v l.length (byteVals l)) (hq : w.cell? ⟨q, 0, none⟩ = some (.int .u8 (b.toNat : Int))) (hl : l.length ≤ 1000000) (hb : base ≤ w.heap.size)
    (h : ∀ v' w', w'.ownsRow base 5 1 v' (l ++ [b]).length (byteVals (l ++ [b])) → w.grownBy w' v.ownBlock → (v'.ownBlock = v.ownBlock ∨ v'.ownBlock = some w.heap.size) → wpList Tryd.prog ops Q rest (a.put o.dst v') w') : wpList Tryd.prog ops Q (o :: rest) a w := by
  obtain ⟨v', w', h1, h2, h3, h4⟩ := app_u8 w base q v l b o.type hown hq hl hb
  refine wpList_plain hgd fun _ hK => ?_
  unfold Oper.wp execOp
  simp only [ho, resolve, invoke, builtin, Sem.run_bind, Sem.run_pure, Result.andThen_ok, List.map_toArray, List.map_cons, List.map_nil, hs, hx, h1]
  exact hK _ _ (h v' w' h2 h3 h4)

/-- .. as one step of a statement that draws its order. -/
theorem step_appB {w : World} {ops : Array Oper} {o : Oper} {a : Act} {K : Act → World → Prop} {Q : Exit → Act → World → Prop} {E : Prop} (hgd : o.guard = none) (s x : Operand)
    (ho : o.op = .call { callee := .builtin .append, args := #[s, x], argTypes := #[36, 36] }) (base q : Nat) (v : Value) (l : List UInt8) (b : UInt8) (hs : a.eval s = v) (hx : a.eval x = .slice (some ⟨q, 0, none⟩) 1 1)
    (hown : w.ownsRow base 5 1 v l.length (byteVals l)) (hq : w.cell? ⟨q, 0, none⟩ = some (.int .u8 (b.toNat : Int))) (hl : l.length ≤ 1000000) (hb : base ≤ w.heap.size)
    (h : ∀ v' w', w'.ownsRow base 5 1 v' (l ++ [b]).length (byteVals (l ++ [b])) → w.grownBy w' v.ownBlock → (v'.ownBlock = v.ownBlock ∨ v'.ownBlock = some w.heap.size) → K (a.put o.dst v') w') : if Region.wanted o (yielded ops a.tmps) = true then Oper.wp Tryd.prog o a w K Q else E := by
  have hw : Region.wanted o (yielded ops a.tmps) = true := by simp [Region.wanted, hgd]
  rw [if_pos hw]
  obtain ⟨v', w', h1, h2, h3, h5⟩ := app_u8 w base q v l b o.type hown hq hl hb
  unfold Oper.wp execOp
  simp only [ho, resolve, invoke, builtin, Sem.run_bind, Sem.run_pure, Result.andThen_ok, List.map_toArray, List.map_cons, List.map_nil, hs, hx, h1]
  exact h v' w' h2 h3 h5

end Go.Proofs.YtkpgfdhljpdidacDoor
namespace Go.Proofs.YtkpgfdhljpdidacDoor
open Go.ChangeShapes Go.WideShapes Go.RowKit Go.Deep

/-- It is empty; or it leads to a row of numbers. -/
def IsInts (w : World) (a : Option Addr) (len : Nat) (z : Nat → Int) : Prop :=
  len = 0 ∨ ∃ b off, a = some ⟨b, off, none⟩ ∧ len ≤ maxLen ∧ ∀ i, i < len →
    w.cell? ⟨b, off + i, none⟩ = some (.int .i64 (z i)) ∧ -9223372036854775808 ≤ z i ∧ z i ≤ 9223372036854775807

theorem IsInts.below {w w' : World} {a : Option Addr} {len : Nat} {z : Nat → Int} (h : IsInts w a len z) (hb : Below w.heap.size w w') : IsInts w' a len z := by
  rcases h with h | ⟨b, off, ha, hl, h⟩
  · exact .inl h
  · refine .inr ⟨b, off, ha, hl, fun i hi => ⟨?_, (h i hi).2⟩⟩
    have h1 := (h i hi).1
    rw [hb.cell (World.block_lt_of_cell? _ _ h1)]; exact h1

theorem ints_cells : Tryd.prog.cellsOf 3 = 1 := by kernel_rfl

theorem open_nums {H : Type} {enc : TypeId × Value → H} {w : World} {base : Nat} {spare : Nat → Bool} {held : Bool} {fuel : Nat} {a : Option Addr} {len cap : Nat} {x : DataW H × List MemPlace}
    (h : DataW.trod enc Tryd.prog w base spare held fuel 22 [.slice a len cap] = some x) : ∃ z : Nat → Int, IsInts w a len z := by
  rcases open_slice1 Tryd.underlying22 ints_cells h with ⟨hcs, _⟩ | ⟨x, l, c, m, n, V, D, Pl, hcs, _, hl, hm, hmm, _, hx⟩
  · simp at hcs
    exact ⟨fun _ => 0, .inl hcs.2.1⟩
  simp at hcs
  obtain ⟨rfl, rfl, rfl⟩ := hcs
  have hlm : len ≤ m := by rw [hmm]; split <;> omega
  by_cases h0 : len = 0
  · exact ⟨fun _ => 0, .inl h0⟩
  have each : ∀ i, i < len → ∃ q : Int, w.cell? (x.add i) = some (.int .i64 q) ∧ -9223372036854775808 ≤ q ∧ q ≤ 9223372036854775807 := by
    intro i hi
    obtain ⟨h1, h2⟩ := hx i (by omega)
    obtain ⟨n1, e1, _, wf1⟩ := DataW.trod_int Tryd.underlying3 h2
    simp at e1
    rw [e1] at h1
    have u1 := bounds_i64 wf1
    exact ⟨n1, h1, by omega, by omega⟩
  obtain ⟨q, hq⟩ := choose_lt each
  obtain ⟨b, off, spot⟩ := x
  have hspot : spot = none := by
    have := (hq 0 (by omega)).1
    simpa [Addr.add] using World.cell?_spot this
  subst hspot
  refine ⟨q, .inr ⟨b, off, rfl, by omega, fun i hi => ?_⟩⟩
  have hadd : ∀ j, (⟨b, off, none⟩ : Addr).add j = ⟨b, off + j, none⟩ := fun j => by unfold Addr.add; split <;> simp_all
  have := hq i hi
  rw [hadd] at this
  exact this

end Go.Proofs.YtkpgfdhljpdidacDoor
namespace Go.Proofs.YtkpgfdhljpdidacDoor.Pm

/-- The first k together. -/
def pre (l : List Nat) (k : Nat) : Nat := (l.take k).sum

/-- In order. -/
def Ord (l : List Nat) : Prop := l.Pairwise (· ≤ ·)

/-- Neighbours by twos; an odd last one is left out. -/
def pairs : List Nat → List Nat
  | a :: b :: r => (a + b) :: pairs r
  | _ => []

theorem pre_zero (l : List Nat) : pre l 0 = 0 := by simp [pre]
theorem pre_cons (a : Nat) (l : List Nat) (k : Nat) : pre (a :: l) (k + 1) = a + pre l k := by simp [pre]
theorem pre_nil (k : Nat) : pre [] k = 0 := by simp [pre]

theorem pre_succ (l : List Nat) (k : Nat) (h : k < l.length) : pre l (k + 1) = pre l k + l[k] := by
  unfold pre
  rw [List.take_succ_eq_append_getElem h, List.sum_append]
  simp

theorem pre_mono (l : List Nat) {k m : Nat} (h : k ≤ m) : pre l k ≤ pre l m := by
  induction l generalizing k m with
  | nil => simp [pre]
  | cons a l ih =>
    cases k with
    | zero => simp [pre]
    | succ k =>
      cases m with
      | zero => omega
      | succ m =>
        rw [pre_cons, pre_cons]
        have := ih (k := k) (m := m) (by omega)
        omega

theorem pairs_pre (p : Nat) (l : List Nat) : pre (pairs l) p ≤ pre l (2 * p) := by
  induction p generalizing l with
  | zero => simp [pre]
  | succ p ih =>
    match l with
    | [] => simp [pairs, pre]
    | [a] => simp [pairs, pre]
    | a :: b :: r =>
      rw [pairs, pre_cons, show 2 * (p + 1) = 2 * p + 1 + 1 from by omega, pre_cons, pre_cons]
      have := ih r
      omega

theorem pairs_pre_eq (p : Nat) (l : List Nat) (h : 2 * p ≤ l.length) : pre (pairs l) p = pre l (2 * p) := by
  induction p generalizing l with
  | zero => simp [pre]
  | succ p ih =>
    match l, h with
    | a :: b :: r, h =>
      rw [pairs, pre_cons, show 2 * (p + 1) = 2 * p + 1 + 1 from by omega, pre_cons, pre_cons]
      have := ih r (by simp at h; omega)
      omega

theorem pairs_length (l : List Nat) : (pairs l).length = l.length / 2 := by
  match l with
  | [] => rfl
  | [a] => simp [pairs]
  | a :: b :: r =>
    simp only [pairs, List.length_cons]
    rw [pairs_length r]
    omega

theorem ord_tail {a : Nat} {l : List Nat} (h : Ord (a :: l)) : Ord l := (List.pairwise_cons.1 h).2
theorem ord_head {a : Nat} {l : List Nat} (h : Ord (a :: l)) : ∀ b ∈ l, a ≤ b := (List.pairwise_cons.1 h).1

theorem mem_pairs (l : List Nat) (h : Ord l) (c : Nat) (hc : ∀ b ∈ l, c ≤ b) : ∀ x ∈ pairs l, 2 * c ≤ x := by
  match l with
  | [] => intro x hx; simp [pairs] at hx
  | [a] => intro x hx; simp [pairs] at hx
  | a :: b :: r =>
    intro x hx
    simp only [pairs, List.mem_cons] at hx
    rcases hx with rfl | hx
    · have := hc a (by simp); have := hc b (by simp); omega
    · exact mem_pairs r (ord_tail (ord_tail h)) c (fun y hy => hc y (by simp [hy])) x hx

theorem pairs_ord (l : List Nat) (h : Ord l) : Ord (pairs l) := by
  match l with
  | [] => exact List.Pairwise.nil
  | [a] => exact List.Pairwise.nil
  | a :: b :: r =>
    refine List.pairwise_cons.2 ⟨fun x hx => ?_, pairs_ord r (ord_tail (ord_tail h))⟩
    have h1 := ord_head (ord_tail h)
    have h2 := mem_pairs r (ord_tail (ord_tail h)) b h1 x hx
    have := ord_head h b (by simp)
    omega

/-- Whatever is taken out of a list in order, its first ones weigh no more. -/
theorem pre_least (M S R : List Nat) (h : Ord M) (hp : M.Perm (S ++ R)) : pre M S.length ≤ S.sum := by
  induction M generalizing S R with
  | nil =>
    have := hp.length_eq
    simp at this
    rw [show S.length = 0 from by omega, pre_zero]
    exact Nat.zero_le _
  | cons m M ih =>
    have hm : m ∈ S ++ R := hp.subset (by simp)
    rcases List.mem_append.1 hm with hS | hR
    · have hs := List.perm_cons_erase hS
      have h1 : (m :: M).Perm (m :: (S.erase m ++ R)) := hp.trans ((hs.append_right R).trans (by simp))
      have h2 := ih (S.erase m) R (ord_tail h) ((List.perm_cons m).1 h1)
      have hl := hs.length_eq
      have hsum := hs.sum_nat
      rw [hl, hsum]
      simp only [List.length_cons, List.sum_cons]
      rw [pre_cons]
      omega
    · have hr := List.perm_cons_erase hR
      have h1 : (m :: M).Perm (m :: (S ++ R.erase m)) := hp.trans ((hr.append_left S).trans List.perm_middle)
      have h3 := (List.perm_cons m).1 h1
      have h2 := ih S (R.erase m) (ord_tail h) h3
      have hlen := h3.length_eq
      cases hk : S.length with
      | zero => simp [pre]
      | succ k =>
        rw [hk] at h2
        rw [pre_cons]
        have hkM : k < M.length := by rw [hlen, List.length_append]; omega
        rw [pre_succ M k hkM] at h2
        have := ord_head h M[k] (List.getElem_mem hkM)
        omega

/-- Of two lists, merged. -/
theorem merged (A B M : List Nat) (h : Ord M) (hp : M.Perm (A ++ B)) (s p : Nat) (hs : s ≤ A.length) (hq : p ≤ B.length) : pre M (s + p) ≤ pre A s + pre B p := by
  have h1 : (A ++ B).Perm ((A.take s ++ B.take p) ++ (A.drop s ++ B.drop p)) := by
    conv => lhs; rw [← List.take_append_drop s A, ← List.take_append_drop p B]
    rw [List.append_assoc, List.append_assoc]
    refine List.Perm.append_left _ ?_
    rw [← List.append_assoc, ← List.append_assoc]
    exact List.Perm.append_right _ List.perm_append_comm
  have h2 := pre_least M (A.take s ++ B.take p) _ h (hp.trans h1)
  rw [List.length_append, List.length_take, List.length_take, Nat.min_eq_left hs, Nat.min_eq_left hq, List.sum_append] at h2
  exact h2

/-- How wide a choice of s j out of each list is, in units of the last one. -/
def tot (s : Nat → Nat) : Nat → Nat
  | 0 => s 0
  | D + 1 => s (D + 1) + tot s D / 2

def wide (s : Nat → Nat) : Nat → Nat
  | 0 => s 0
  | D + 1 => s (D + 1) * 2 ^ (D + 1) + wide s D

theorem tot_wide (s : Nat → Nat) (D : Nat) : tot s D = wide s D / 2 ^ D := by
  induction D with
  | zero => simp [tot, wide]
  | succ D ih =>
    rw [tot, wide, ih, Nat.mul_comm, Nat.mul_add_div (Nat.two_pow_pos _), Nat.div_div_eq_div_mul, Nat.pow_succ]

def weigh (A : List Nat) (s : Nat → Nat) : Nat → Nat
  | 0 => pre A (s 0)
  | D + 1 => pre A (s (D + 1)) + weigh A s D

/-- THE BOUND: no choice that is as wide weighs less. -/
theorem bound (A : List Nat) (P : Nat → List Nat) (h0 : P 0 = A) (hP : ∀ j, Ord (P (j + 1)) ∧ (P (j + 1)).Perm (A ++ pairs (P j))) (s : Nat → Nat) (hs : ∀ j, s j ≤ A.length) :
    ∀ D x, x ≤ tot s D → pre (P D) x ≤ weigh A s D ∧ tot s D ≤ (P D).length := by
  intro D
  induction D with
  | zero =>
    intro x hx
    rw [h0]
    exact ⟨pre_mono A hx, hs 0⟩
  | succ D ih =>
    intro x hx
    obtain ⟨h1, h2⟩ := ih (2 * (tot s D / 2)) (by omega)
    obtain ⟨ho, hp⟩ := hP D
    have hl : tot s D / 2 ≤ (pairs (P D)).length := by rw [pairs_length]; omega
    have h3 := merged A (pairs (P D)) (P (D + 1)) ho hp (s (D + 1)) (tot s D / 2) (hs _) hl
    have h4 := pairs_pre (tot s D / 2) (P D)
    have h5 := pre_mono (P (D + 1)) hx
    refine ⟨?_, ?_⟩
    · show _ ≤ pre A (s (D + 1)) + weigh A s D
      simp only [tot] at h5
      omega
    · have := hp.length_eq
      rw [this, List.length_append]
      have := hs (D + 1)
      simp only [tot]
      omega

/-! ### Lengths: how many are at least so long, and what they cost. -/

/-- Up to a level. -/
def upto (f : Nat → Nat) : Nat → Nat
  | 0 => 0
  | r + 1 => f r + upto f r

theorem upto_add (f g : Nat → Nat) (r : Nat) : upto (fun j => f j + g j) r = upto f r + upto g r := by
  induction r with
  | zero => rfl
  | succ r ih => simp only [upto]; rw [ih]; omega
theorem upto_le {f g : Nat → Nat} (h : ∀ j, f j ≤ g j) (r : Nat) : upto f r ≤ upto g r := by
  induction r with
  | zero => exact Nat.le_refl _
  | succ r ih => simp only [upto]; have := h r; omega
theorem upto_congr {f g : Nat → Nat} (r : Nat) (h : ∀ j, j < r → f j = g j) : upto f r = upto g r := by
  induction r with
  | zero => rfl
  | succ r ih => simp only [upto]; rw [h r (by omega), ih (fun j hj => h j (by omega))]
theorem upto_zero (r : Nat) : upto (fun _ => 0) r = 0 := by
  induction r with
  | zero => rfl
  | succ r ih => simp only [upto]; omega

theorem wide_upto (s : Nat → Nat) (D : Nat) : wide s D = upto (fun j => s j * 2 ^ j) (D + 1) := by
  induction D with
  | zero => simp [wide, upto]
  | succ D ih => rw [wide, ih]; rfl
theorem weigh_upto (A : List Nat) (s : Nat → Nat) (D : Nat) : weigh A s D = upto (fun j => pre A (s j)) (D + 1) := by
  induction D with
  | zero => simp [weigh, upto]
  | succ D ih => rw [weigh, ih]; rfl

/-- One from level t on. -/
theorem one_upto (t c r : Nat) (h : t ≤ r) : upto (fun j => if t ≤ j then c else 0) r = c * (r - t) := by
  induction r with
  | zero => simp [upto, show t = 0 from by omega]
  | succ r ih =>
    simp only [upto]
    by_cases e : t ≤ r
    · rw [if_pos e, ih e, show r + 1 - t = (r - t) + 1 from by omega, Nat.mul_add]; omega
    · rw [if_neg e, show r + 1 - t = 0 from by omega]
      have : upto (fun j => if t ≤ j then c else 0) r = upto (fun _ => 0) r := upto_congr r (fun j hj => by rw [if_neg (by omega)])
      rw [this, upto_zero]; simp

theorem one_wide (t r : Nat) (h : t ≤ r) : upto (fun j => (if t ≤ j then 1 else 0) * 2 ^ j) r + 2 ^ t = 2 ^ r := by
  induction r with
  | zero => simp [upto, show t = 0 from by omega]
  | succ r ih =>
    simp only [upto]
    by_cases e : t ≤ r
    · have := ih e
      rw [if_pos e, Nat.pow_succ]; omega
    · rw [if_neg e, show t = r + 1 from by omega]
      have : upto (fun j => (if r + 1 ≤ j then 1 else 0) * 2 ^ j) r = upto (fun _ => 0) r := upto_congr r (fun j hj => by rw [if_neg (by omega)]; simp)
      rw [this, upto_zero]; simp

/-- Symbols: what each counts, and how long its word is. M: the most. -/
def cost (L : List (Nat × Nat)) : Nat := (L.map fun x => x.1 * x.2).sum
def kraft (M : Nat) (L : List (Nat × Nat)) : Nat := (L.map fun x => 2 ^ (M - x.2)).sum
/-- Those that reach level j. -/
def those (M : Nat) (L : List (Nat × Nat)) (j : Nat) : List (Nat × Nat) := L.filter fun x => decide (M - x.2 ≤ j)
def many (M : Nat) (L : List (Nat × Nat)) (j : Nat) : Nat := (those M L j).length

theorem many_cons (M : Nat) (x : Nat × Nat) (L : List (Nat × Nat)) (j : Nat) : many M (x :: L) j = (if M - x.2 ≤ j then 1 else 0) + many M L j := by
  unfold many those
  rw [List.filter_cons]
  by_cases h : M - x.2 ≤ j
  · simp [h]; omega
  · simp [h]

theorem many_le (M : Nat) (L : List (Nat × Nat)) (j : Nat) : many M L j ≤ L.length := List.length_filter_le _ _

theorem cost_upto (M : Nat) (L : List (Nat × Nat)) (h : ∀ x ∈ L, x.2 ≤ M) : cost L = upto (fun j => ((those M L j).map (·.1)).sum) M := by
  induction L with
  | nil => simp [cost, those, upto_zero]
  | cons x L ih =>
    have h1 := ih (fun y hy => h y (by simp [hy]))
    have hx := h x (by simp)
    have e : (fun j => ((those M (x :: L) j).map (·.1)).sum) = fun j => (if M - x.2 ≤ j then x.1 else 0) + ((those M L j).map (·.1)).sum := by
      funext j
      unfold those
      rw [List.filter_cons]
      by_cases h : M - x.2 ≤ j <;> simp [h]
    rw [e, upto_add, ← h1, one_upto _ _ _ (by omega)]
    rw [show M - (M - x.2) = x.2 from by omega]
    rfl

theorem wide_kraft (M : Nat) (L : List (Nat × Nat)) : upto (fun j => many M L j * 2 ^ j) M + kraft M L = L.length * 2 ^ M := by
  induction L with
  | nil => simp [kraft, many, those, upto_zero]
  | cons x L ih =>
    have e : (fun j => many M (x :: L) j * 2 ^ j) = fun j => (if M - x.2 ≤ j then 1 else 0) * 2 ^ j + many M L j * 2 ^ j := by
      funext j
      rw [many_cons, Nat.add_mul]
    rw [e, upto_add]
    have h1 := one_wide (M - x.2) M (by omega)
    have h2 : kraft M (x :: L) = 2 ^ (M - x.2) + kraft M L := rfl
    rw [h2, List.length_cons, Nat.add_mul]
    omega

/-- What they cost is no less than the least that as many can cost at each level. -/
theorem cost_weigh (A : List Nat) (M : Nat) (L : List (Nat × Nat)) (hA : Ord A) (hp : A.Perm (L.map (·.1))) (h : ∀ x ∈ L, x.2 ≤ M) : upto (fun j => pre A (many M L j)) M ≤ cost L := by
  rw [cost_upto M L h]
  refine upto_le (fun j => ?_) M
  have hq : L.Perm (those M L j ++ L.filter fun x => !decide (M - x.2 ≤ j)) := (List.filter_append_perm _ L).symm
  have h2 := pre_least A ((those M L j).map (·.1)) ((L.filter fun x => !decide (M - x.2 ≤ j)).map (·.1)) hA (hp.trans (by rw [← List.map_append]; exact hq.map _))
  simpa [many] using h2

/-- THE LEAST: lengths of a whole code (or of less than one) cost no less than the first 2 (n - 1) of the last list. -/
theorem least (A : List Nat) (P : Nat → List Nat) (D : Nat) (L : List (Nat × Nat)) (hA : Ord A) (h0 : P 0 = A) (hP : ∀ j, Ord (P (j + 1)) ∧ (P (j + 1)).Perm (A ++ pairs (P j)))
    (hp : A.Perm (L.map (·.1))) (h : ∀ x ∈ L, x.2 ≤ D + 1) (hK : kraft (D + 1) L ≤ 2 ^ (D + 1)) (hn : 0 < L.length) : pre (P D) (2 * (L.length - 1)) ≤ cost L := by
  have hl : A.length = L.length := by simpa using hp.length_eq
  have h1 := wide_kraft (D + 1) L
  have h2 : (2 * (L.length - 1)) * 2 ^ D ≤ wide (many (D + 1) L) D := by
    rw [wide_upto]
    obtain ⟨m, hm⟩ : ∃ m, L.length = m + 1 := ⟨L.length - 1, by omega⟩
    rw [hm] at h1 ⊢
    rw [Nat.add_mul] at h1
    have e : 2 * (m + 1 - 1) * 2 ^ D = m * 2 ^ (D + 1) := by rw [Nat.pow_succ, Nat.add_sub_cancel, Nat.mul_comm 2 m, Nat.mul_assoc, Nat.mul_comm 2]
    omega
  have h3 : 2 * (L.length - 1) ≤ tot (many (D + 1) L) D := by
    rw [tot_wide]
    exact (Nat.le_div_iff_mul_le (Nat.two_pow_pos D)).2 h2
  have h4 := (bound A P h0 hP (many (D + 1) L) (fun j => by rw [hl]; exact many_le _ _ _) D _ h3).1
  have h5 := cost_weigh A (D + 1) L hA hp h
  rw [weigh_upto] at h4
  omega

end Go.Proofs.YtkpgfdhljpdidacDoor.Pm
namespace Go.Proofs.YtkpgfdhljpdidacDoor.Cn
open Pm

/-- How much of the whole (2^15) the words take that come ahead of symbol i at length n. -/
def acc (l : Nat → Nat) (N n i : Nat) : Nat := upto (fun j => if 0 < l j ∧ (l j < n ∨ (l j = n ∧ j < i)) then 2 ^ (15 - l j) else 0) N

/-- All words together. -/
def all (l : Nat → Nat) (N : Nat) : Nat := upto (fun j => if 0 < l j then 2 ^ (15 - l j) else 0) N

/-- The word of a symbol. -/
def code (l : Nat → Nat) (N i : Nat) : Nat := if l i = 0 then 0 else acc l N (l i) i / 2 ^ (15 - l i)

theorem upto_single (i v m : Nat) : upto (fun j => if j = i then v else 0) m = if i < m then v else 0 := by
  induction m with
  | zero => rfl
  | succ m ih =>
    show (if m = i then v else 0) + upto (fun j => if j = i then v else 0) m = _
    rw [ih]
    by_cases e1 : m = i
    · subst e1; simp
    · rw [if_neg e1]
      by_cases e3 : i < m
      · rw [if_pos e3, if_pos (by omega)]; omega
      · rw [if_neg e3, if_neg (by omega)]

theorem acc_step (l : Nat → Nat) (N n i : Nat) (hn : 0 < n) (hi : i < N) : acc l N n (i + 1) = acc l N n i + if l i = n then 2 ^ (15 - n) else 0 := by
  have h := upto_single i (if l i = n then 2 ^ (15 - n) else 0) N
  rw [if_pos hi] at h
  rw [← h]
  unfold acc
  rw [← upto_add]
  refine upto_congr N (fun j _ => ?_)
  by_cases e : j = i
  · subst e
    rw [if_pos rfl]
    by_cases e2 : l j = n
    · rw [if_pos e2, if_pos ⟨by omega, .inr ⟨e2, by omega⟩⟩, if_neg (by omega), e2]; omega
    · rw [if_neg e2]
      by_cases e3 : 0 < l j ∧ l j < n
      · rw [if_pos ⟨e3.1, .inl e3.2⟩, if_pos ⟨e3.1, .inl e3.2⟩, Nat.add_zero]
      · rw [if_neg (by omega), if_neg (by omega)]
  · rw [if_neg e]
    by_cases e3 : 0 < l j ∧ (l j < n ∨ (l j = n ∧ j < i))
    · rw [if_pos (by omega), if_pos e3]; omega
    · rw [if_neg (by omega), if_neg e3]

theorem acc_next (l : Nat → Nat) (N n : Nat) : acc l N (n + 1) 0 = acc l N n N := by
  unfold acc
  refine upto_congr N (fun j hj => ?_)
  by_cases e3 : 0 < l j ∧ l j ≤ n
  · rw [if_pos (by omega), if_pos (by omega)]
  · rw [if_neg (by omega), if_neg (by omega)]

theorem acc_first (l : Nat → Nat) (N : Nat) : acc l N 1 0 = 0 := by
  unfold acc
  have : upto (fun j => if 0 < l j ∧ (l j < 1 ∨ (l j = 1 ∧ j < 0)) then 2 ^ (15 - l j) else 0) N = upto (fun _ => 0) N := upto_congr N (fun j _ => by rw [if_neg (by omega)])
  rw [this, upto_zero]

theorem acc_le_all (l : Nat → Nat) (N n i : Nat) : acc l N n i ≤ all l N := by
  unfold acc all
  refine upto_le (fun j => ?_) N
  by_cases e3 : 0 < l j ∧ (l j < n ∨ (l j = n ∧ j < i))
  · rw [if_pos e3, if_pos e3.1]; exact Nat.le_refl _
  · rw [if_neg e3]; exact Nat.zero_le _

theorem acc_mono (l : Nat → Nat) (N : Nat) {n i n' i' : Nat} (h : n < n' ∨ (n = n' ∧ i ≤ i')) : acc l N n i ≤ acc l N n' i' := by
  unfold acc
  refine upto_le (fun j => ?_) N
  by_cases e3 : 0 < l j ∧ (l j < n ∨ (l j = n ∧ j < i))
  · rw [if_pos e3, if_pos (by omega)]; exact Nat.le_refl _
  · rw [if_neg e3]; exact Nat.zero_le _

theorem acc_dvd (l : Nat → Nat) (N n i : Nat) : 2 ^ (15 - n) ∣ acc l N n i := by
  unfold acc
  have : ∀ m, 2 ^ (15 - n) ∣ upto (fun j => if 0 < l j ∧ (l j < n ∨ (l j = n ∧ j < i)) then 2 ^ (15 - l j) else 0) m := by
    intro m
    induction m with
    | zero => exact Nat.dvd_zero _
    | succ m ih =>
      show _ ∣ (if 0 < l m ∧ (l m < n ∨ (l m = n ∧ m < i)) then 2 ^ (15 - l m) else 0) + _
      refine Nat.dvd_add ?_ ih
      split
      · exact Nat.pow_dvd_pow 2 (by omega)
      · exact Nat.dvd_zero _
  exact this N

/-- A word takes its own part. -/
theorem acc_own (l : Nat → Nat) (N i : Nat) (hi : i < N) (h : 0 < l i) : acc l N (l i) (i + 1) = acc l N (l i) i + 2 ^ (15 - l i) := by
  rw [acc_step l N (l i) i h hi, if_pos rfl]

theorem code_mul (l : Nat → Nat) (N i : Nat) (h : 0 < l i) : code l N i * 2 ^ (15 - l i) = acc l N (l i) i := by
  unfold code
  rw [if_neg (by omega)]
  exact Nat.div_mul_cancel (acc_dvd l N (l i) i)

theorem code_lt (l : Nat → Nat) (N i : Nat) (hi : i < N) (h : 0 < l i) (h15 : l i ≤ 15) (hK : all l N ≤ 2 ^ 15) : code l N i < 2 ^ l i := by
  have h1 := acc_own l N i hi h
  have h2 := acc_le_all l N (l i) (i + 1)
  have h3 := code_mul l N i h
  have hp := Nat.two_pow_pos (15 - l i)
  have e : 2 ^ 15 = 2 ^ l i * 2 ^ (15 - l i) := by rw [← Nat.pow_add, show l i + (15 - l i) = 15 from by omega]
  rw [e] at hK
  refine Nat.lt_of_mul_lt_mul_right (a := 2 ^ (15 - l i)) ?_
  omega

/-- KRAFT: no word begins another one. -/
theorem apart (l : Nat → Nat) (N i k : Nat) (hi : i < N) (hk : k < N) (hik : i ≠ k) (h : 0 < l i) (hl : l i ≤ l k) (h15 : l k ≤ 15) : code l N k / 2 ^ (l k - l i) ≠ code l N i := by
  have hpi := Nat.two_pow_pos (15 - l i)
  have hck := code_mul l N k (by omega)
  have hci := code_mul l N i h
  have e : 2 ^ (15 - l i) = 2 ^ (l k - l i) * 2 ^ (15 - l k) := by rw [← Nat.pow_add, show l k - l i + (15 - l k) = 15 - l i from by omega]
  have hq : code l N k / 2 ^ (l k - l i) = acc l N (l k) k / 2 ^ (15 - l i) := by
    rw [← hck, e, Nat.mul_comm (2 ^ (l k - l i)), ← Nat.div_div_eq_div_mul, Nat.mul_div_cancel _ (Nat.two_pow_pos _)]
  rw [hq]
  intro hc
  by_cases hord : l i < l k ∨ i < k
  · have h1 := acc_mono l N (n := l i) (i := i + 1) (n' := l k) (i' := k) (by omega)
    rw [acc_own l N i hi h, ← hci] at h1
    have h2 : code l N i + 1 ≤ acc l N (l k) k / 2 ^ (15 - l i) := (Nat.le_div_iff_mul_le hpi).2 (by rw [Nat.add_mul, Nat.one_mul]; exact h1)
    omega
  · have hle : l k = l i := by omega
    have h1 := acc_mono l N (n := l k) (i := k + 1) (n' := l i) (i' := i) (by omega)
    rw [acc_own l N k hk (by omega), ← hci, hle] at h1
    rw [hle] at hc
    have h2 : acc l N (l i) k < code l N i * 2 ^ (15 - l i) := by omega
    have h3 := (Nat.div_lt_iff_lt_mul hpi).2 h2
    omega

/-- Where the words fill the whole, each row of bits begins with one: some symbol's word is the first of any 15 bits. -/
theorem found (l : Nat → Nat) (N x : Nat) (hl : ∀ j, j < N → l j ≤ 15) (hx : x < all l N) : ∃ i, i < N ∧ 0 < l i ∧ acc l N (l i) i ≤ x ∧ x < acc l N (l i) i + 2 ^ (15 - l i) := by
  have htop : acc l N 16 0 = all l N := by
    unfold acc all
    refine upto_congr N (fun j hj => ?_)
    have := hl j hj
    by_cases e : 0 < l j
    · rw [if_pos ⟨e, .inl (by omega)⟩, if_pos e]
    · rw [if_neg (by omega), if_neg e]
  have inner : ∀ n, 0 < n → ∀ i, i ≤ N → acc l N n 0 ≤ x → x < acc l N n i → ∃ k, k < N ∧ 0 < l k ∧ acc l N (l k) k ≤ x ∧ x < acc l N (l k) k + 2 ^ (15 - l k) := by
    intro n hn i
    induction i with
    | zero => intro _ h1 h2; omega
    | succ i ih =>
      intro hi h1 h2
      by_cases h3 : x < acc l N n i
      · exact ih (by omega) h1 h3
      · rw [acc_step l N n i hn (by omega)] at h2
        by_cases e : l i = n
        · rw [if_pos e] at h2
          exact ⟨i, by omega, by omega, by rw [e]; omega, by rw [e]; omega⟩
        · rw [if_neg e] at h2; omega
  have outer : ∀ m, x < acc l N (m + 1) 0 → ∃ k, k < N ∧ 0 < l k ∧ acc l N (l k) k ≤ x ∧ x < acc l N (l k) k + 2 ^ (15 - l k) := by
    intro m
    induction m with
    | zero => intro h; rw [acc_first] at h; omega
    | succ m ih =>
      intro h
      by_cases h1 : x < acc l N (m + 1) 0
      · exact ih h1
      · rw [acc_next] at h
        exact inner (m + 1) (by omega) N (Nat.le_refl _) (by omega) h
  exact outer 15 (by rw [htop]; exact hx)

end Go.Proofs.YtkpgfdhljpdidacDoor.Cn
