/- Plain facts on the one-bit step of CRC over natural numbers: it is linear over exclusive or, and it loses nothing of 32 bits. Plain facts on bits of natural numbers: as texts of noughts and ones, as bytes, one behind the other, turned round. Pieces of bits: numbers of so many bits, end to end: plain. Small handles. What a walk is told of a slice of numbers that came in. Plain facts on packages that are merged (LARMORE and HIRSCHBERG): of a list in order that holds what is to be chosen from and pairs of the list below, the first ones weigh no more than any choice that is as wide. -/
import Derived.Test.YtfeljhikeddodadGreatDoorChecked
import Derived.WalkKit
import Derived.ProofKit
import Derived.OpenShut
import Derived.ChangeArms
import Derived.Deep.Slices
namespace Go.Proofs.YtfeljhikeddodadGreatDoor.Crc

/-- One bit to the right; a bit that falls out is joined in. -/
def step (c : Nat) : Nat := if c % 2 = 1 then (c / 2) ^^^ 3988292384 else c / 2
def steps : Nat → Nat → Nat
  | 0, c => c
  | n + 1, c => steps n (step c)
theorem step_lt {c : Nat} (h : c < 4294967296) : step c < 4294967296 := by
  unfold step
  split
  · exact Nat.xor_lt_two_pow (n := 32) (by omega) (by omega)
  · omega
theorem steps_lt (n : Nat) {c : Nat} (h : c < 4294967296) : steps n c < 4294967296 := by
  induction n generalizing c with
  | zero => exact h
  | succ n ih => exact ih (step_lt h)
/-- The bytes as one number, the first the lowest. -/
def num : List UInt8 → Nat
  | [] => 0
  | b :: l => b.toNat + 256 * num l
/-- CRC's run over bytes, bit by bit. -/
def run (c : Nat) (l : List UInt8) : Nat := l.foldl (fun c b => steps 8 (c ^^^ b.toNat)) c
theorem run_snoc (c : Nat) (a : List UInt8) (b : UInt8) : run c (a ++ [b]) = steps 8 (run c a ^^^ b.toNat) := by simp [run]
theorem run_lt (c : Nat) (l : List UInt8) (h : c < 4294967296) : run c l < 4294967296 := by
  induction l generalizing c with
  | nil => exact h
  | cons b l ih =>
    have hb := b.toNat_lt
    exact ih _ (steps_lt 8 (Nat.xor_lt_two_pow (n := 32) (by omega) (by omega)))
end Go.Proofs.YtfeljhikeddodadGreatDoor.Crc
namespace Go.Proofs.YtfeljhikeddodadGreatDoor.Bt

/-- Bit i of a number. -/
def bit (N i : Nat) : Nat := N / 2 ^ i % 2
theorem bit_lt (N i : Nat) : bit N i < 2 := Nat.mod_lt _ (by omega)
/-- The first c bits as a text of noughts and ones. -/
def bl (c N : Nat) : List UInt8 := (List.range c).map fun i => UInt8.ofNat (48 + bit N i)
/-- The first m bytes of a number, the lowest first. -/
def yl (m N : Nat) : List UInt8 := (List.range m).map fun i => UInt8.ofNat (N / 256 ^ i)
/-- The first i bits of n, turned round. -/
def rev (n : Nat) : Nat → Nat
  | 0 => 0
  | i + 1 => bit n i + 2 * rev n i
/-- The highest i of w bits, the highest first. -/
def top (n w : Nat) : Nat → Nat
  | 0 => 0
  | i + 1 => top n w i + 2 ^ i * bit n (w - 1 - i)
theorem bl_length (c N : Nat) : (bl c N).length = c := by simp [bl]
theorem yl_length (m N : Nat) : (yl m N).length = m := by simp [yl]
theorem bl_succ (c N : Nat) : bl (c + 1) N = bl c N ++ [UInt8.ofNat (48 + bit N c)] := by
  simp [bl, List.range_succ]
theorem yl_succ (m N : Nat) : yl (m + 1) N = yl m N ++ [UInt8.ofNat (N / 256 ^ m)] := by
  simp [yl, List.range_succ]
theorem bl_at (c N i : Nat) (h : i < c) : (bl c N)[i]? = some (UInt8.ofNat (48 + bit N i)) := by
  simp [bl, List.getElem?_range h]
theorem yl_at (m N i : Nat) (h : i < m) : (yl m N)[i]? = some (UInt8.ofNat (N / 256 ^ i)) := by
  simp [yl, List.getElem?_range h]
theorem bit_low (c N n i : Nat) (h : i < c) : bit (N + 2 ^ c * n) i = bit N i := by
  unfold bit
  have e : c = i + 1 + (c - i - 1) := by omega
  rw [e, Nat.pow_add, Nat.pow_succ, Nat.mul_assoc, Nat.mul_assoc, Nat.add_mul_div_left _ _ (Nat.two_pow_pos i)]
  omega
theorem bit_high (c N n i : Nat) (h : N < 2 ^ c) : bit (N + 2 ^ c * n) (c + i) = bit n i := by
  unfold bit
  rw [Nat.pow_add, ← Nat.div_div_eq_div_mul, Nat.add_mul_div_left _ _ (Nat.two_pow_pos c), Nat.div_eq_of_lt h, Nat.zero_add]
theorem bl_append (c N w n : Nat) (h : N < 2 ^ c) : bl c N ++ bl w n = bl (c + w) (N + 2 ^ c * n) := by
  unfold bl
  rw [List.range_add, List.map_append, List.map_map]
  congr 1
  · refine List.map_congr_left fun i hi => ?_
    rw [bit_low _ _ _ _ (List.mem_range.1 hi)]
  · refine List.map_congr_left fun i _ => ?_
    simp only [Function.comp]
    rw [bit_high _ _ _ _ h]
theorem bl_one (b : Nat) (h : b < 2) : bl 1 b = [UInt8.ofNat (48 + b)] := by
  have : bit b 0 = b := by unfold bit; omega
  simp [bl, this]
theorem rev_lt (n i : Nat) : rev n i < 2 ^ i := by
  induction i with
  | zero => simp [rev]
  | succ i ih =>
    have := bit_lt n i
    rw [rev, Nat.pow_succ]
    omega
theorem bl_rev (n i : Nat) : UInt8.ofNat (48 + bit n i) :: bl i (rev n i) = bl (i + 1) (rev n (i + 1)) := by
  have := bl_append 1 (bit n i) i (rev n i) (by simpa using bit_lt n i)
  rw [bl_one _ (bit_lt n i)] at this
  rw [rev, Nat.add_comm i 1]
  simpa using this
theorem top_rev (n w i : Nat) (h : i ≤ w) : top n (w + 1) (i + 1) = bit n w + 2 * top n w i := by
  induction i with
  | zero => simp [top]
  | succ i ih =>
    have e : top n (w + 1) (i + 1 + 1) = top n (w + 1) (i + 1) + 2 ^ (i + 1) * bit n (w + 1 - 1 - (i + 1)) := rfl
    rw [e, ih (by omega), top, show w + 1 - 1 - (i + 1) = w - 1 - i from by omega, Nat.pow_succ, Nat.mul_add]
    rw [Nat.mul_comm (2 ^ i) 2, Nat.mul_assoc]
    omega
theorem top_all (n w : Nat) : top n w w = rev n w := by
  induction w with
  | zero => rfl
  | succ w ih => rw [top_rev n w w (Nat.le_refl _), ih, rev]
theorem drop_take (c N a w : Nat) (h : a + w ≤ c) : ((bl c N).drop a).take w = bl w (N / 2 ^ a) := by
  apply List.ext_getElem?
  intro i
  by_cases hi : i < w
  · rw [List.getElem?_take_of_lt hi, List.getElem?_drop, bl_at _ _ _ (by omega), bl_at _ _ _ hi]
    unfold bit
    rw [Nat.div_div_eq_div_mul, ← Nat.pow_add]
  · rw [List.getElem?_eq_none (by simp; omega), List.getElem?_eq_none (by rw [bl_length]; omega)]
/-- What is read off from above, a bit more. -/
theorem bit_mod (N w i : Nat) (h : i < w) : bit (N % 2 ^ w) i = bit N i := by
  have := Nat.mod_add_div N (2 ^ w)
  have e := bit_low w (N % 2 ^ w) (N / 2 ^ w) i h
  rw [this] at e
  exact e.symm
theorem from_above (N w i : Nat) (h : i < w) : N % 2 ^ w / 2 ^ (i + 1) * 2 + bit N i = N % 2 ^ w / 2 ^ i := by
  rw [← bit_mod N w i h]
  unfold bit
  rw [Nat.pow_succ, ← Nat.div_div_eq_div_mul]
  omega
theorem mod_succ (N i : Nat) : N % 2 ^ (i + 1) = N % 2 ^ i + 2 ^ i * bit N i := Nat.mod_pow_succ
theorem pow256 (j : Nat) : 256 ^ j = 2 ^ (8 * j) := by
  rw [Nat.pow_mul]
/-- A byte 0 behind. -/
theorem yl_nought (m N : Nat) (h : N < 256 ^ m) : yl m N ++ [0] = yl (m + 1) N := by
  rw [yl_succ, Nat.div_eq_of_lt h]
  rfl
theorem div_byte (c N : Nat) (h : N < 2 ^ c) : N / 256 ^ (c / 8) < 2 ^ (c % 8) := by
  apply Nat.div_lt_of_lt_mul
  rw [pow256, ← Nat.pow_add]
  rw [show 8 * (c / 8) + c % 8 = c from by omega]
  exact h
theorem two_pow_split (c : Nat) : 2 ^ c = 256 ^ (c / 8) * 2 ^ (c % 8) := by
  rw [pow256, ← Nat.pow_add, show 8 * (c / 8) + c % 8 = c from by omega]
theorem pow_le_128 (r : Nat) (h : r < 8) : 2 ^ r ≤ 128 := Nat.pow_le_pow_right (n := 2) (j := 7) (by omega) (by omega)
/-- One bit more changes one byte. -/
theorem yl_bit (m c N b : Nat) (h : N < 2 ^ c) (hb : b < 2) : yl m (N + 2 ^ c * b) = (yl m N).set (c / 8) (UInt8.ofNat (N / 256 ^ (c / 8) + 2 ^ (c % 8) * b)) := by
  apply List.ext_getElem?
  intro j
  rw [List.getElem?_set, yl_length]
  by_cases hj : j < m
  · rw [yl_at _ _ _ hj, yl_at _ _ _ hj]
    by_cases e : c / 8 = j
    · subst e
      rw [if_pos rfl, if_pos hj]
      congr 1
      have hp : 0 < 256 ^ (c / 8) := Nat.pow_pos (by omega)
      have := two_pow_split c
      rw [this, Nat.mul_assoc, Nat.add_mul_div_left _ _ hp]
    · rw [if_neg e]
      congr 1
      by_cases hl : j < c / 8
      · have hp : 0 < 256 ^ j := Nat.pow_pos (by omega)
        have : 2 ^ c * b = 256 ^ j * (256 * (2 ^ (c - 8 * j - 8) * b)) := by
          rw [pow256, show (256 : Nat) = 2 ^ 8 from rfl, ← Nat.mul_assoc, ← Nat.mul_assoc, ← Nat.pow_add, ← Nat.pow_add]
          congr 2
          omega
        rw [this, Nat.add_mul_div_left _ _ hp]
        apply UInt8.toNat_inj.1
        rw [UInt8.toNat_ofNat', UInt8.toNat_ofNat']
        omega
      · have h1 : 2 ^ (c + 1) ≤ 256 ^ j := by
          rw [pow256]
          exact Nat.pow_le_pow_right (by omega) (by omega)
        have h2 : 2 ^ c * b ≤ 2 ^ c := by
          have := Nat.mul_le_mul_left (2 ^ c) (show b ≤ 1 by omega)
          simpa using this
        rw [Nat.pow_succ] at h1
        rw [Nat.div_eq_of_lt (by omega), Nat.div_eq_of_lt (by omega)]
  · rw [List.getElem?_eq_none (by rw [yl_length]; omega), List.getElem?_eq_none (by rw [yl_length]; omega)]
    split
    · rename_i e
      rw [if_neg (by omega)]
    · rfl
theorem num_append (a b : List UInt8) : Crc.num (a ++ b) = Crc.num a + 2 ^ (8 * a.length) * Crc.num b := by
  induction a with
  | nil => simp [Crc.num]
  | cons x a ih =>
    rw [List.cons_append, Crc.num, ih, Crc.num, List.length_cons, show 8 * (a.length + 1) = 8 + 8 * a.length from by omega, Nat.pow_add, Nat.mul_assoc]
    omega
/-- The bits of a byte of a text, among the bits of the text. -/
theorem bit_num (l : List UInt8) (q r : Nat) (hq : q < l.length) (hr : r < 8) : bit (Crc.num l) (8 * q + r) = bit l[q].toNat r := by
  induction l generalizing q with
  | nil => simp at hq
  | cons x l ih =>
    cases q with
    | zero =>
      have := bit_low 8 x.toNat (Crc.num l) r hr
      simpa [Crc.num] using this
    | succ q =>
      have h := bit_high 8 x.toNat (Crc.num l) (8 * q + r) x.toNat_lt
      rw [show 8 * (q + 1) + r = 8 + (8 * q + r) from by omega]
      simp only [Crc.num]
      rw [show (256 : Nat) = 2 ^ 8 from rfl, h, ih q (by simpa using hq)]
      simp
theorem num_yl (m N : Nat) : Crc.num (yl m N) = N % 256 ^ m := by
  induction m with
  | zero => simp [yl, Crc.num, Nat.mod_one]
  | succ m ih =>
    rw [yl_succ, num_append, ih, yl_length, ← pow256]
    simp only [Crc.num]
    rw [UInt8.toNat_ofNat', Nat.mul_zero, Nat.add_zero, show (2 : Nat) ^ 8 = 256 from rfl]
    exact (Nat.mod_pow_succ).symm
theorem lt_more (c w N n : Nat) (h : N < 2 ^ c) (hn : n < 2 ^ w) : N + 2 ^ c * n < 2 ^ (c + w) := by
  rw [Nat.pow_add]
  have := Nat.mul_le_mul_left (2 ^ c) (show n + 1 ≤ 2 ^ w by omega)
  rw [Nat.mul_add] at this
  omega
theorem lt_wide {c d N : Nat} (h : N < 2 ^ c) (hc : c ≤ d) : N < 2 ^ d := Nat.lt_of_lt_of_le h (Nat.pow_le_pow_right (by omega) hc)
/-- Low bits, one more. -/
theorem low_succ (c N n i : Nat) : N + 2 ^ c * (n % 2 ^ (i + 1)) = (N + 2 ^ c * (n % 2 ^ i)) + 2 ^ (c + i) * bit n i := by
  rw [mod_succ, Nat.mul_add, Nat.pow_add, Nat.mul_assoc, Nat.add_assoc]
theorem top_succ (c N n w i : Nat) : N + 2 ^ c * top n w (i + 1) = (N + 2 ^ c * top n w i) + 2 ^ (c + i) * bit n (w - 1 - i) := by
  rw [top, Nat.mul_add, Nat.pow_add, Nat.mul_assoc, Nat.add_assoc]
theorem top_lt (n w i : Nat) : top n w i < 2 ^ i := by
  induction i with
  | zero => simp [top]
  | succ i ih =>
    have h := bit_lt n (w - 1 - i)
    have := Nat.mul_le_mul_left (2 ^ i) (show bit n (w - 1 - i) ≤ 1 by omega)
    rw [top, Nat.pow_succ]
    omega
theorem or_above (x b i : Nat) (h : x < 2 ^ i) : x ||| (2 ^ i * b) = x + 2 ^ i * b := by
  have := Nat.two_pow_add_eq_or_of_lt h b
  rw [Nat.or_comm, ← this, Nat.add_comm]
end Go.Proofs.YtfeljhikeddodadGreatDoor.Bt
namespace Go.Proofs.YtfeljhikeddodadGreatDoor.Ps

/-! ### Pieces: a number, and how many bits -/
abbrev Pc := Nat × Nat
def len : List Pc → Nat
  | [] => 0
  | p :: l => p.2 + len l
def val : List Pc → Nat
  | [] => 0
  | p :: l => p.1 + 2 ^ p.2 * val l
def Fit (l : List Pc) : Prop := ∀ p ∈ l, p.1 < 2 ^ p.2
theorem Fit.nil : Fit [] := fun _ h => by cases h
theorem Fit.cons {p : Pc} {l : List Pc} (h : p.1 < 2 ^ p.2) (hl : Fit l) : Fit (p :: l) := fun q hq => by
  rcases List.mem_cons.1 hq with e | e
  · rw [e]; exact h
  · exact hl q e
theorem Fit.append {a b : List Pc} (h : Fit a) (g : Fit b) : Fit (a ++ b) := fun q hq => by
  rcases List.mem_append.1 hq with e | e
  · exact h q e
  · exact g q e
theorem Fit.left {a b : List Pc} (h : Fit (a ++ b)) : Fit a := fun q hq => h q (List.mem_append.2 (.inl hq))
theorem Fit.right {a b : List Pc} (h : Fit (a ++ b)) : Fit b := fun q hq => h q (List.mem_append.2 (.inr hq))
theorem len_append (a b : List Pc) : len (a ++ b) = len a + len b := by
  induction a with
  | nil => simp [len]
  | cons p a ih => simp only [List.cons_append, len, ih]; omega
theorem val_append (a b : List Pc) : val (a ++ b) = val a + 2 ^ len a * val b := by
  induction a with
  | nil => simp [len, val]
  | cons p a ih =>
    simp only [List.cons_append, len, val, ih]
    rw [Nat.pow_add, Nat.mul_add, Nat.add_assoc, Nat.mul_assoc]
theorem val_lt {l : List Pc} (h : Fit l) : val l < 2 ^ len l := by
  induction l with
  | nil => simp [len, val]
  | cons p l ih => exact Bt.lt_more p.2 _ _ _ (h p (by simp)) (ih (fun q hq => h q (by simp [hq])))
/-- The pieces stand from the k-th bit on. -/
def At (V nb k : Nat) (l : List Pc) : Prop := k + len l ≤ nb ∧ V / 2 ^ k % 2 ^ len l = val l
theorem At.split {V nb k : Nat} {a b : List Pc} (ha : Fit a) (h : At V nb k (a ++ b)) : At V nb k a ∧ At V nb (k + len a) b := by
  obtain ⟨h1, h2⟩ := h
  rw [len_append] at h1
  rw [len_append, val_append] at h2
  have hv := val_lt ha
  refine ⟨⟨by omega, ?_⟩, ⟨by omega, ?_⟩⟩
  · have e : V / 2 ^ k % 2 ^ (len a + len b) % 2 ^ len a = V / 2 ^ k % 2 ^ len a := Nat.mod_mod_of_dvd _ (Nat.pow_dvd_pow 2 (by omega))
    rw [← e, h2, Nat.add_mul_mod_self_left, Nat.mod_eq_of_lt hv]
  · have e : V / 2 ^ (k + len a) % 2 ^ len b = V / 2 ^ k % 2 ^ (len a + len b) / 2 ^ len a := by
      rw [Nat.pow_add, Nat.pow_add, ← Nat.div_div_eq_div_mul, Nat.mod_mul_right_div_self]
    rw [e, h2, Nat.add_mul_div_left _ _ (Nat.two_pow_pos _), Nat.div_eq_of_lt hv, Nat.zero_add]
theorem At.join {V nb k : Nat} {a b : List Pc} (h : At V nb k a) (g : At V nb (k + len a) b) : At V nb k (a ++ b) := by
  obtain ⟨h1, h2⟩ := h
  obtain ⟨g1, g2⟩ := g
  refine ⟨by rw [len_append]; omega, ?_⟩
  rw [len_append, val_append, Nat.pow_add, Nat.mod_mul, h2, Nat.div_div_eq_div_mul, ← Nat.pow_add, g2]
theorem At.cons {V nb k : Nat} {p : Pc} {l : List Pc} (hp : p.1 < 2 ^ p.2) (h : At V nb k (p :: l)) : At V nb k [p] ∧ At V nb (k + p.2) l := by
  have := At.split (a := [p]) (b := l) (Fit.cons hp Fit.nil) h
  simpa [len] using this
theorem At.nil {V nb k : Nat} (h : k ≤ nb) : At V nb k [] := ⟨by simpa [len] using h, by simp [len, val, Nat.mod_one]⟩
theorem At.one {V nb k : Nat} {p : Pc} (h : At V nb k [p]) : k + p.2 ≤ nb ∧ V / 2 ^ k % 2 ^ p.2 = p.1 := by
  obtain ⟨h1, h2⟩ := h
  simp only [len, val, Nat.add_zero, Nat.mul_zero] at h1 h2
  exact ⟨h1, h2⟩
/-- Of a number that is these pieces, and others behind them. -/
theorem at_front {l : List Pc} {m n : Nat} (h : Fit l) : At (val l + 2 ^ len l * m) (len l + n) 0 l := by
  refine ⟨by omega, ?_⟩
  rw [Nat.pow_zero, Nat.div_one, Nat.add_mul_mod_self_left, Nat.mod_eq_of_lt (val_lt h)]
/-! ### Words -/
end Go.Proofs.YtfeljhikeddodadGreatDoor.Ps
namespace Go.Proofs.YtfeljhikeddodadGreatDoor
open Go.RowKit

theorem hide {p : Prop} (h : p) : Hid p := h
theorem unhide {p : Prop} (h : Hid p) : p := h
theorem ret_int {k : IntKind} {a b : Int} (h : a = b) : Ending.returned (.int k a) = .returned (.int k b) := by rw [h]
end Go.Proofs.YtfeljhikeddodadGreatDoor
namespace Go.Proofs.YtfeljhikeddodadGreatDoor
open Go.ChangeShapes Go.WideShapes Go.RowKit Go.Deep

/-- It is empty; or it leads to a row of numbers. -/
def IsInts (w : World) (a : Option Addr) (len : Nat) (z : Nat → Int) : Prop :=
  len = 0 ∨ ∃ b off, a = some ⟨b, off, none⟩ ∧ len ≤ maxLen ∧ ∀ i, i < len →
    w.cell? ⟨b, off + i, none⟩ = some (.int .i64 (z i)) ∧ -9223372036854775808 ≤ z i ∧ z i ≤ 9223372036854775807
theorem IsInts.below {w w' : World} {a : Option Addr} {len : Nat} {z : Nat → Int} (h : IsInts w a len z) (hb : Below w.heap.size w w') : IsInts w' a len z := by
  rcases h with h | ⟨b, off, ha, hl, h⟩
  · exact .inl h
  · refine .inr ⟨b, off, ha, hl, fun i hi => ⟨?_, (h i hi).2⟩⟩
    have h1 := (h i hi).1
    rw [hb.cell (World.block_lt_of_cell? _ _ h1)]; exact h1
theorem ints_cells : Tryz.prog.cellsOf 3 = 1 := by kernel_rfl
end Go.Proofs.YtfeljhikeddodadGreatDoor
namespace Go.Proofs.YtfeljhikeddodadGreatDoor.Pm

/-- The first k together. -/
def pre (l : List Nat) (k : Nat) : Nat := (l.take k).sum
/-- In order. -/
def Ord (l : List Nat) : Prop := l.Pairwise (· ≤ ·)
/-- Neighbours by twos; an odd last one is left out. -/
def pairs : List Nat → List Nat
  | a :: b :: r => (a + b) :: pairs r
  | _ => []
theorem pre_zero (l : List Nat) : pre l 0 = 0 := by simp [pre]
theorem pre_cons (a : Nat) (l : List Nat) (k : Nat) : pre (a :: l) (k + 1) = a + pre l k := by simp [pre]
theorem pre_succ (l : List Nat) (k : Nat) (h : k < l.length) : pre l (k + 1) = pre l k + l[k] := by
  unfold pre
  rw [List.take_succ_eq_append_getElem h, List.sum_append]
  simp
theorem pre_mono (l : List Nat) {k m : Nat} (h : k ≤ m) : pre l k ≤ pre l m := by
  induction l generalizing k m with
  | nil => simp [pre]
  | cons a l ih =>
    cases k with
    | zero => simp [pre]
    | succ k =>
      cases m with
      | zero => omega
      | succ m =>
        rw [pre_cons, pre_cons]
        have := ih (k := k) (m := m) (by omega)
        omega
theorem pairs_pre (p : Nat) (l : List Nat) : pre (pairs l) p ≤ pre l (2 * p) := by
  induction p generalizing l with
  | zero => simp [pre]
  | succ p ih =>
    match l with
    | [] => simp [pairs, pre]
    | [a] => simp [pairs, pre]
    | a :: b :: r =>
      rw [pairs, pre_cons, show 2 * (p + 1) = 2 * p + 1 + 1 from by omega, pre_cons, pre_cons]
      have := ih r
      omega
theorem pairs_length (l : List Nat) : (pairs l).length = l.length / 2 := by
  match l with
  | [] => rfl
  | [a] => simp [pairs]
  | a :: b :: r =>
    simp only [pairs, List.length_cons]
    rw [pairs_length r]
    omega
theorem ord_tail {a : Nat} {l : List Nat} (h : Ord (a :: l)) : Ord l := (List.pairwise_cons.1 h).2
theorem ord_head {a : Nat} {l : List Nat} (h : Ord (a :: l)) : ∀ b ∈ l, a ≤ b := (List.pairwise_cons.1 h).1
/-- Whatever is taken out of a list in order, its first ones weigh no more. -/
theorem pre_least (M S R : List Nat) (h : Ord M) (hp : M.Perm (S ++ R)) : pre M S.length ≤ S.sum := by
  induction M generalizing S R with
  | nil =>
    have := hp.length_eq
    simp at this
    rw [show S.length = 0 from by omega, pre_zero]
    exact Nat.zero_le _
  | cons m M ih =>
    have hm : m ∈ S ++ R := hp.subset (by simp)
    rcases List.mem_append.1 hm with hS | hR
    · have hs := List.perm_cons_erase hS
      have h1 : (m :: M).Perm (m :: (S.erase m ++ R)) := hp.trans ((hs.append_right R).trans (by simp))
      have h2 := ih (S.erase m) R (ord_tail h) ((List.perm_cons m).1 h1)
      have hl := hs.length_eq
      have hsum := hs.sum_nat
      rw [hl, hsum]
      simp only [List.length_cons, List.sum_cons]
      rw [pre_cons]
      omega
    · have hr := List.perm_cons_erase hR
      have h1 : (m :: M).Perm (m :: (S ++ R.erase m)) := hp.trans ((hr.append_left S).trans List.perm_middle)
      have h3 := (List.perm_cons m).1 h1
      have h2 := ih S (R.erase m) (ord_tail h) h3
      have hlen := h3.length_eq
      cases hk : S.length with
      | zero => simp [pre]
      | succ k =>
        rw [hk] at h2
        rw [pre_cons]
        have hkM : k < M.length := by rw [hlen, List.length_append]; omega
        rw [pre_succ M k hkM] at h2
        have := ord_head h M[k] (List.getElem_mem hkM)
        omega
/-- Of two lists, merged. -/
theorem merged (A B M : List Nat) (h : Ord M) (hp : M.Perm (A ++ B)) (s p : Nat) (hs : s ≤ A.length) (hq : p ≤ B.length) : pre M (s + p) ≤ pre A s + pre B p := by
  have h1 : (A ++ B).Perm ((A.take s ++ B.take p) ++ (A.drop s ++ B.drop p)) := by
    conv => lhs; rw [← List.take_append_drop s A, ← List.take_append_drop p B]
    rw [List.append_assoc, List.append_assoc]
    refine List.Perm.append_left _ ?_
    rw [← List.append_assoc, ← List.append_assoc]
    exact List.Perm.append_right _ List.perm_append_comm
  have h2 := pre_least M (A.take s ++ B.take p) _ h (hp.trans h1)
  rw [List.length_append, List.length_take, List.length_take, Nat.min_eq_left hs, Nat.min_eq_left hq, List.sum_append] at h2
  exact h2
/-- How wide a choice of s j out of each list is, in units of the last one. -/
def tot (s : Nat → Nat) : Nat → Nat
  | 0 => s 0
  | D + 1 => s (D + 1) + tot s D / 2
def wide (s : Nat → Nat) : Nat → Nat
  | 0 => s 0
  | D + 1 => s (D + 1) * 2 ^ (D + 1) + wide s D
theorem tot_wide (s : Nat → Nat) (D : Nat) : tot s D = wide s D / 2 ^ D := by
  induction D with
  | zero => simp [tot, wide]
  | succ D ih =>
    rw [tot, wide, ih, Nat.mul_comm, Nat.mul_add_div (Nat.two_pow_pos _), Nat.div_div_eq_div_mul, Nat.pow_succ]
def weigh (A : List Nat) (s : Nat → Nat) : Nat → Nat
  | 0 => pre A (s 0)
  | D + 1 => pre A (s (D + 1)) + weigh A s D
/-- THE BOUND: no choice that is as wide weighs less. -/
theorem bound (A : List Nat) (P : Nat → List Nat) (h0 : P 0 = A) (hP : ∀ j, Ord (P (j + 1)) ∧ (P (j + 1)).Perm (A ++ pairs (P j))) (s : Nat → Nat) (hs : ∀ j, s j ≤ A.length) :
    ∀ D x, x ≤ tot s D → pre (P D) x ≤ weigh A s D ∧ tot s D ≤ (P D).length := by
  intro D
  induction D with
  | zero =>
    intro x hx
    rw [h0]
    exact ⟨pre_mono A hx, hs 0⟩
  | succ D ih =>
    intro x hx
    obtain ⟨h1, h2⟩ := ih (2 * (tot s D / 2)) (by omega)
    obtain ⟨ho, hp⟩ := hP D
    have hl : tot s D / 2 ≤ (pairs (P D)).length := by rw [pairs_length]; omega
    have h3 := merged A (pairs (P D)) (P (D + 1)) ho hp (s (D + 1)) (tot s D / 2) (hs _) hl
    have h4 := pairs_pre (tot s D / 2) (P D)
    have h5 := pre_mono (P (D + 1)) hx
    refine ⟨?_, ?_⟩
    · show _ ≤ pre A (s (D + 1)) + weigh A s D
      simp only [tot] at h5
      omega
    · have := hp.length_eq
      rw [this, List.length_append]
      have := hs (D + 1)
      simp only [tot]
      omega
/-! ### Lengths: how many are at least so long, and what they cost. -/

/-- Up to a level. -/
def upto (f : Nat → Nat) : Nat → Nat
  | 0 => 0
  | r + 1 => f r + upto f r
theorem upto_add (f g : Nat → Nat) (r : Nat) : upto (fun j => f j + g j) r = upto f r + upto g r := by
  induction r with
  | zero => rfl
  | succ r ih => simp only [upto]; rw [ih]; omega
theorem upto_le {f g : Nat → Nat} (h : ∀ j, f j ≤ g j) (r : Nat) : upto f r ≤ upto g r := by
  induction r with
  | zero => exact Nat.le_refl _
  | succ r ih => simp only [upto]; have := h r; omega
theorem upto_congr {f g : Nat → Nat} (r : Nat) (h : ∀ j, j < r → f j = g j) : upto f r = upto g r := by
  induction r with
  | zero => rfl
  | succ r ih => simp only [upto]; rw [h r (by omega), ih (fun j hj => h j (by omega))]
theorem upto_zero (r : Nat) : upto (fun _ => 0) r = 0 := by
  induction r with
  | zero => rfl
  | succ r ih => simp only [upto]; omega
theorem wide_upto (s : Nat → Nat) (D : Nat) : wide s D = upto (fun j => s j * 2 ^ j) (D + 1) := by
  induction D with
  | zero => simp [wide, upto]
  | succ D ih => rw [wide, ih]; rfl
theorem weigh_upto (A : List Nat) (s : Nat → Nat) (D : Nat) : weigh A s D = upto (fun j => pre A (s j)) (D + 1) := by
  induction D with
  | zero => simp [weigh, upto]
  | succ D ih => rw [weigh, ih]; rfl
/-- One from level t on. -/
theorem one_upto (t c r : Nat) (h : t ≤ r) : upto (fun j => if t ≤ j then c else 0) r = c * (r - t) := by
  induction r with
  | zero => simp [upto, show t = 0 from by omega]
  | succ r ih =>
    simp only [upto]
    by_cases e : t ≤ r
    · rw [if_pos e, ih e, show r + 1 - t = (r - t) + 1 from by omega, Nat.mul_add]; omega
    · rw [if_neg e, show r + 1 - t = 0 from by omega]
      have : upto (fun j => if t ≤ j then c else 0) r = upto (fun _ => 0) r := upto_congr r (fun j hj => by rw [if_neg (by omega)])
      rw [this, upto_zero]; simp
theorem one_wide (t r : Nat) (h : t ≤ r) : upto (fun j => (if t ≤ j then 1 else 0) * 2 ^ j) r + 2 ^ t = 2 ^ r := by
  induction r with
  | zero => simp [upto, show t = 0 from by omega]
  | succ r ih =>
    simp only [upto]
    by_cases e : t ≤ r
    · have := ih e
      rw [if_pos e, Nat.pow_succ]; omega
    · rw [if_neg e, show t = r + 1 from by omega]
      have : upto (fun j => (if r + 1 ≤ j then 1 else 0) * 2 ^ j) r = upto (fun _ => 0) r := upto_congr r (fun j hj => by rw [if_neg (by omega)]; simp)
      rw [this, upto_zero]; simp
/-- Symbols: what each counts, and how long its word is. M: the most. -/
def cost (L : List (Nat × Nat)) : Nat := (L.map fun x => x.1 * x.2).sum
def kraft (M : Nat) (L : List (Nat × Nat)) : Nat := (L.map fun x => 2 ^ (M - x.2)).sum
/-- Those that reach level j. -/
def those (M : Nat) (L : List (Nat × Nat)) (j : Nat) : List (Nat × Nat) := L.filter fun x => decide (M - x.2 ≤ j)
def many (M : Nat) (L : List (Nat × Nat)) (j : Nat) : Nat := (those M L j).length
theorem many_cons (M : Nat) (x : Nat × Nat) (L : List (Nat × Nat)) (j : Nat) : many M (x :: L) j = (if M - x.2 ≤ j then 1 else 0) + many M L j := by
  unfold many those
  rw [List.filter_cons]
  by_cases h : M - x.2 ≤ j
  · simp [h]; omega
  · simp [h]
theorem many_le (M : Nat) (L : List (Nat × Nat)) (j : Nat) : many M L j ≤ L.length := List.length_filter_le _ _
theorem cost_upto (M : Nat) (L : List (Nat × Nat)) (h : ∀ x ∈ L, x.2 ≤ M) : cost L = upto (fun j => ((those M L j).map (·.1)).sum) M := by
  induction L with
  | nil => simp [cost, those, upto_zero]
  | cons x L ih =>
    have h1 := ih (fun y hy => h y (by simp [hy]))
    have hx := h x (by simp)
    have e : (fun j => ((those M (x :: L) j).map (·.1)).sum) = fun j => (if M - x.2 ≤ j then x.1 else 0) + ((those M L j).map (·.1)).sum := by
      funext j
      unfold those
      rw [List.filter_cons]
      by_cases h : M - x.2 ≤ j <;> simp [h]
    rw [e, upto_add, ← h1, one_upto _ _ _ (by omega)]
    rw [show M - (M - x.2) = x.2 from by omega]
    rfl
theorem wide_kraft (M : Nat) (L : List (Nat × Nat)) : upto (fun j => many M L j * 2 ^ j) M + kraft M L = L.length * 2 ^ M := by
  induction L with
  | nil => simp [kraft, many, those, upto_zero]
  | cons x L ih =>
    have e : (fun j => many M (x :: L) j * 2 ^ j) = fun j => (if M - x.2 ≤ j then 1 else 0) * 2 ^ j + many M L j * 2 ^ j := by
      funext j
      rw [many_cons, Nat.add_mul]
    rw [e, upto_add]
    have h1 := one_wide (M - x.2) M (by omega)
    have h2 : kraft M (x :: L) = 2 ^ (M - x.2) + kraft M L := rfl
    rw [h2, List.length_cons, Nat.add_mul]
    omega
/-- What they cost is no less than the least that as many can cost at each level. -/
theorem cost_weigh (A : List Nat) (M : Nat) (L : List (Nat × Nat)) (hA : Ord A) (hp : A.Perm (L.map (·.1))) (h : ∀ x ∈ L, x.2 ≤ M) : upto (fun j => pre A (many M L j)) M ≤ cost L := by
  rw [cost_upto M L h]
  refine upto_le (fun j => ?_) M
  have hq : L.Perm (those M L j ++ L.filter fun x => !decide (M - x.2 ≤ j)) := (List.filter_append_perm _ L).symm
  have h2 := pre_least A ((those M L j).map (·.1)) ((L.filter fun x => !decide (M - x.2 ≤ j)).map (·.1)) hA (hp.trans (by rw [← List.map_append]; exact hq.map _))
  simpa [many] using h2
/-- THE LEAST: lengths of a whole code (or of less than one) cost no less than the first 2 (n - 1) of the last list. -/
theorem least (A : List Nat) (P : Nat → List Nat) (D : Nat) (L : List (Nat × Nat)) (hA : Ord A) (h0 : P 0 = A) (hP : ∀ j, Ord (P (j + 1)) ∧ (P (j + 1)).Perm (A ++ pairs (P j)))
    (hp : A.Perm (L.map (·.1))) (h : ∀ x ∈ L, x.2 ≤ D + 1) (hK : kraft (D + 1) L ≤ 2 ^ (D + 1)) (hn : 0 < L.length) : pre (P D) (2 * (L.length - 1)) ≤ cost L := by
  have hl : A.length = L.length := by simpa using hp.length_eq
  have h1 := wide_kraft (D + 1) L
  have h2 : (2 * (L.length - 1)) * 2 ^ D ≤ wide (many (D + 1) L) D := by
    rw [wide_upto]
    obtain ⟨m, hm⟩ : ∃ m, L.length = m + 1 := ⟨L.length - 1, by omega⟩
    rw [hm] at h1 ⊢
    rw [Nat.add_mul] at h1
    have e : 2 * (m + 1 - 1) * 2 ^ D = m * 2 ^ (D + 1) := by rw [Nat.pow_succ, Nat.add_sub_cancel, Nat.mul_comm 2 m, Nat.mul_assoc, Nat.mul_comm 2]
    omega
  have h3 : 2 * (L.length - 1) ≤ tot (many (D + 1) L) D := by
    rw [tot_wide]
    exact (Nat.le_div_iff_mul_le (Nat.two_pow_pos D)).2 h2
  have h4 := (bound A P h0 hP (many (D + 1) L) (fun j => by rw [hl]; exact many_le _ _ _) D _ h3).1
  have h5 := cost_weigh A (D + 1) L hA hp h
  rw [weigh_upto] at h4
  omega
end Go.Proofs.YtfeljhikeddodadGreatDoor.Pm
