/- What packed texts mean, as plain functions: words of a code, symbols, lengths in a row, blocks. Plain facts on words as texts of bits, on the fixed code, on stored lengths. Pieces of bits, one behind the other, and what is read of them. -/
import Derived.Test.YtfeljhikeddodadGreatDoorMh2
import Derived.Test.YtfeljhikeddodadGreatDoorMh1
namespace Go.Proofs.YtfeljhikeddodadGreatDoor.Nf
open Pm Cn

/-! ### A loop that ends, as a function -/
inductive Step (σ ρ : Type) where
  | more (s : σ)
  | done (r : ρ)
inductive Run {σ ρ : Type} (f : σ → Step σ ρ) : σ → ρ → Prop where
  | done {s : σ} {r : ρ} (h : f s = .done r) : Run f s r
  | more {s s' : σ} {r : ρ} (h : f s = .more s') (t : Run f s' r) : Run f s r
theorem Run.det {σ ρ : Type} {f : σ → Step σ ρ} {s : σ} {r r' : ρ} (h : Run f s r) (h' : Run f s r') : r = r' := by
  induction h with
  | done e =>
    cases h' with
    | done e' => rw [e] at e'; injection e'
    | more e' _ => rw [e] at e'; cases e'
  | more e _ ih =>
    cases h' with
    | done e' => rw [e] at e'; cases e'
    | more e' t' => rw [e] at e'; injection e' with e'; subst e'; exact ih t'
noncomputable def run {σ ρ : Type} (f : σ → Step σ ρ) (s : σ) : Option ρ := open Classical in if h : ∃ r, Run f s r then some h.choose else none
theorem run_of {σ ρ : Type} {f : σ → Step σ ρ} {s : σ} {r : ρ} (h : Run f s r) : run f s = some r := by
  unfold run
  have hx : ∃ r, Run f s r := ⟨r, h⟩
  rw [dif_pos hx]
  exact congrArg some (Run.det hx.choose_spec h)
/-! ### Bits and words -/
def get (V nb k d : Nat) : Option Nat := if k + d ≤ nb then some (V / 2 ^ k % 2 ^ d) else none
theorem get_some {V nb k d : Nat} (h : k + d ≤ nb) : get V nb k d = some (V / 2 ^ k % 2 ^ d) := by unfold get; rw [if_pos h]
theorem get_none {V nb k d : Nat} (h : ¬ k + d ≤ nb) : get V nb k d = none := by unfold get; rw [if_neg h]
/-- n bits from the k-th on, the highest first. -/
def hv (V k : Nat) : Nat → Nat
  | 0 => 0
  | n + 1 => 2 * hv V k n + V / 2 ^ (k + n) % 2
theorem hv_lt (V k n : Nat) : hv V k n < 2 ^ n := by
  induction n with
  | zero => simp [hv]
  | succ n ih => unfold hv; rw [Nat.pow_succ]; omega
theorem hv_div (V k n m : Nat) : hv V k (n + m) / 2 ^ m = hv V k n := by
  induction m with
  | zero => simp
  | succ m ih =>
    show (2 * hv V k (n + m) + V / 2 ^ (k + (n + m)) % 2) / 2 ^ (m + 1) = _
    rw [Nat.pow_succ', ← Nat.div_div_eq_div_mul, show (2 * hv V k (n + m) + V / 2 ^ (k + (n + m)) % 2) / 2 = hv V k (n + m) by omega]
    exact ih
/-- The word of symbol i stands from the k-th bit on. -/
def Wd (V nb : Nat) (l : Nat → Nat) (N k i : Nat) : Prop := i < N ∧ 0 < l i ∧ k + l i ≤ nb ∧ hv V k (l i) = code l N i
theorem wd_unique {V nb : Nat} {l : Nat → Nat} {N k i j : Nat} (hl : ∀ x, x < N → l x ≤ 15) (h : Wd V nb l N k i) (h' : Wd V nb l N k j) : i = j := by
  have key : ∀ i j, Wd V nb l N k i → Wd V nb l N k j → l i ≤ l j → i = j := fun i j h h' hle => by
    rcases Nat.decEq i j with hne | e
    · exfalso
      refine apart l N i j h.1 h'.1 hne h.2.1 hle (hl j h'.1) ?_
      rw [← h'.2.2.2, ← h.2.2.2]
      obtain ⟨m, hm⟩ : ∃ m, l j = l i + m := ⟨l j - l i, by omega⟩
      rw [hm, Nat.add_sub_cancel_left, hv_div]
    · exact e
  rcases Nat.le_total (l i) (l j) with c | c
  · exact key i j h h' c
  · exact (key j i h' h c).symm
noncomputable def wd (V nb : Nat) (l : Nat → Nat) (N k : Nat) : Option Nat := open Classical in if h : ∃ i, Wd V nb l N k i then some h.choose else none
theorem wd_some {V nb : Nat} {l : Nat → Nat} {N k i : Nat} (hl : ∀ x, x < N → l x ≤ 15) (h : Wd V nb l N k i) : wd V nb l N k = some i := by
  unfold wd
  have hx : ∃ i, Wd V nb l N k i := ⟨i, h⟩
  rw [dif_pos hx]
  exact congrArg some (wd_unique hl hx.choose_spec h)
theorem wd_none {V nb : Nat} {l : Nat → Nat} {N k : Nat} (h : ¬ ∃ i, Wd V nb l N k i) : wd V nb l N k = none := by
  unfold wd; rw [dif_neg h]
theorem of_wd {V nb : Nat} {l : Nat → Nat} {N k i : Nat} (h : wd V nb l N k = some i) : Wd V nb l N k i := by
  unfold wd at h
  split at h
  · next hx => injection h with h; rw [← h]; exact hx.choose_spec
  · cases h
theorem wd_congr {V nb : Nat} {l l' : Nat → Nat} {N : Nat} (h : ∀ i, i < N → l i = l' i) (k : Nat) : wd V nb l N k = wd V nb l' N k := by
  have ha : ∀ n i, acc l N n i = acc l' N n i := fun n i => by
    unfold acc
    exact upto_congr N (fun j hj => by rw [h j hj])
  have hw : ∀ i, Wd V nb l N k i ↔ Wd V nb l' N k i := fun i => by
    unfold Wd
    refine and_congr_right (fun hi => ?_)
    rw [h i hi]
    have : code l N i = code l' N i := by unfold code; rw [h i hi, ha]
    rw [this]
  have e : Wd V nb l N k = Wd V nb l' N k := funext fun i => propext (hw i)
  unfold wd
  rw [e]
/-! ### Symbols -/
inductive Er where
  | text
  | bound
/-- So many bits read, and this is written; or an error. -/
inductive Res where
  | ok (k : Nat) (out : List UInt8)
  | err (e : Er)
def lens : List Nat := [3, 4, 5, 6, 7, 8, 9, 10, 11, 13, 15, 17, 19, 23, 27, 31, 35, 43, 51, 59, 67, 83, 99, 115, 131, 163, 195, 227, 258]
def dists : List Nat := [1, 2, 3, 4, 5, 7, 9, 13, 17, 25, 33, 49, 65, 97, 129, 193, 257, 385, 513, 769, 1025, 1537, 2049, 3073, 4097, 6145, 8193, 12289, 16385, 24577]
def lenBits (k : Nat) : Nat := if k < 8 ∨ k = 28 then 0 else k / 4 - 1
def distBits (k : Nat) : Nat := if k < 4 then 0 else k / 2 - 1
/-- So many bytes more, each as one that stands so far back. -/
def copied (out : List UInt8) (back : Nat) : Nat → List UInt8
  | 0 => out
  | n + 1 => copied out back n ++ [(copied out back n).getD ((copied out back n).length - back) 0]
theorem copied_length (out : List UInt8) (back n : Nat) : (copied out back n).length = out.length + n := by
  induction n with
  | zero => rfl
  | succ n ih => unfold copied; rw [List.length_append, ih]; simp; omega
abbrev St := Nat × List UInt8
noncomputable def tokStep (V nb most : Nat) (l1 : Nat → Nat) (N1 : Nat) (l2 : Nat → Nat) (N2 : Nat) (s : St) : Step St Res :=
  match wd V nb l1 N1 s.1 with
  | none => .done (.err .text)
  | some i =>
    if i < 256 then
      if s.2.length < most then .more (s.1 + l1 i, s.2 ++ [UInt8.ofNat i]) else .done (.err .bound)
    else if i = 256 then .done (.ok (s.1 + l1 i) s.2)
    else if 286 ≤ i then .done (.err .text)
    else
      match get V nb (s.1 + l1 i) (lenBits (i - 257)) with
      | none => .done (.err .text)
      | some x =>
        match wd V nb l2 N2 (s.1 + l1 i + lenBits (i - 257)) with
        | none => .done (.err .text)
        | some d =>
          if 30 ≤ d then .done (.err .text)
          else
            match get V nb (s.1 + l1 i + lenBits (i - 257) + l2 d) (distBits d) with
            | none => .done (.err .text)
            | some y =>
              if s.2.length < dists.getD d 0 + y then .done (.err .text)
              else if most < s.2.length + (lens.getD (i - 257) 0 + x) then .done (.err .bound)
              else .more (s.1 + l1 i + lenBits (i - 257) + l2 d + distBits d, copied s.2 (dists.getD d 0 + y) (lens.getD (i - 257) 0 + x))
theorem tokStep_congr {V nb most : Nat} {l1 l1' : Nat → Nat} {N1 : Nat} {l2 l2' : Nat → Nat} {N2 : Nat} (h1 : ∀ i, i < N1 → l1 i = l1' i) (h2 : ∀ i, i < N2 → l2 i = l2' i) : tokStep V nb most l1 N1 l2 N2 = tokStep V nb most l1' N1 l2' N2 := by
  funext s
  unfold tokStep
  rw [wd_congr h1]
  split
  · rfl
  · next i hi =>
    have hiN : i < N1 := (of_wd hi).1
    rw [h1 i hiN]
    split
    · rfl
    · split
      · rfl
      · split
        · rfl
        · split
          · rfl
          · rw [wd_congr h2]
            split
            · rfl
            · next d hd =>
              rw [h2 d (of_wd hd).1]
/-! ### The fixed code -/
def fixL (i : Nat) : Nat := if i < 144 then 8 else if i < 256 then 9 else if i < 280 then 7 else 8
def fixD (_ : Nat) : Nat := 5
/-! ### Lengths of a dynamic block -/
def order : List Nat := [16, 17, 18, 0, 8, 7, 9, 6, 10, 5, 11, 4, 12, 3, 13, 2, 14, 1, 15]
/-- The lengths of lengths, behind c of them. -/
def small (V k : Nat) : Nat → Nat → Nat
  | 0, _ => 0
  | c + 1, x => if x = order.getD c 0 then V / 2 ^ (k + 3 * c) % 2 ^ 3 else small V k c x
abbrev Row := Nat × List Nat
def againBits (i : Nat) : Nat := if i = 16 then 2 else if i = 17 then 3 else 7
def againFrom (i : Nat) : Nat := if i = 18 then 11 else 3
def againOf (i : Nat) (row : List Nat) : Nat := if i = 16 then row.getD (row.length - 1) 0 else 0
noncomputable def rowStep (V nb tot : Nat) (l : Nat → Nat) (s : Row) : Step Row (Option Row) :=
  if tot ≤ s.2.length then .done (some s)
  else
    match wd V nb l 19 s.1 with
    | none => .done none
    | some i =>
      if i < 16 then .more (s.1 + l i, s.2 ++ [i])
      else if i = 16 ∧ s.2.length = 0 then .done none
      else
        match get V nb (s.1 + l i) (againBits i) with
        | none => .done none
        | some x =>
          if tot < s.2.length + (againFrom i + x) then .done none
          else .more (s.1 + l i + againBits i, s.2 ++ List.replicate (againFrom i + x) (againOf i s.2))
/-- The lengths of a dynamic block: bits read, all lengths in a row, how many symbols. -/
noncomputable def dyn (V nb k : Nat) : Option (Nat × List Nat × Nat) := open Classical in
  if ¬ k + 14 ≤ nb then none
  else if 286 < V / 2 ^ k % 2 ^ 5 + 257 ∨ 30 < V / 2 ^ (k + 5) % 2 ^ 5 + 1 then none
  else if ¬ k + 14 + 3 * (V / 2 ^ (k + 10) % 2 ^ 4 + 4) ≤ nb then none
  else if ¬ Right (small V (k + 14) (V / 2 ^ (k + 10) % 2 ^ 4 + 4)) 19 then none
  else
    match run (rowStep V nb ((V / 2 ^ k % 2 ^ 5 + 257) + (V / 2 ^ (k + 5) % 2 ^ 5 + 1)) (small V (k + 14) (V / 2 ^ (k + 10) % 2 ^ 4 + 4))) (k + 14 + 3 * (V / 2 ^ (k + 10) % 2 ^ 4 + 4), []) with
    | none => none
    | some none => none
    | some (some (k', row)) =>
      if ¬ Right (fun i => row.getD i 0) (V / 2 ^ k % 2 ^ 5 + 257) ∨ ¬ Right (fun i => row.getD (V / 2 ^ k % 2 ^ 5 + 257 + i) 0) (V / 2 ^ (k + 5) % 2 ^ 5 + 1) ∨ row.getD 256 0 = 0 then none
      else some (k', row, V / 2 ^ k % 2 ^ 5 + 257)
/-! ### Blocks -/
end Go.Proofs.YtfeljhikeddodadGreatDoor.Nf
namespace Go.Proofs.YtfeljhikeddodadGreatDoor.Nf
open Pm Cn

theorem hv_front (V k n : Nat) : hv V k (n + 1) = 2 ^ n * (V / 2 ^ k % 2) + hv V (k + 1) n := by
  induction n with
  | zero => simp [hv]
  | succ n ih =>
    show 2 * hv V k (n + 1) + V / 2 ^ (k + (n + 1)) % 2 = _
    rw [ih, Nat.pow_succ]
    show _ = _ + (2 * hv V (k + 1) n + V / 2 ^ (k + 1 + n) % 2)
    rw [show k + 1 + n = k + (n + 1) by omega, Nat.mul_add, ← Nat.mul_assoc, Nat.mul_comm 2 (2 ^ n)]
    omega
theorem rev_mod (c n : Nat) : Bt.rev c n = Bt.rev (c % 2 ^ n) n := by
  have key : ∀ m, m ≤ n → Bt.rev c m = Bt.rev (c % 2 ^ n) m := by
    intro m
    induction m with
    | zero => intro _; rfl
    | succ m ih =>
      intro h
      show Bt.bit c m + 2 * Bt.rev c m = Bt.bit (c % 2 ^ n) m + 2 * Bt.rev (c % 2 ^ n) m
      rw [ih (by omega), Bt.bit_mod c n m (by omega)]
  exact key n (Nat.le_refl _)
theorem front_mod (V k n : Nat) : V / 2 ^ k % 2 ^ (n + 1) = V / 2 ^ k % 2 + 2 * (V / 2 ^ (k + 1) % 2 ^ n) := by
  rw [Nat.pow_succ', Nat.mod_mul, Nat.pow_succ, Nat.div_div_eq_div_mul]
theorem rev_hv (V : Nat) : ∀ (n k c : Nat), c < 2 ^ n → (Bt.rev c n = V / 2 ^ k % 2 ^ n ↔ c = hv V k n) := by
  intro n
  induction n with
  | zero => intro k c h; simp at h; subst h; simp [Bt.rev, hv, Nat.mod_one]
  | succ n ih =>
    intro k c h
    have ih' := ih (k + 1) (c % 2 ^ n) (Nat.mod_lt _ (Nat.two_pow_pos n))
    rw [front_mod, hv_front]
    show Bt.bit c n + 2 * Bt.rev c n = _ ↔ _
    rw [rev_mod]
    have hb : Bt.bit c n = c / 2 ^ n := by
      unfold Bt.bit
      refine Nat.mod_eq_of_lt ?_
      rw [Nat.div_lt_iff_lt_mul (Nat.two_pow_pos n)]
      rw [Nat.pow_succ] at h; omega
    have hc := Nat.div_add_mod c (2 ^ n)
    have h2 : c / 2 ^ n < 2 := by
      rw [Nat.div_lt_iff_lt_mul (Nat.two_pow_pos n)]
      rw [Nat.pow_succ] at h; omega
    have h3 : V / 2 ^ k % 2 < 2 := Nat.mod_lt _ (by omega)
    have h4 := hv_lt V (k + 1) n
    have h5 : c % 2 ^ n < 2 ^ n := Nat.mod_lt _ (Nat.two_pow_pos n)
    rw [hb]
    generalize c / 2 ^ n = b at *
    generalize V / 2 ^ k % 2 = b' at *
    constructor
    · intro e
      have e1 : b = b' := by omega
      have e2 : Bt.rev (c % 2 ^ n) n = V / 2 ^ (k + 1) % 2 ^ n := by omega
      rw [← ih'.1 e2, ← e1]
      exact hc.symm
    · intro e
      have key : b = b' ∧ c % 2 ^ n = hv V (k + 1) n := by
        rw [← hc] at e
        have hp := Nat.two_pow_pos n
        generalize 2 ^ n = p at *
        generalize c % p = r at *
        generalize hv V (k + 1) n = r' at *
        match b, b', h2, h3 with
        | 0, 0, _, _ => omega
        | 1, 1, _, _ => omega
        | 0, 1, _, _ => omega
        | 1, 0, _, _ => omega
      rw [ih'.2 key.2, key.1]
theorem bl_ext (n X Y : Nat) : Bt.bl n X = Bt.bl n Y ↔ X % 2 ^ n = Y % 2 ^ n := by
  constructor
  · intro h
    have hb : ∀ i, i < n → Bt.bit X i = Bt.bit Y i := fun i hi => by
      have h1 := Bt.bl_at n X i hi
      have h2 := Bt.bl_at n Y i hi
      rw [h, h2] at h1
      injection h1 with h1
      have := congrArg UInt8.toNat h1
      have a := Bt.bit_lt X i
      have b := Bt.bit_lt Y i
      simp only [UInt8.toNat_ofNat'] at this
      omega
    have key : ∀ m, m ≤ n → X % 2 ^ m = Y % 2 ^ m := by
      intro m
      induction m with
      | zero => intro _; simp [Nat.mod_one]
      | succ m ih => intro hm; rw [Bt.mod_succ, Bt.mod_succ, ih (by omega), hb m (by omega)]
    exact key n (Nat.le_refl _)
  · intro h
    unfold Bt.bl
    refine List.map_congr_left (fun i hi => ?_)
    have hi := List.mem_range.1 hi
    rw [← Bt.bit_mod X n i hi, ← Bt.bit_mod Y n i hi, h]
/-- The word as a text stands there. -/
theorem word_iff (V k n c : Nat) (h : c < 2 ^ n) : Bt.bl n (Bt.rev c n) = Bt.bl n (V / 2 ^ k) ↔ hv V k n = c := by
  rw [bl_ext, Nat.mod_eq_of_lt (Bt.rev_lt c n), rev_hv V n k c h]
  exact eq_comm
theorem xor16 (n m : Nat) (hn : n < 65536) : n ^^^ m = 65535 ↔ n + m = 65535 := by
  have key : n ^^^ 65535 = 65535 - n := by
    have h := BitVec.toNat_not (x := BitVec.ofNat 16 n)
    have h2 : (~~~ BitVec.ofNat 16 n) = BitVec.ofNat 16 n ^^^ BitVec.allOnes 16 := (BitVec.xor_allOnes).symm
    rw [h2] at h
    simp only [BitVec.toNat_xor, BitVec.toNat_ofNat, BitVec.toNat_allOnes] at h
    rw [Nat.mod_eq_of_lt (by omega)] at h
    exact h
  constructor
  · intro h
    have : m = n ^^^ 65535 := by rw [← h, ← Nat.xor_assoc, Nat.xor_self, Nat.zero_xor]
    omega
  · intro h
    have : m = 65535 - n := by omega
    rw [this, ← key, ← Nat.xor_assoc, Nat.xor_self, Nat.zero_xor]
set_option maxRecDepth 100000 in
theorem all_fixD : all fixD 32 = 32768 := by decide +kernel
set_option maxRecDepth 100000 in
theorem code_fixD : ∀ i, i < 32 → code fixD 32 i = i := by decide +kernel
theorem small_lt (V k c x : Nat) : small V k c x < 8 := by
  induction c with
  | zero => unfold small; omega
  | succ c ih =>
    unfold small
    split
    · exact Nat.mod_lt _ (by omega)
    · exact ih
end Go.Proofs.YtfeljhikeddodadGreatDoor.Nf
namespace Go.Proofs.YtfeljhikeddodadGreatDoor.Ps
open Pm Cn Nf

theorem At.got {V nb k : Nat} {p : Pc} (h : At V nb k [p]) : get V nb k p.2 = some p.1 := by rw [get_some h.one.1, h.one.2]
theorem bit_rev (n w i : Nat) (h : i < w) : Bt.bit (Bt.rev n w) i = Bt.bit n (w - 1 - i) := by
  rw [← Bt.top_all]
  have key : ∀ k, k ≤ w → ∀ i, i < k → Bt.bit (Bt.top n w k) i = Bt.bit n (w - 1 - i) := by
    intro k
    induction k with
    | zero => intro _ i hi; omega
    | succ k ih =>
      intro hk i hi
      have e := Bt.top_succ 0 0 n w k
      simp only [Nat.pow_zero, Nat.one_mul, Nat.zero_add] at e
      rw [e]
      by_cases c : i < k
      · rw [Bt.bit_low k _ _ i c]; exact ih (by omega) i c
      · have : i = k := by omega
        subst this
        have := Bt.bit_high i (Bt.top n w i) (Bt.bit n (w - 1 - i)) 0 (Bt.top_lt n w i)
        rw [Nat.add_zero] at this
        rw [this]
        unfold Bt.bit
        simp
  exact key w (Nat.le_refl _) i h
theorem hv_of_bits (V k n : Nat) : ∀ w, (∀ i, i < w → V / 2 ^ (k + i) % 2 = n / 2 ^ (w - 1 - i) % 2) → hv V k w = n % 2 ^ w := by
  intro w
  induction w generalizing n with
  | zero => intro _; simp [hv, Nat.mod_one]
  | succ w ih =>
    intro h
    show 2 * hv V k w + V / 2 ^ (k + w) % 2 = _
    rw [h w (by omega), ih (n / 2) (fun i hi => by
      rw [h i (by omega), Nat.div_div_eq_div_mul, ← Nat.pow_succ', show w + 1 - 1 - i = w - 1 - i + 1 by omega])]
    rw [show w + 1 - 1 - w = 0 by omega, Nat.pow_zero, Nat.div_one, Nat.pow_succ', Nat.mod_mul]
    omega
theorem hv_rev {V k n w : Nat} (hn : n < 2 ^ w) (h : V / 2 ^ k % 2 ^ w = Bt.rev n w) : hv V k w = n := by
  rw [hv_of_bits V k n w (fun i hi => ?_), Nat.mod_eq_of_lt hn]
  have h1 := bit_rev n w i hi
  rw [← h] at h1
  have h2 := Bt.bit_mod (V / 2 ^ k) w i hi
  rw [h2] at h1
  unfold Bt.bit at h1
  rw [Nat.div_div_eq_div_mul, ← Nat.pow_add] at h1
  exact h1
/-- The word of symbol i. -/
def word (l : Nat → Nat) (N i : Nat) : Pc := (Bt.rev (code l N i) (l i), l i)
theorem word_fit (l : Nat → Nat) (N i : Nat) : (word l N i).1 < 2 ^ (word l N i).2 := Bt.rev_lt _ _
theorem At.word {V nb k N i : Nat} {l : Nat → Nat} (hl : ∀ x, x < N → l x ≤ 15) (hi : i < N) (h0 : 0 < l i) (hc : code l N i < 2 ^ l i) (h : At V nb k [word l N i]) : wd V nb l N k = some i :=
  wd_some hl ⟨hi, h0, h.one.1, hv_rev hc h.one.2⟩
/-! ### Places in a row -/
/-- The last place up to k whose number is not above n. -/
def plU (row : List Nat) (n : Nat) : Nat → Nat
  | 0 => 0
  | k + 1 => if row.getD (k + 1) 0 ≤ n then k + 1 else plU row n k
def pl (row : List Nat) (n : Nat) : Nat := plU row n (row.length - 1)
theorem plU_le (row : List Nat) (n k : Nat) : plU row n k ≤ k := by
  induction k with
  | zero => exact Nat.le_refl _
  | succ k ih => unfold plU; split <;> omega
theorem plU_at (row : List Nat) (n k : Nat) (h : row.getD 0 0 ≤ n) : row.getD (plU row n k) 0 ≤ n := by
  induction k with
  | zero => exact h
  | succ k ih =>
    unfold plU
    split
    · assumption
    · exact ih
theorem plU_above (row : List Nat) (n k j : Nat) (h : plU row n k < j) (hj : j ≤ k) : n < row.getD j 0 := by
  induction k with
  | zero => omega
  | succ k ih =>
    unfold plU at h
    split at h
    · omega
    · next e =>
      by_cases c : j = k + 1
      · subst c; omega
      · exact ih h (by omega)
theorem plU_is {row : List Nat} {n k j : Nat} (h0 : row.getD j 0 ≤ n) (hj : j ≤ k) (h1 : ∀ i, j < i → i ≤ k → n < row.getD i 0) : plU row n k = j := by
  induction k with
  | zero => unfold plU; omega
  | succ k ih =>
    unfold plU
    by_cases c : j = k + 1
    · subst c; rw [if_pos h0]
    · rw [if_neg (by have := h1 (k + 1) (by omega) (Nat.le_refl _); omega)]
      exact ih (by omega) (fun i h2 h3 => h1 i h2 (by omega))
theorem lens_gap : ∀ c, c < 28 → lens.getD (c + 1) 0 ≤ lens.getD c 0 + 2 ^ lenBits c := by decide +kernel
theorem dists_gap : ∀ c, c < 29 → dists.getD (c + 1) 0 ≤ dists.getD c 0 + 2 ^ distBits c := by decide +kernel
theorem pl_lens {n : Nat} (h : 3 ≤ n ∧ n ≤ 258) : pl lens n < 29 ∧ lens.getD (pl lens n) 0 ≤ n ∧ n - lens.getD (pl lens n) 0 < 2 ^ lenBits (pl lens n) := by
  have h1 : pl lens n ≤ 28 := plU_le _ _ _
  have h2 : lens.getD (pl lens n) 0 ≤ n := plU_at _ _ _ h.1
  refine ⟨by omega, h2, ?_⟩
  by_cases c : pl lens n = 28
  · rw [c] at h2 ⊢
    have : lens.getD 28 0 = 258 := rfl
    have e : lenBits 28 = 0 := rfl
    rw [this] at h2 ⊢
    rw [e]; omega
  · have h3 : n < lens.getD (pl lens n + 1) 0 := plU_above _ _ _ _ (Nat.lt_succ_self _) (show pl lens n + 1 ≤ 28 by omega)
    have := lens_gap (pl lens n) (by omega)
    omega
theorem pl_dists {n : Nat} (h : 1 ≤ n ∧ n ≤ 32768) : pl dists n < 30 ∧ dists.getD (pl dists n) 0 ≤ n ∧ n - dists.getD (pl dists n) 0 < 2 ^ distBits (pl dists n) := by
  have h1 : pl dists n ≤ 29 := plU_le _ _ _
  have h2 : dists.getD (pl dists n) 0 ≤ n := plU_at _ _ _ h.1
  refine ⟨by omega, h2, ?_⟩
  by_cases c : pl dists n = 29
  · rw [c] at h2 ⊢
    have : dists.getD 29 0 = 24577 := rfl
    have e : distBits 29 = 13 := rfl
    rw [this] at h2 ⊢
    rw [e]; omega
  · have h3 : n < dists.getD (pl dists n + 1) 0 := plU_above _ _ _ _ (Nat.lt_succ_self _) (show pl dists n + 1 ≤ 29 by omega)
    have := dists_gap (pl dists n) (by omega)
    omega
/-! ### Tokens as pieces -/
def tokP (w1 w2 : Nat → Pc) (b L D : Nat) : List Pc :=
  if L = 0 then [w1 b] else [w1 (257 + pl lens L), (L - lens.getD (pl lens L) 0, lenBits (pl lens L)), w2 (pl dists D), (D - dists.getD (pl dists D) 0, distBits (pl dists D))]
/-- A byte, or a match. -/
def Tok (b L D : Nat) : Prop := if L = 0 then b < 256 else (3 ≤ L ∧ L ≤ 258) ∧ 1 ≤ D ∧ D ≤ 32768
/-- What is used has a word. -/
def Uses (l1 : Nat → Nat) (N1 : Nat) (l2 : Nat → Nat) (N2 b L D : Nat) : Prop :=
  if L = 0 then b < N1 ∧ 0 < l1 b else (257 + pl lens L < N1 ∧ 0 < l1 (257 + pl lens L)) ∧ pl dists D < N2 ∧ 0 < l2 (pl dists D)
/-- What it means. -/
def tokO (out : List UInt8) (b L D : Nat) : List UInt8 := if L = 0 then out ++ [UInt8.ofNat b] else copied out D L
theorem tokP_fit {l1 l2 : Nat → Nat} {N1 N2 b L D : Nat} (h : Tok b L D) : Fit (tokP (word l1 N1) (word l2 N2) b L D) := by
  unfold tokP Tok at *
  split
  · exact Fit.cons (word_fit _ _ _) Fit.nil
  · next e =>
    rw [if_neg e] at h
    exact Fit.cons (word_fit _ _ _) (Fit.cons (pl_lens h.1).2.2 (Fit.cons (word_fit _ _ _) (Fit.cons (pl_dists h.2).2.2 Fit.nil)))
theorem tok_step {V nb most k : Nat} {l1 : Nat → Nat} {N1 : Nat} {l2 : Nat → Nat} {N2 b L D : Nat} {out : List UInt8} (h1 : ∀ x, x < N1 → l1 x ≤ 15) (h2 : ∀ x, x < N2 → l2 x ≤ 15) (k1 : all l1 N1 ≤ 2 ^ 15) (k2 : all l2 N2 ≤ 2 ^ 15)
    (ht : Tok b L D) (hu : Uses l1 N1 l2 N2 b L D) (hd : L ≠ 0 → D ≤ out.length) (hm : (tokO out b L D).length ≤ most) (hat : At V nb k (tokP (word l1 N1) (word l2 N2) b L D)) :
    tokStep V nb most l1 N1 l2 N2 (k, out) = .more (k + len (tokP (word l1 N1) (word l2 N2) b L D), tokO out b L D) := by
  unfold tokP Tok Uses tokO at *
  by_cases e : L = 0
  · rw [if_pos e] at ht hu hm hat ⊢
    have hw := At.word h1 hu.1 hu.2 (code_lt l1 N1 b hu.1 hu.2 (h1 b hu.1) k1) hat
    unfold tokStep
    simp only [hw]
    rw [List.length_append] at hm
    simp only [List.length_singleton] at hm
    rw [if_pos ht, if_pos (by omega)]
    simp [len, word, if_pos e]
  · rw [if_neg e] at ht hu hm hat ⊢
    obtain ⟨p1, p2, p3⟩ := pl_lens ht.1
    obtain ⟨q1, q2, q3⟩ := pl_dists ht.2
    obtain ⟨a1, hat⟩ := At.cons (word_fit _ _ _) hat
    obtain ⟨a2, hat⟩ := At.cons p3 hat
    obtain ⟨a3, a4⟩ := At.cons (word_fit _ _ _) hat
    have hw1 := At.word h1 hu.1.1 hu.1.2 (code_lt l1 N1 _ hu.1.1 hu.1.2 (h1 _ hu.1.1) k1) a1
    have hw2 := At.word h2 hu.2.1 hu.2.2 (code_lt l2 N2 _ hu.2.1 hu.2.2 (h2 _ hu.2.1) k2) a3
    have g1 := a2.got
    have g2 := a4.got
    simp only [word] at g1 g2 hw2
    unfold tokStep
    simp only [hw1]
    rw [copied_length] at hm
    have hd' := hd e
    rw [if_neg (by omega), if_neg (by omega), if_neg (by omega), show 257 + pl lens L - 257 = pl lens L by omega, g1]
    simp only
    rw [hw2]
    simp only
    rw [if_neg (by omega), g2]
    simp only
    rw [if_neg (by omega), if_neg (by omega), show dists.getD (pl dists D) 0 + (D - dists.getD (pl dists D) 0) = D by omega, show lens.getD (pl lens L) 0 + (L - lens.getD (pl lens L) 0) = L by omega]
    simp only [len, word, Step.more.injEq, Prod.mk.injEq, if_neg e, and_true]
    omega
theorem end_step {V nb most k : Nat} {l1 : Nat → Nat} {N1 : Nat} {l2 : Nat → Nat} {N2 : Nat} {out : List UInt8} (h1 : ∀ x, x < N1 → l1 x ≤ 15) (k1 : all l1 N1 ≤ 2 ^ 15) (h : 256 < N1) (h0 : 0 < l1 256) (hat : At V nb k [word l1 N1 256]) :
    tokStep V nb most l1 N1 l2 N2 (k, out) = .done (.ok (k + l1 256) out) := by
  have hw := At.word h1 h h0 (code_lt l1 N1 256 h h0 (h1 256 h) k1) hat
  unfold tokStep
  simp only [hw]
  rfl
/-- The first n tokens of a row, as pieces; and what they mean. -/
def preP (w1 w2 : Nat → Pc) (b L D : Nat → Nat) : Nat → List Pc
  | 0 => []
  | i + 1 => preP w1 w2 b L D i ++ tokP w1 w2 (b i) (L i) (D i)
def preO (b L D : Nat → Nat) : Nat → List UInt8
  | 0 => []
  | i + 1 => tokO (preO b L D i) (b i) (L i) (D i)
theorem preO_mono (b L D : Nat → Nat) {i j : Nat} (h : i ≤ j) : (preO b L D i).length ≤ (preO b L D j).length := by
  induction j with
  | zero => have : i = 0 := by omega
            subst this; exact Nat.le_refl _
  | succ j ih =>
    by_cases c : i = j + 1
    · subst c; exact Nat.le_refl _
    · have := ih (by omega)
      show _ ≤ (tokO (preO b L D j) (b j) (L j) (D j)).length
      unfold tokO
      split
      · rw [List.length_append]; omega
      · rw [copied_length]; omega
theorem preP_front (w1 w2 : Nat → Pc) (b L D : Nat → Nat) {i j : Nat} (h : i ≤ j) : ∃ r, preP w1 w2 b L D j = preP w1 w2 b L D i ++ r := by
  induction j with
  | zero => have : i = 0 := by omega
            subst this; exact ⟨[], by simp⟩
  | succ j ih =>
    by_cases c : i = j + 1
    · subst c; exact ⟨[], by simp⟩
    · obtain ⟨r, hr⟩ := ih (by omega)
      exact ⟨r ++ tokP w1 w2 (b j) (L j) (D j), by show preP w1 w2 b L D j ++ _ = _; rw [hr, List.append_assoc]⟩
theorem preP_fit {l1 l2 : Nat → Nat} {N1 N2 : Nat} {b L D : Nat → Nat} {n : Nat} (h : ∀ i, i < n → Tok (b i) (L i) (D i)) : Fit (preP (word l1 N1) (word l2 N2) b L D n) := by
  induction n with
  | zero => exact Fit.nil
  | succ n ih => exact Fit.append (ih (fun i hi => h i (by omega))) (tokP_fit (h n (by omega)))
theorem toks_run {V nb most k : Nat} {l1 : Nat → Nat} {N1 : Nat} {l2 : Nat → Nat} {N2 n : Nat} {b L D : Nat → Nat} (h1 : ∀ x, x < N1 → l1 x ≤ 15) (h2 : ∀ x, x < N2 → l2 x ≤ 15) (k1 : all l1 N1 ≤ 2 ^ 15) (k2 : all l2 N2 ≤ 2 ^ 15)
    (ht : ∀ i, i < n → Tok (b i) (L i) (D i)) (hu : ∀ i, i < n → Uses l1 N1 l2 N2 (b i) (L i) (D i)) (hd : ∀ i, i < n → L i ≠ 0 → D i ≤ (preO b L D i).length) (hm : (preO b L D n).length ≤ most)
    (he : 256 < N1) (he0 : 0 < l1 256) (hat : At V nb k (preP (word l1 N1) (word l2 N2) b L D n ++ [word l1 N1 256])) :
    Run (tokStep V nb most l1 N1 l2 N2) (k, []) (.ok (k + len (preP (word l1 N1) (word l2 N2) b L D n ++ [word l1 N1 256])) (preO b L D n)) := by
  obtain ⟨ha, hb⟩ := At.split (preP_fit ht) hat
  have key : ∀ i, i ≤ n → ∀ r, Run (tokStep V nb most l1 N1 l2 N2) (k + len (preP (word l1 N1) (word l2 N2) b L D i), preO b L D i) r → Run (tokStep V nb most l1 N1 l2 N2) (k, []) r := by
    intro i
    induction i with
    | zero => intro _ r hr; simpa [preP, preO, len] using hr
    | succ i ih =>
      intro hi r hr
      refine ih (by omega) r (.more (s' := (k + len (preP (word l1 N1) (word l2 N2) b L D (i + 1)), preO b L D (i + 1))) ?_ hr)
      obtain ⟨q, hq⟩ := preP_front (word l1 N1) (word l2 N2) b L D (i := i + 1) (j := n) hi
      rw [hq] at ha
      have h3 := (At.split (preP_fit (fun j hj => ht j (by omega))) ha).1
      have h4 := (At.split (a := preP (word l1 N1) (word l2 N2) b L D i) (b := tokP (word l1 N1) (word l2 N2) (b i) (L i) (D i)) (preP_fit (fun j hj => ht j (by omega))) h3).2
      rw [tok_step h1 h2 k1 k2 (ht i (by omega)) (hu i (by omega)) (hd i (by omega)) (Nat.le_trans (preO_mono b L D (i := i + 1) hi) hm) h4]
      simp only [preP, preO, len_append, Nat.add_assoc]
  refine key n (Nat.le_refl _) _ (.done ?_)
  rw [end_step h1 k1 he he0 hb]
  simp [len_append, len, word, Nat.add_assoc]
end Go.Proofs.YtfeljhikeddodadGreatDoor.Ps
