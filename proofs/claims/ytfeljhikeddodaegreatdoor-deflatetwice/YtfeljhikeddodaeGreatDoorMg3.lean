/- What packed texts mean, as plain functions: words of a code, symbols, lengths in a row, blocks. Plain facts on words as texts of bits, on the fixed code, on stored lengths. -/
import Derived.Test.YtfeljhikeddodaeGreatDoorMg2
import Derived.Test.YtfeljhikeddodaeGreatDoorMg1
namespace Go.Proofs.YtfeljhikeddodaeGreatDoor.Nf
open Pm Cn

/-! ### A loop that ends, as a function -/
inductive Step (σ ρ : Type) where
  | more (s : σ)
  | done (r : ρ)
inductive Run {σ ρ : Type} (f : σ → Step σ ρ) : σ → ρ → Prop where
  | done {s : σ} {r : ρ} (h : f s = .done r) : Run f s r
  | more {s s' : σ} {r : ρ} (h : f s = .more s') (t : Run f s' r) : Run f s r

theorem Run.det {σ ρ : Type} {f : σ → Step σ ρ} {s : σ} {r r' : ρ} (h : Run f s r) (h' : Run f s r') : r = r' := by
  induction h with
  | done e =>
    cases h' with
    | done e' => rw [e] at e'; injection e'
    | more e' _ => rw [e] at e'; cases e'
  | more e _ ih =>
    cases h' with
    | done e' => rw [e] at e'; cases e'
    | more e' t' => rw [e] at e'; injection e' with e'; subst e'; exact ih t'

noncomputable def run {σ ρ : Type} (f : σ → Step σ ρ) (s : σ) : Option ρ := open Classical in if h : ∃ r, Run f s r then some h.choose else none

theorem run_of {σ ρ : Type} {f : σ → Step σ ρ} {s : σ} {r : ρ} (h : Run f s r) : run f s = some r := by
  unfold run
  have hx : ∃ r, Run f s r := ⟨r, h⟩
  rw [dif_pos hx]
  exact congrArg some (Run.det hx.choose_spec h)
theorem of_run {σ ρ : Type} {f : σ → Step σ ρ} {s : σ} {r : ρ} (h : run f s = some r) : Run f s r := by
  unfold run at h
  split at h
  · next hx => injection h with h; rw [← h]; exact hx.choose_spec
  · cases h
theorem run_done {σ ρ : Type} {f : σ → Step σ ρ} {s : σ} {r : ρ} (h : f s = .done r) : run f s = some r := run_of (.done h)
theorem run_more {σ ρ : Type} {f : σ → Step σ ρ} {s s' : σ} (h : f s = .more s') : run f s = run f s' := by
  by_cases hx : ∃ r, Run f s' r
  · obtain ⟨r, hr⟩ := hx
    rw [run_of hr, run_of (.more h hr)]
  · have hy : ¬ ∃ r, Run f s r := fun ⟨r, hr⟩ => hx (by
      cases hr with
      | done e => rw [h] at e; cases e
      | more e t => rw [h] at e; injection e with e; subst e; exact ⟨r, t⟩)
    unfold run
    rw [dif_neg hx, dif_neg hy]

/-! ### Bits and words -/
def get (V nb k d : Nat) : Option Nat := if k + d ≤ nb then some (V / 2 ^ k % 2 ^ d) else none
theorem get_some {V nb k d : Nat} (h : k + d ≤ nb) : get V nb k d = some (V / 2 ^ k % 2 ^ d) := by unfold get; rw [if_pos h]
theorem get_none {V nb k d : Nat} (h : ¬ k + d ≤ nb) : get V nb k d = none := by unfold get; rw [if_neg h]

/-- n bits from the k-th on, the highest first. -/
def hv (V k : Nat) : Nat → Nat
  | 0 => 0
  | n + 1 => 2 * hv V k n + V / 2 ^ (k + n) % 2

theorem hv_lt (V k n : Nat) : hv V k n < 2 ^ n := by
  induction n with
  | zero => simp [hv]
  | succ n ih => unfold hv; rw [Nat.pow_succ]; omega
theorem hv_div (V k n m : Nat) : hv V k (n + m) / 2 ^ m = hv V k n := by
  induction m with
  | zero => simp
  | succ m ih =>
    show (2 * hv V k (n + m) + V / 2 ^ (k + (n + m)) % 2) / 2 ^ (m + 1) = _
    rw [Nat.pow_succ', ← Nat.div_div_eq_div_mul, show (2 * hv V k (n + m) + V / 2 ^ (k + (n + m)) % 2) / 2 = hv V k (n + m) by omega]
    exact ih
theorem hv_bit (V k L j : Nat) (h : j < L) : hv V k L / 2 ^ (L - 1 - j) % 2 = V / 2 ^ (k + j) % 2 := by
  obtain ⟨m, rfl⟩ : ∃ m, L = (j + 1) + m := ⟨L - 1 - j, by omega⟩
  rw [show j + 1 + m - 1 - j = m by omega, hv_div]
  show (2 * hv V k j + V / 2 ^ (k + j) % 2) % 2 = _
  omega

/-- The word of symbol i stands from the k-th bit on. -/
def Wd (V nb : Nat) (l : Nat → Nat) (N k i : Nat) : Prop := i < N ∧ 0 < l i ∧ k + l i ≤ nb ∧ hv V k (l i) = code l N i

theorem wd_unique {V nb : Nat} {l : Nat → Nat} {N k i j : Nat} (hl : ∀ x, x < N → l x ≤ 15) (h : Wd V nb l N k i) (h' : Wd V nb l N k j) : i = j := by
  have key : ∀ i j, Wd V nb l N k i → Wd V nb l N k j → l i ≤ l j → i = j := fun i j h h' hle => by
    rcases Nat.decEq i j with hne | e
    · exfalso
      refine apart l N i j h.1 h'.1 hne h.2.1 hle (hl j h'.1) ?_
      rw [← h'.2.2.2, ← h.2.2.2]
      obtain ⟨m, hm⟩ : ∃ m, l j = l i + m := ⟨l j - l i, by omega⟩
      rw [hm, Nat.add_sub_cancel_left, hv_div]
    · exact e
  rcases Nat.le_total (l i) (l j) with c | c
  · exact key i j h h' c
  · exact (key j i h' h c).symm

noncomputable def wd (V nb : Nat) (l : Nat → Nat) (N k : Nat) : Option Nat := open Classical in if h : ∃ i, Wd V nb l N k i then some h.choose else none

theorem wd_some {V nb : Nat} {l : Nat → Nat} {N k i : Nat} (hl : ∀ x, x < N → l x ≤ 15) (h : Wd V nb l N k i) : wd V nb l N k = some i := by
  unfold wd
  have hx : ∃ i, Wd V nb l N k i := ⟨i, h⟩
  rw [dif_pos hx]
  exact congrArg some (wd_unique hl hx.choose_spec h)
theorem wd_none {V nb : Nat} {l : Nat → Nat} {N k : Nat} (h : ¬ ∃ i, Wd V nb l N k i) : wd V nb l N k = none := by
  unfold wd; rw [dif_neg h]
theorem of_wd {V nb : Nat} {l : Nat → Nat} {N k i : Nat} (h : wd V nb l N k = some i) : Wd V nb l N k i := by
  unfold wd at h
  split at h
  · next hx => injection h with h; rw [← h]; exact hx.choose_spec
  · cases h
theorem wd_congr {V nb : Nat} {l l' : Nat → Nat} {N : Nat} (h : ∀ i, i < N → l i = l' i) (k : Nat) : wd V nb l N k = wd V nb l' N k := by
  have ha : ∀ n i, acc l N n i = acc l' N n i := fun n i => by
    unfold acc
    exact upto_congr N (fun j hj => by rw [h j hj])
  have hw : ∀ i, Wd V nb l N k i ↔ Wd V nb l' N k i := fun i => by
    unfold Wd
    refine and_congr_right (fun hi => ?_)
    rw [h i hi]
    have : code l N i = code l' N i := by unfold code; rw [h i hi, ha]
    rw [this]
  have e : Wd V nb l N k = Wd V nb l' N k := funext fun i => propext (hw i)
  unfold wd
  rw [e]

/-! ### Symbols -/
inductive Er where
  | text
  | bound
/-- So many bits read, and this is written; or an error. -/
inductive Res where
  | ok (k : Nat) (out : List UInt8)
  | err (e : Er)

def lens : List Nat := [3, 4, 5, 6, 7, 8, 9, 10, 11, 13, 15, 17, 19, 23, 27, 31, 35, 43, 51, 59, 67, 83, 99, 115, 131, 163, 195, 227, 258]
def dists : List Nat := [1, 2, 3, 4, 5, 7, 9, 13, 17, 25, 33, 49, 65, 97, 129, 193, 257, 385, 513, 769, 1025, 1537, 2049, 3073, 4097, 6145, 8193, 12289, 16385, 24577]
def lenBits (k : Nat) : Nat := if k < 8 ∨ k = 28 then 0 else k / 4 - 1
def distBits (k : Nat) : Nat := if k < 4 then 0 else k / 2 - 1

/-- So many bytes more, each as one that stands so far back. -/
def copied (out : List UInt8) (back : Nat) : Nat → List UInt8
  | 0 => out
  | n + 1 => copied out back n ++ [(copied out back n).getD ((copied out back n).length - back) 0]
theorem copied_length (out : List UInt8) (back n : Nat) : (copied out back n).length = out.length + n := by
  induction n with
  | zero => rfl
  | succ n ih => unfold copied; rw [List.length_append, ih]; simp; omega

abbrev St := Nat × List UInt8

noncomputable def tokStep (V nb most : Nat) (l1 : Nat → Nat) (N1 : Nat) (l2 : Nat → Nat) (N2 : Nat) (s : St) : Step St Res :=
  match wd V nb l1 N1 s.1 with
  | none => .done (.err .text)
  | some i =>
    if i < 256 then
      if s.2.length < most then .more (s.1 + l1 i, s.2 ++ [UInt8.ofNat i]) else .done (.err .bound)
    else if i = 256 then .done (.ok (s.1 + l1 i) s.2)
    else if 286 ≤ i then .done (.err .text)
    else
      match get V nb (s.1 + l1 i) (lenBits (i - 257)) with
      | none => .done (.err .text)
      | some x =>
        match wd V nb l2 N2 (s.1 + l1 i + lenBits (i - 257)) with
        | none => .done (.err .text)
        | some d =>
          if 30 ≤ d then .done (.err .text)
          else
            match get V nb (s.1 + l1 i + lenBits (i - 257) + l2 d) (distBits d) with
            | none => .done (.err .text)
            | some y =>
              if s.2.length < dists.getD d 0 + y then .done (.err .text)
              else if most < s.2.length + (lens.getD (i - 257) 0 + x) then .done (.err .bound)
              else .more (s.1 + l1 i + lenBits (i - 257) + l2 d + distBits d, copied s.2 (dists.getD d 0 + y) (lens.getD (i - 257) 0 + x))

theorem tokStep_congr {V nb most : Nat} {l1 l1' : Nat → Nat} {N1 : Nat} {l2 l2' : Nat → Nat} {N2 : Nat} (h1 : ∀ i, i < N1 → l1 i = l1' i) (h2 : ∀ i, i < N2 → l2 i = l2' i) : tokStep V nb most l1 N1 l2 N2 = tokStep V nb most l1' N1 l2' N2 := by
  funext s
  unfold tokStep
  rw [wd_congr h1]
  split
  · rfl
  · next i hi =>
    have hiN : i < N1 := (of_wd hi).1
    rw [h1 i hiN]
    split
    · rfl
    · split
      · rfl
      · split
        · rfl
        · split
          · rfl
          · rw [wd_congr h2]
            split
            · rfl
            · next d hd =>
              rw [h2 d (of_wd hd).1]

/-! ### The fixed code -/
def fixL (i : Nat) : Nat := if i < 144 then 8 else if i < 256 then 9 else if i < 280 then 7 else 8
def fixD (_ : Nat) : Nat := 5

/-! ### Lengths of a dynamic block -/
def order : List Nat := [16, 17, 18, 0, 8, 7, 9, 6, 10, 5, 11, 4, 12, 3, 13, 2, 14, 1, 15]
/-- The lengths of lengths, behind c of them. -/
def small (V k : Nat) : Nat → Nat → Nat
  | 0, _ => 0
  | c + 1, x => if x = order.getD c 0 then V / 2 ^ (k + 3 * c) % 2 ^ 3 else small V k c x

abbrev Row := Nat × List Nat
def againBits (i : Nat) : Nat := if i = 16 then 2 else if i = 17 then 3 else 7
def againFrom (i : Nat) : Nat := if i = 18 then 11 else 3
def againOf (i : Nat) (row : List Nat) : Nat := if i = 16 then row.getD (row.length - 1) 0 else 0

noncomputable def rowStep (V nb tot : Nat) (l : Nat → Nat) (s : Row) : Step Row (Option Row) :=
  if tot ≤ s.2.length then .done (some s)
  else
    match wd V nb l 19 s.1 with
    | none => .done none
    | some i =>
      if i < 16 then .more (s.1 + l i, s.2 ++ [i])
      else if i = 16 ∧ s.2.length = 0 then .done none
      else
        match get V nb (s.1 + l i) (againBits i) with
        | none => .done none
        | some x =>
          if tot < s.2.length + (againFrom i + x) then .done none
          else .more (s.1 + l i + againBits i, s.2 ++ List.replicate (againFrom i + x) (againOf i s.2))

/-- The lengths of a dynamic block: bits read, all lengths in a row, how many symbols. -/
noncomputable def dyn (V nb k : Nat) : Option (Nat × List Nat × Nat) := open Classical in
  if ¬ k + 14 ≤ nb then none
  else if 286 < V / 2 ^ k % 2 ^ 5 + 257 ∨ 30 < V / 2 ^ (k + 5) % 2 ^ 5 + 1 then none
  else if ¬ k + 14 + 3 * (V / 2 ^ (k + 10) % 2 ^ 4 + 4) ≤ nb then none
  else if ¬ Right (small V (k + 14) (V / 2 ^ (k + 10) % 2 ^ 4 + 4)) 19 then none
  else
    match run (rowStep V nb ((V / 2 ^ k % 2 ^ 5 + 257) + (V / 2 ^ (k + 5) % 2 ^ 5 + 1)) (small V (k + 14) (V / 2 ^ (k + 10) % 2 ^ 4 + 4))) (k + 14 + 3 * (V / 2 ^ (k + 10) % 2 ^ 4 + 4), []) with
    | none => none
    | some none => none
    | some (some (k', row)) =>
      if ¬ Right (fun i => row.getD i 0) (V / 2 ^ k % 2 ^ 5 + 257) ∨ ¬ Right (fun i => row.getD (V / 2 ^ k % 2 ^ 5 + 257 + i) 0) (V / 2 ^ (k + 5) % 2 ^ 5 + 1) ∨ row.getD 256 0 = 0 then none
      else some (k', row, V / 2 ^ k % 2 ^ 5 + 257)

/-! ### Blocks -/
def bytesOf (V k : Nat) : Nat → List UInt8
  | 0 => []
  | n + 1 => bytesOf V k n ++ [UInt8.ofNat (V / 2 ^ (k + 8 * n) % 2 ^ 8)]
theorem bytesOf_length (V k n : Nat) : (bytesOf V k n).length = n := by
  induction n with
  | zero => rfl
  | succ n ih => unfold bytesOf; rw [List.length_append, ih]; rfl

def storedOf (V nb most k : Nat) (out : List UInt8) : Res :=
  if ¬ (k + 7) / 8 * 8 + 32 ≤ nb then .err .text
  else if V / 2 ^ ((k + 7) / 8 * 8) % 2 ^ 16 + V / 2 ^ ((k + 7) / 8 * 8 + 16) % 2 ^ 16 ≠ 65535 then .err .text
  else if ¬ (k + 7) / 8 * 8 + 32 + 8 * (V / 2 ^ ((k + 7) / 8 * 8) % 2 ^ 16) ≤ nb then .err .text
  else if most < out.length + V / 2 ^ ((k + 7) / 8 * 8) % 2 ^ 16 then .err .bound
  else .ok ((k + 7) / 8 * 8 + 32 + 8 * (V / 2 ^ ((k + 7) / 8 * 8) % 2 ^ 16)) (out ++ bytesOf V ((k + 7) / 8 * 8 + 32) (V / 2 ^ ((k + 7) / 8 * 8) % 2 ^ 16))

/-- The block of this kind whose bits begin at k. -/
noncomputable def blockOf (V nb most kind k : Nat) (out : List UInt8) : Option Res :=
  if kind = 0 then some (storedOf V nb most k out)
  else if kind = 1 then run (tokStep V nb most fixL 288 fixD 32) (k, out)
  else if kind = 2 then
    match dyn V nb k with
    | none => some (.err .text)
    | some (k', row, many) => run (tokStep V nb most (fun i => row.getD i 0) many (fun i => row.getD (many + i) 0) (row.length - many)) (k', out)
  else some (.err .text)

noncomputable def blockStep (V nb most : Nat) (s : St) : Step St Res :=
  if ¬ s.1 + 3 ≤ nb then .done (.err .text)
  else
    match blockOf V nb most (V / 2 ^ (s.1 + 1) % 2 ^ 2) (s.1 + 3) s.2 with
    | none => .done (.err .text)
    | some (.err e) => .done (.err e)
    | some (.ok k out) => if V / 2 ^ s.1 % 2 ^ 1 = 1 then .done (.ok k out) else .more (k, out)

noncomputable def infl (V nb most : Nat) : Option Res := run (blockStep V nb most) (0, [])
end Go.Proofs.YtfeljhikeddodaeGreatDoor.Nf
namespace Go.Proofs.YtfeljhikeddodaeGreatDoor.Nf
open Pm Cn

theorem hv_front (V k n : Nat) : hv V k (n + 1) = 2 ^ n * (V / 2 ^ k % 2) + hv V (k + 1) n := by
  induction n with
  | zero => simp [hv]
  | succ n ih =>
    show 2 * hv V k (n + 1) + V / 2 ^ (k + (n + 1)) % 2 = _
    rw [ih, Nat.pow_succ]
    show _ = _ + (2 * hv V (k + 1) n + V / 2 ^ (k + 1 + n) % 2)
    rw [show k + 1 + n = k + (n + 1) by omega, Nat.mul_add, ← Nat.mul_assoc, Nat.mul_comm 2 (2 ^ n)]
    omega

theorem rev_mod (c n : Nat) : Bt.rev c n = Bt.rev (c % 2 ^ n) n := by
  have key : ∀ m, m ≤ n → Bt.rev c m = Bt.rev (c % 2 ^ n) m := by
    intro m
    induction m with
    | zero => intro _; rfl
    | succ m ih =>
      intro h
      show Bt.bit c m + 2 * Bt.rev c m = Bt.bit (c % 2 ^ n) m + 2 * Bt.rev (c % 2 ^ n) m
      rw [ih (by omega), Bt.bit_mod c n m (by omega)]
  exact key n (Nat.le_refl _)

theorem front_mod (V k n : Nat) : V / 2 ^ k % 2 ^ (n + 1) = V / 2 ^ k % 2 + 2 * (V / 2 ^ (k + 1) % 2 ^ n) := by
  rw [Nat.pow_succ', Nat.mod_mul, Nat.pow_succ, Nat.div_div_eq_div_mul]

theorem rev_hv (V : Nat) : ∀ (n k c : Nat), c < 2 ^ n → (Bt.rev c n = V / 2 ^ k % 2 ^ n ↔ c = hv V k n) := by
  intro n
  induction n with
  | zero => intro k c h; simp at h; subst h; simp [Bt.rev, hv, Nat.mod_one]
  | succ n ih =>
    intro k c h
    have ih' := ih (k + 1) (c % 2 ^ n) (Nat.mod_lt _ (Nat.two_pow_pos n))
    rw [front_mod, hv_front]
    show Bt.bit c n + 2 * Bt.rev c n = _ ↔ _
    rw [rev_mod]
    have hb : Bt.bit c n = c / 2 ^ n := by
      unfold Bt.bit
      refine Nat.mod_eq_of_lt ?_
      rw [Nat.div_lt_iff_lt_mul (Nat.two_pow_pos n)]
      rw [Nat.pow_succ] at h; omega
    have hc := Nat.div_add_mod c (2 ^ n)
    have h2 : c / 2 ^ n < 2 := by
      rw [Nat.div_lt_iff_lt_mul (Nat.two_pow_pos n)]
      rw [Nat.pow_succ] at h; omega
    have h3 : V / 2 ^ k % 2 < 2 := Nat.mod_lt _ (by omega)
    have h4 := hv_lt V (k + 1) n
    have h5 : c % 2 ^ n < 2 ^ n := Nat.mod_lt _ (Nat.two_pow_pos n)
    rw [hb]
    generalize c / 2 ^ n = b at *
    generalize V / 2 ^ k % 2 = b' at *
    constructor
    · intro e
      have e1 : b = b' := by omega
      have e2 : Bt.rev (c % 2 ^ n) n = V / 2 ^ (k + 1) % 2 ^ n := by omega
      rw [← ih'.1 e2, ← e1]
      exact hc.symm
    · intro e
      have key : b = b' ∧ c % 2 ^ n = hv V (k + 1) n := by
        rw [← hc] at e
        have hp := Nat.two_pow_pos n
        generalize 2 ^ n = p at *
        generalize c % p = r at *
        generalize hv V (k + 1) n = r' at *
        match b, b', h2, h3 with
        | 0, 0, _, _ => omega
        | 1, 1, _, _ => omega
        | 0, 1, _, _ => omega
        | 1, 0, _, _ => omega
      rw [ih'.2 key.2, key.1]

theorem bl_ext (n X Y : Nat) : Bt.bl n X = Bt.bl n Y ↔ X % 2 ^ n = Y % 2 ^ n := by
  constructor
  · intro h
    have hb : ∀ i, i < n → Bt.bit X i = Bt.bit Y i := fun i hi => by
      have h1 := Bt.bl_at n X i hi
      have h2 := Bt.bl_at n Y i hi
      rw [h, h2] at h1
      injection h1 with h1
      have := congrArg UInt8.toNat h1
      have a := Bt.bit_lt X i
      have b := Bt.bit_lt Y i
      simp only [UInt8.toNat_ofNat'] at this
      omega
    have key : ∀ m, m ≤ n → X % 2 ^ m = Y % 2 ^ m := by
      intro m
      induction m with
      | zero => intro _; simp [Nat.mod_one]
      | succ m ih => intro hm; rw [Bt.mod_succ, Bt.mod_succ, ih (by omega), hb m (by omega)]
    exact key n (Nat.le_refl _)
  · intro h
    unfold Bt.bl
    refine List.map_congr_left (fun i hi => ?_)
    have hi := List.mem_range.1 hi
    rw [← Bt.bit_mod X n i hi, ← Bt.bit_mod Y n i hi, h]

/-- The word as a text stands there. -/
theorem word_iff (V k n c : Nat) (h : c < 2 ^ n) : Bt.bl n (Bt.rev c n) = Bt.bl n (V / 2 ^ k) ↔ hv V k n = c := by
  rw [bl_ext, Nat.mod_eq_of_lt (Bt.rev_lt c n), rev_hv V n k c h]
  exact eq_comm

theorem xor16 (n m : Nat) (hn : n < 65536) : n ^^^ m = 65535 ↔ n + m = 65535 := by
  have key : n ^^^ 65535 = 65535 - n := by
    have h := BitVec.toNat_not (x := BitVec.ofNat 16 n)
    have h2 : (~~~ BitVec.ofNat 16 n) = BitVec.ofNat 16 n ^^^ BitVec.allOnes 16 := (BitVec.xor_allOnes).symm
    rw [h2] at h
    simp only [BitVec.toNat_xor, BitVec.toNat_ofNat, BitVec.toNat_allOnes] at h
    rw [Nat.mod_eq_of_lt (by omega)] at h
    exact h
  constructor
  · intro h
    have : m = n ^^^ 65535 := by rw [← h, ← Nat.xor_assoc, Nat.xor_self, Nat.zero_xor]
    omega
  · intro h
    have : m = 65535 - n := by omega
    rw [this, ← key, ← Nat.xor_assoc, Nat.xor_self, Nat.zero_xor]

set_option maxRecDepth 100000 in
theorem all_fixL : all fixL 288 = 32768 := by decide +kernel
set_option maxRecDepth 100000 in
theorem all_fixD : all fixD 32 = 32768 := by decide +kernel
set_option maxRecDepth 100000 in
theorem code_fixD : ∀ i, i < 32 → code fixD 32 i = i := by decide +kernel
theorem fixL_le (i : Nat) : fixL i ≤ 15 ∧ 0 < fixL i := by
  unfold fixL
  split
  · omega
  · split
    · omega
    · split <;> omega

theorem small_lt (V k c x : Nat) : small V k c x < 8 := by
  induction c with
  | zero => unfold small; omega
  | succ c ih =>
    unfold small
    split
    · exact Nat.mod_lt _ (by omega)
    · exact ih
end Go.Proofs.YtfeljhikeddodaeGreatDoor.Nf
