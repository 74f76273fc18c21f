/- Pieces of bits, one behind the other, and what is read of them. -/
import Derived.Test.YtbbcfghlhgaofadGreatDoorMg4
import Derived.Test.YtbbcfghlhgaofadGreatDoorMg1
namespace Go.Proofs.YtbbcfghlhgaofadGreatDoor.Ps
open Pm Cn Nf

/-! ### Pieces: a number, and how many bits -/
abbrev Pc := Nat × Nat
def len : List Pc → Nat
  | [] => 0
  | p :: l => p.2 + len l
def val : List Pc → Nat
  | [] => 0
  | p :: l => p.1 + 2 ^ p.2 * val l
def Fit (l : List Pc) : Prop := ∀ p ∈ l, p.1 < 2 ^ p.2

theorem Fit.nil : Fit [] := fun _ h => by cases h
theorem Fit.cons {p : Pc} {l : List Pc} (h : p.1 < 2 ^ p.2) (hl : Fit l) : Fit (p :: l) := fun q hq => by
  rcases List.mem_cons.1 hq with e | e
  · rw [e]; exact h
  · exact hl q e
theorem Fit.append {a b : List Pc} (h : Fit a) (g : Fit b) : Fit (a ++ b) := fun q hq => by
  rcases List.mem_append.1 hq with e | e
  · exact h q e
  · exact g q e
theorem Fit.left {a b : List Pc} (h : Fit (a ++ b)) : Fit a := fun q hq => h q (List.mem_append.2 (.inl hq))
theorem Fit.right {a b : List Pc} (h : Fit (a ++ b)) : Fit b := fun q hq => h q (List.mem_append.2 (.inr hq))

theorem len_append (a b : List Pc) : len (a ++ b) = len a + len b := by
  induction a with
  | nil => simp [len]
  | cons p a ih => simp only [List.cons_append, len, ih]; omega
theorem val_append (a b : List Pc) : val (a ++ b) = val a + 2 ^ len a * val b := by
  induction a with
  | nil => simp [len, val]
  | cons p a ih =>
    simp only [List.cons_append, len, val, ih]
    rw [Nat.pow_add, Nat.mul_add, Nat.add_assoc, Nat.mul_assoc]
theorem val_lt {l : List Pc} (h : Fit l) : val l < 2 ^ len l := by
  induction l with
  | nil => simp [len, val]
  | cons p l ih => exact Bt.lt_more p.2 _ _ _ (h p (by simp)) (ih (fun q hq => h q (by simp [hq])))

/-- The pieces stand from the k-th bit on. -/
def At (V nb k : Nat) (l : List Pc) : Prop := k + len l ≤ nb ∧ V / 2 ^ k % 2 ^ len l = val l

theorem At.split {V nb k : Nat} {a b : List Pc} (ha : Fit a) (h : At V nb k (a ++ b)) : At V nb k a ∧ At V nb (k + len a) b := by
  obtain ⟨h1, h2⟩ := h
  rw [len_append] at h1
  rw [len_append, val_append] at h2
  have hv := val_lt ha
  refine ⟨⟨by omega, ?_⟩, ⟨by omega, ?_⟩⟩
  · have e : V / 2 ^ k % 2 ^ (len a + len b) % 2 ^ len a = V / 2 ^ k % 2 ^ len a := Nat.mod_mod_of_dvd _ (Nat.pow_dvd_pow 2 (by omega))
    rw [← e, h2, Nat.add_mul_mod_self_left, Nat.mod_eq_of_lt hv]
  · have e : V / 2 ^ (k + len a) % 2 ^ len b = V / 2 ^ k % 2 ^ (len a + len b) / 2 ^ len a := by
      rw [Nat.pow_add, Nat.pow_add, ← Nat.div_div_eq_div_mul, Nat.mod_mul_right_div_self]
    rw [e, h2, Nat.add_mul_div_left _ _ (Nat.two_pow_pos _), Nat.div_eq_of_lt hv, Nat.zero_add]
theorem At.join {V nb k : Nat} {a b : List Pc} (h : At V nb k a) (g : At V nb (k + len a) b) : At V nb k (a ++ b) := by
  obtain ⟨h1, h2⟩ := h
  obtain ⟨g1, g2⟩ := g
  refine ⟨by rw [len_append]; omega, ?_⟩
  rw [len_append, val_append, Nat.pow_add, Nat.mod_mul, h2, Nat.div_div_eq_div_mul, ← Nat.pow_add, g2]
theorem At.cons {V nb k : Nat} {p : Pc} {l : List Pc} (hp : p.1 < 2 ^ p.2) (h : At V nb k (p :: l)) : At V nb k [p] ∧ At V nb (k + p.2) l := by
  have := At.split (a := [p]) (b := l) (Fit.cons hp Fit.nil) h
  simpa [len] using this
theorem At.nil {V nb k : Nat} (h : k ≤ nb) : At V nb k [] := ⟨by simpa [len] using h, by simp [len, val, Nat.mod_one]⟩
theorem At.one {V nb k : Nat} {p : Pc} (h : At V nb k [p]) : k + p.2 ≤ nb ∧ V / 2 ^ k % 2 ^ p.2 = p.1 := by
  obtain ⟨h1, h2⟩ := h
  simp only [len, val, Nat.add_zero, Nat.mul_zero] at h1 h2
  exact ⟨h1, h2⟩
theorem At.got {V nb k : Nat} {p : Pc} (h : At V nb k [p]) : get V nb k p.2 = some p.1 := by rw [get_some h.one.1, h.one.2]
/-- Of a number that is these pieces, and others behind them. -/
theorem at_front {l : List Pc} {m n : Nat} (h : Fit l) : At (val l + 2 ^ len l * m) (len l + n) 0 l := by
  refine ⟨by omega, ?_⟩
  rw [Nat.pow_zero, Nat.div_one, Nat.add_mul_mod_self_left, Nat.mod_eq_of_lt (val_lt h)]

/-! ### Words -/
theorem bit_rev (n w i : Nat) (h : i < w) : Bt.bit (Bt.rev n w) i = Bt.bit n (w - 1 - i) := by
  rw [← Bt.top_all]
  have key : ∀ k, k ≤ w → ∀ i, i < k → Bt.bit (Bt.top n w k) i = Bt.bit n (w - 1 - i) := by
    intro k
    induction k with
    | zero => intro _ i hi; omega
    | succ k ih =>
      intro hk i hi
      have e := Bt.top_succ 0 0 n w k
      simp only [Nat.pow_zero, Nat.one_mul, Nat.zero_add] at e
      rw [e]
      by_cases c : i < k
      · rw [Bt.bit_low k _ _ i c]; exact ih (by omega) i c
      · have : i = k := by omega
        subst this
        have := Bt.bit_high i (Bt.top n w i) (Bt.bit n (w - 1 - i)) 0 (Bt.top_lt n w i)
        rw [Nat.add_zero] at this
        rw [this]
        unfold Bt.bit
        simp
  exact key w (Nat.le_refl _) i h

theorem hv_of_bits (V k n : Nat) : ∀ w, (∀ i, i < w → V / 2 ^ (k + i) % 2 = n / 2 ^ (w - 1 - i) % 2) → hv V k w = n % 2 ^ w := by
  intro w
  induction w generalizing n with
  | zero => intro _; simp [hv, Nat.mod_one]
  | succ w ih =>
    intro h
    show 2 * hv V k w + V / 2 ^ (k + w) % 2 = _
    rw [h w (by omega), ih (n / 2) (fun i hi => by
      rw [h i (by omega), Nat.div_div_eq_div_mul, ← Nat.pow_succ', show w + 1 - 1 - i = w - 1 - i + 1 by omega])]
    rw [show w + 1 - 1 - w = 0 by omega, Nat.pow_zero, Nat.div_one, Nat.pow_succ', Nat.mod_mul]
    omega
theorem hv_rev {V k n w : Nat} (hn : n < 2 ^ w) (h : V / 2 ^ k % 2 ^ w = Bt.rev n w) : hv V k w = n := by
  rw [hv_of_bits V k n w (fun i hi => ?_), Nat.mod_eq_of_lt hn]
  have h1 := bit_rev n w i hi
  rw [← h] at h1
  have h2 := Bt.bit_mod (V / 2 ^ k) w i hi
  rw [h2] at h1
  unfold Bt.bit at h1
  rw [Nat.div_div_eq_div_mul, ← Nat.pow_add] at h1
  exact h1

/-- The word of symbol i. -/
def word (l : Nat → Nat) (N i : Nat) : Pc := (Bt.rev (code l N i) (l i), l i)
theorem word_fit (l : Nat → Nat) (N i : Nat) : (word l N i).1 < 2 ^ (word l N i).2 := Bt.rev_lt _ _
theorem At.word {V nb k N i : Nat} {l : Nat → Nat} (hl : ∀ x, x < N → l x ≤ 15) (hi : i < N) (h0 : 0 < l i) (hc : code l N i < 2 ^ l i) (h : At V nb k [word l N i]) : wd V nb l N k = some i :=
  wd_some hl ⟨hi, h0, h.one.1, hv_rev hc h.one.2⟩

/-! ### Places in a row -/
/-- The last place up to k whose number is not above n. -/
def plU (row : List Nat) (n : Nat) : Nat → Nat
  | 0 => 0
  | k + 1 => if row.getD (k + 1) 0 ≤ n then k + 1 else plU row n k
def pl (row : List Nat) (n : Nat) : Nat := plU row n (row.length - 1)

theorem plU_le (row : List Nat) (n k : Nat) : plU row n k ≤ k := by
  induction k with
  | zero => exact Nat.le_refl _
  | succ k ih => unfold plU; split <;> omega
theorem plU_at (row : List Nat) (n k : Nat) (h : row.getD 0 0 ≤ n) : row.getD (plU row n k) 0 ≤ n := by
  induction k with
  | zero => exact h
  | succ k ih =>
    unfold plU
    split
    · assumption
    · exact ih
theorem plU_above (row : List Nat) (n k j : Nat) (h : plU row n k < j) (hj : j ≤ k) : n < row.getD j 0 := by
  induction k with
  | zero => omega
  | succ k ih =>
    unfold plU at h
    split at h
    · omega
    · next e =>
      by_cases c : j = k + 1
      · subst c; omega
      · exact ih h (by omega)
theorem plU_is {row : List Nat} {n k j : Nat} (h0 : row.getD j 0 ≤ n) (hj : j ≤ k) (h1 : ∀ i, j < i → i ≤ k → n < row.getD i 0) : plU row n k = j := by
  induction k with
  | zero => unfold plU; omega
  | succ k ih =>
    unfold plU
    by_cases c : j = k + 1
    · subst c; rw [if_pos h0]
    · rw [if_neg (by have := h1 (k + 1) (by omega) (Nat.le_refl _); omega)]
      exact ih (by omega) (fun i h2 h3 => h1 i h2 (by omega))

theorem lens_gap : ∀ c, c < 28 → lens.getD (c + 1) 0 ≤ lens.getD c 0 + 2 ^ lenBits c := by decide +kernel
theorem dists_gap : ∀ c, c < 29 → dists.getD (c + 1) 0 ≤ dists.getD c 0 + 2 ^ distBits c := by decide +kernel
theorem lens_up : ∀ i, i < 29 → ∀ j, j < 29 → i ≤ j → lens.getD i 0 ≤ lens.getD j 0 := by decide +kernel
theorem dists_up : ∀ i, i < 30 → ∀ j, j < 30 → i ≤ j → dists.getD i 0 ≤ dists.getD j 0 := by decide +kernel

theorem pl_lens {n : Nat} (h : 3 ≤ n ∧ n ≤ 258) : pl lens n < 29 ∧ lens.getD (pl lens n) 0 ≤ n ∧ n - lens.getD (pl lens n) 0 < 2 ^ lenBits (pl lens n) := by
  have h1 : pl lens n ≤ 28 := plU_le _ _ _
  have h2 : lens.getD (pl lens n) 0 ≤ n := plU_at _ _ _ h.1
  refine ⟨by omega, h2, ?_⟩
  by_cases c : pl lens n = 28
  · rw [c] at h2 ⊢
    have : lens.getD 28 0 = 258 := rfl
    have e : lenBits 28 = 0 := rfl
    rw [this] at h2 ⊢
    rw [e]; omega
  · have h3 : n < lens.getD (pl lens n + 1) 0 := plU_above _ _ _ _ (Nat.lt_succ_self _) (show pl lens n + 1 ≤ 28 by omega)
    have := lens_gap (pl lens n) (by omega)
    omega
theorem pl_dists {n : Nat} (h : 1 ≤ n ∧ n ≤ 32768) : pl dists n < 30 ∧ dists.getD (pl dists n) 0 ≤ n ∧ n - dists.getD (pl dists n) 0 < 2 ^ distBits (pl dists n) := by
  have h1 : pl dists n ≤ 29 := plU_le _ _ _
  have h2 : dists.getD (pl dists n) 0 ≤ n := plU_at _ _ _ h.1
  refine ⟨by omega, h2, ?_⟩
  by_cases c : pl dists n = 29
  · rw [c] at h2 ⊢
    have : dists.getD 29 0 = 24577 := rfl
    have e : distBits 29 = 13 := rfl
    rw [this] at h2 ⊢
    rw [e]; omega
  · have h3 : n < dists.getD (pl dists n + 1) 0 := plU_above _ _ _ _ (Nat.lt_succ_self _) (show pl dists n + 1 ≤ 29 by omega)
    have := dists_gap (pl dists n) (by omega)
    omega

/-! ### Tokens as pieces -/
def tokP (w1 w2 : Nat → Pc) (b L D : Nat) : List Pc :=
  if L = 0 then [w1 b] else [w1 (257 + pl lens L), (L - lens.getD (pl lens L) 0, lenBits (pl lens L)), w2 (pl dists D), (D - dists.getD (pl dists D) 0, distBits (pl dists D))]
/-- A byte, or a match. -/
def Tok (b L D : Nat) : Prop := if L = 0 then b < 256 else (3 ≤ L ∧ L ≤ 258) ∧ 1 ≤ D ∧ D ≤ 32768
/-- What is used has a word. -/
def Uses (l1 : Nat → Nat) (N1 : Nat) (l2 : Nat → Nat) (N2 b L D : Nat) : Prop :=
  if L = 0 then b < N1 ∧ 0 < l1 b else (257 + pl lens L < N1 ∧ 0 < l1 (257 + pl lens L)) ∧ pl dists D < N2 ∧ 0 < l2 (pl dists D)
/-- What it means. -/
def tokO (out : List UInt8) (b L D : Nat) : List UInt8 := if L = 0 then out ++ [UInt8.ofNat b] else copied out D L

theorem tokP_fit {l1 l2 : Nat → Nat} {N1 N2 b L D : Nat} (h : Tok b L D) : Fit (tokP (word l1 N1) (word l2 N2) b L D) := by
  unfold tokP Tok at *
  split
  · exact Fit.cons (word_fit _ _ _) Fit.nil
  · next e =>
    rw [if_neg e] at h
    exact Fit.cons (word_fit _ _ _) (Fit.cons (pl_lens h.1).2.2 (Fit.cons (word_fit _ _ _) (Fit.cons (pl_dists h.2).2.2 Fit.nil)))

theorem tok_step {V nb most k : Nat} {l1 : Nat → Nat} {N1 : Nat} {l2 : Nat → Nat} {N2 b L D : Nat} {out : List UInt8} (h1 : ∀ x, x < N1 → l1 x ≤ 15) (h2 : ∀ x, x < N2 → l2 x ≤ 15) (k1 : all l1 N1 ≤ 2 ^ 15) (k2 : all l2 N2 ≤ 2 ^ 15)
    (ht : Tok b L D) (hu : Uses l1 N1 l2 N2 b L D) (hd : L ≠ 0 → D ≤ out.length) (hm : (tokO out b L D).length ≤ most) (hat : At V nb k (tokP (word l1 N1) (word l2 N2) b L D)) :
    tokStep V nb most l1 N1 l2 N2 (k, out) = .more (k + len (tokP (word l1 N1) (word l2 N2) b L D), tokO out b L D) := by
  unfold tokP Tok Uses tokO at *
  by_cases e : L = 0
  · rw [if_pos e] at ht hu hm hat ⊢
    have hw := At.word h1 hu.1 hu.2 (code_lt l1 N1 b hu.1 hu.2 (h1 b hu.1) k1) hat
    unfold tokStep
    simp only [hw]
    rw [List.length_append] at hm
    simp only [List.length_singleton] at hm
    rw [if_pos ht, if_pos (by omega)]
    simp [len, word, if_pos e]
  · rw [if_neg e] at ht hu hm hat ⊢
    obtain ⟨p1, p2, p3⟩ := pl_lens ht.1
    obtain ⟨q1, q2, q3⟩ := pl_dists ht.2
    obtain ⟨a1, hat⟩ := At.cons (word_fit _ _ _) hat
    obtain ⟨a2, hat⟩ := At.cons p3 hat
    obtain ⟨a3, a4⟩ := At.cons (word_fit _ _ _) hat
    have hw1 := At.word h1 hu.1.1 hu.1.2 (code_lt l1 N1 _ hu.1.1 hu.1.2 (h1 _ hu.1.1) k1) a1
    have hw2 := At.word h2 hu.2.1 hu.2.2 (code_lt l2 N2 _ hu.2.1 hu.2.2 (h2 _ hu.2.1) k2) a3
    have g1 := a2.got
    have g2 := a4.got
    simp only [word] at g1 g2 hw2
    unfold tokStep
    simp only [hw1]
    rw [copied_length] at hm
    have hd' := hd e
    rw [if_neg (by omega), if_neg (by omega), if_neg (by omega), show 257 + pl lens L - 257 = pl lens L by omega, g1]
    simp only
    rw [hw2]
    simp only
    rw [if_neg (by omega), g2]
    simp only
    rw [if_neg (by omega), if_neg (by omega), show dists.getD (pl dists D) 0 + (D - dists.getD (pl dists D) 0) = D by omega, show lens.getD (pl lens L) 0 + (L - lens.getD (pl lens L) 0) = L by omega]
    simp only [len, word, Step.more.injEq, Prod.mk.injEq, if_neg e, and_true]
    omega
theorem end_step {V nb most k : Nat} {l1 : Nat → Nat} {N1 : Nat} {l2 : Nat → Nat} {N2 : Nat} {out : List UInt8} (h1 : ∀ x, x < N1 → l1 x ≤ 15) (k1 : all l1 N1 ≤ 2 ^ 15) (h : 256 < N1) (h0 : 0 < l1 256) (hat : At V nb k [word l1 N1 256]) :
    tokStep V nb most l1 N1 l2 N2 (k, out) = .done (.ok (k + l1 256) out) := by
  have hw := At.word h1 h h0 (code_lt l1 N1 256 h h0 (h1 256 h) k1) hat
  unfold tokStep
  simp only [hw]
  rfl

/-- The first n tokens of a row, as pieces; and what they mean. -/
def preP (w1 w2 : Nat → Pc) (b L D : Nat → Nat) : Nat → List Pc
  | 0 => []
  | i + 1 => preP w1 w2 b L D i ++ tokP w1 w2 (b i) (L i) (D i)
def preO (b L D : Nat → Nat) : Nat → List UInt8
  | 0 => []
  | i + 1 => tokO (preO b L D i) (b i) (L i) (D i)
theorem preO_mono (b L D : Nat → Nat) {i j : Nat} (h : i ≤ j) : (preO b L D i).length ≤ (preO b L D j).length := by
  induction j with
  | zero => have : i = 0 := by omega
            subst this; exact Nat.le_refl _
  | succ j ih =>
    by_cases c : i = j + 1
    · subst c; exact Nat.le_refl _
    · have := ih (by omega)
      show _ ≤ (tokO (preO b L D j) (b j) (L j) (D j)).length
      unfold tokO
      split
      · rw [List.length_append]; omega
      · rw [copied_length]; omega
theorem preP_front (w1 w2 : Nat → Pc) (b L D : Nat → Nat) {i j : Nat} (h : i ≤ j) : ∃ r, preP w1 w2 b L D j = preP w1 w2 b L D i ++ r := by
  induction j with
  | zero => have : i = 0 := by omega
            subst this; exact ⟨[], by simp⟩
  | succ j ih =>
    by_cases c : i = j + 1
    · subst c; exact ⟨[], by simp⟩
    · obtain ⟨r, hr⟩ := ih (by omega)
      exact ⟨r ++ tokP w1 w2 (b j) (L j) (D j), by show preP w1 w2 b L D j ++ _ = _; rw [hr, List.append_assoc]⟩
theorem preP_fit {l1 l2 : Nat → Nat} {N1 N2 : Nat} {b L D : Nat → Nat} {n : Nat} (h : ∀ i, i < n → Tok (b i) (L i) (D i)) : Fit (preP (word l1 N1) (word l2 N2) b L D n) := by
  induction n with
  | zero => exact Fit.nil
  | succ n ih => exact Fit.append (ih (fun i hi => h i (by omega))) (tokP_fit (h n (by omega)))

theorem toks_run {V nb most k : Nat} {l1 : Nat → Nat} {N1 : Nat} {l2 : Nat → Nat} {N2 n : Nat} {b L D : Nat → Nat} (h1 : ∀ x, x < N1 → l1 x ≤ 15) (h2 : ∀ x, x < N2 → l2 x ≤ 15) (k1 : all l1 N1 ≤ 2 ^ 15) (k2 : all l2 N2 ≤ 2 ^ 15)
    (ht : ∀ i, i < n → Tok (b i) (L i) (D i)) (hu : ∀ i, i < n → Uses l1 N1 l2 N2 (b i) (L i) (D i)) (hd : ∀ i, i < n → L i ≠ 0 → D i ≤ (preO b L D i).length) (hm : (preO b L D n).length ≤ most)
    (he : 256 < N1) (he0 : 0 < l1 256) (hat : At V nb k (preP (word l1 N1) (word l2 N2) b L D n ++ [word l1 N1 256])) :
    Run (tokStep V nb most l1 N1 l2 N2) (k, []) (.ok (k + len (preP (word l1 N1) (word l2 N2) b L D n ++ [word l1 N1 256])) (preO b L D n)) := by
  obtain ⟨ha, hb⟩ := At.split (preP_fit ht) hat
  have key : ∀ i, i ≤ n → ∀ r, Run (tokStep V nb most l1 N1 l2 N2) (k + len (preP (word l1 N1) (word l2 N2) b L D i), preO b L D i) r → Run (tokStep V nb most l1 N1 l2 N2) (k, []) r := by
    intro i
    induction i with
    | zero => intro _ r hr; simpa [preP, preO, len] using hr
    | succ i ih =>
      intro hi r hr
      refine ih (by omega) r (.more (s' := (k + len (preP (word l1 N1) (word l2 N2) b L D (i + 1)), preO b L D (i + 1))) ?_ hr)
      obtain ⟨q, hq⟩ := preP_front (word l1 N1) (word l2 N2) b L D (i := i + 1) (j := n) hi
      rw [hq] at ha
      have h3 := (At.split (preP_fit (fun j hj => ht j (by omega))) ha).1
      have h4 := (At.split (a := preP (word l1 N1) (word l2 N2) b L D i) (b := tokP (word l1 N1) (word l2 N2) (b i) (L i) (D i)) (preP_fit (fun j hj => ht j (by omega))) h3).2
      rw [tok_step h1 h2 k1 k2 (ht i (by omega)) (hu i (by omega)) (hd i (by omega)) (Nat.le_trans (preO_mono b L D (i := i + 1) hi) hm) h4]
      simp only [preP, preO, len_append, Nat.add_assoc]
  refine key n (Nat.le_refl _) _ (.done ?_)
  rw [end_step h1 k1 he he0 hb]
  simp [len_append, len, word, Nat.add_assoc]
end Go.Proofs.YtbbcfghlhgaofadGreatDoor.Ps
