/- Pieces of bits, one behind the other, and what is read of them. The head of a dynamic block, plainly: steps of a row of lengths, and how they are read. No Go stands here. -/
import Derived.Test.YtfeljhikeddodaeGreatDoorMg1
import Derived.Test.YtfeljhikeddodaeGreatDoorMg3
namespace Go.Proofs.YtfeljhikeddodaeGreatDoor.Ps
open Pm Cn Nf

theorem At.got {V nb k : Nat} {p : Pc} (h : At V nb k [p]) : get V nb k p.2 = some p.1 := by rw [get_some h.one.1, h.one.2]
theorem bit_rev (n w i : Nat) (h : i < w) : Bt.bit (Bt.rev n w) i = Bt.bit n (w - 1 - i) := by
  rw [← Bt.top_all]
  have key : ∀ k, k ≤ w → ∀ i, i < k → Bt.bit (Bt.top n w k) i = Bt.bit n (w - 1 - i) := by
    intro k
    induction k with
    | zero => intro _ i hi; omega
    | succ k ih =>
      intro hk i hi
      have e := Bt.top_succ 0 0 n w k
      simp only [Nat.pow_zero, Nat.one_mul, Nat.zero_add] at e
      rw [e]
      by_cases c : i < k
      · rw [Bt.bit_low k _ _ i c]; exact ih (by omega) i c
      · have : i = k := by omega
        subst this
        have := Bt.bit_high i (Bt.top n w i) (Bt.bit n (w - 1 - i)) 0 (Bt.top_lt n w i)
        rw [Nat.add_zero] at this
        rw [this]
        unfold Bt.bit
        simp
  exact key w (Nat.le_refl _) i h

theorem hv_of_bits (V k n : Nat) : ∀ w, (∀ i, i < w → V / 2 ^ (k + i) % 2 = n / 2 ^ (w - 1 - i) % 2) → hv V k w = n % 2 ^ w := by
  intro w
  induction w generalizing n with
  | zero => intro _; simp [hv, Nat.mod_one]
  | succ w ih =>
    intro h
    show 2 * hv V k w + V / 2 ^ (k + w) % 2 = _
    rw [h w (by omega), ih (n / 2) (fun i hi => by
      rw [h i (by omega), Nat.div_div_eq_div_mul, ← Nat.pow_succ', show w + 1 - 1 - i = w - 1 - i + 1 by omega])]
    rw [show w + 1 - 1 - w = 0 by omega, Nat.pow_zero, Nat.div_one, Nat.pow_succ', Nat.mod_mul]
    omega
theorem hv_rev {V k n w : Nat} (hn : n < 2 ^ w) (h : V / 2 ^ k % 2 ^ w = Bt.rev n w) : hv V k w = n := by
  rw [hv_of_bits V k n w (fun i hi => ?_), Nat.mod_eq_of_lt hn]
  have h1 := bit_rev n w i hi
  rw [← h] at h1
  have h2 := Bt.bit_mod (V / 2 ^ k) w i hi
  rw [h2] at h1
  unfold Bt.bit at h1
  rw [Nat.div_div_eq_div_mul, ← Nat.pow_add] at h1
  exact h1

/-- The word of symbol i. -/
def word (l : Nat → Nat) (N i : Nat) : Pc := (Bt.rev (code l N i) (l i), l i)
theorem word_fit (l : Nat → Nat) (N i : Nat) : (word l N i).1 < 2 ^ (word l N i).2 := Bt.rev_lt _ _
theorem At.word {V nb k N i : Nat} {l : Nat → Nat} (hl : ∀ x, x < N → l x ≤ 15) (hi : i < N) (h0 : 0 < l i) (hc : code l N i < 2 ^ l i) (h : At V nb k [word l N i]) : wd V nb l N k = some i :=
  wd_some hl ⟨hi, h0, h.one.1, hv_rev hc h.one.2⟩

/-! ### Places in a row -/
/-- The last place up to k whose number is not above n. -/
def plU (row : List Nat) (n : Nat) : Nat → Nat
  | 0 => 0
  | k + 1 => if row.getD (k + 1) 0 ≤ n then k + 1 else plU row n k
def pl (row : List Nat) (n : Nat) : Nat := plU row n (row.length - 1)

theorem plU_le (row : List Nat) (n k : Nat) : plU row n k ≤ k := by
  induction k with
  | zero => exact Nat.le_refl _
  | succ k ih => unfold plU; split <;> omega
theorem plU_at (row : List Nat) (n k : Nat) (h : row.getD 0 0 ≤ n) : row.getD (plU row n k) 0 ≤ n := by
  induction k with
  | zero => exact h
  | succ k ih =>
    unfold plU
    split
    · assumption
    · exact ih
theorem plU_above (row : List Nat) (n k j : Nat) (h : plU row n k < j) (hj : j ≤ k) : n < row.getD j 0 := by
  induction k with
  | zero => omega
  | succ k ih =>
    unfold plU at h
    split at h
    · omega
    · next e =>
      by_cases c : j = k + 1
      · subst c; omega
      · exact ih h (by omega)
theorem plU_is {row : List Nat} {n k j : Nat} (h0 : row.getD j 0 ≤ n) (hj : j ≤ k) (h1 : ∀ i, j < i → i ≤ k → n < row.getD i 0) : plU row n k = j := by
  induction k with
  | zero => unfold plU; omega
  | succ k ih =>
    unfold plU
    by_cases c : j = k + 1
    · subst c; rw [if_pos h0]
    · rw [if_neg (by have := h1 (k + 1) (by omega) (Nat.le_refl _); omega)]
      exact ih (by omega) (fun i h2 h3 => h1 i h2 (by omega))

theorem lens_gap : ∀ c, c < 28 → lens.getD (c + 1) 0 ≤ lens.getD c 0 + 2 ^ lenBits c := by decide +kernel
theorem dists_gap : ∀ c, c < 29 → dists.getD (c + 1) 0 ≤ dists.getD c 0 + 2 ^ distBits c := by decide +kernel
theorem lens_up : ∀ i, i < 29 → ∀ j, j < 29 → i ≤ j → lens.getD i 0 ≤ lens.getD j 0 := by decide +kernel
theorem dists_up : ∀ i, i < 30 → ∀ j, j < 30 → i ≤ j → dists.getD i 0 ≤ dists.getD j 0 := by decide +kernel

theorem pl_lens {n : Nat} (h : 3 ≤ n ∧ n ≤ 258) : pl lens n < 29 ∧ lens.getD (pl lens n) 0 ≤ n ∧ n - lens.getD (pl lens n) 0 < 2 ^ lenBits (pl lens n) := by
  have h1 : pl lens n ≤ 28 := plU_le _ _ _
  have h2 : lens.getD (pl lens n) 0 ≤ n := plU_at _ _ _ h.1
  refine ⟨by omega, h2, ?_⟩
  by_cases c : pl lens n = 28
  · rw [c] at h2 ⊢
    have : lens.getD 28 0 = 258 := rfl
    have e : lenBits 28 = 0 := rfl
    rw [this] at h2 ⊢
    rw [e]; omega
  · have h3 : n < lens.getD (pl lens n + 1) 0 := plU_above _ _ _ _ (Nat.lt_succ_self _) (show pl lens n + 1 ≤ 28 by omega)
    have := lens_gap (pl lens n) (by omega)
    omega
theorem pl_dists {n : Nat} (h : 1 ≤ n ∧ n ≤ 32768) : pl dists n < 30 ∧ dists.getD (pl dists n) 0 ≤ n ∧ n - dists.getD (pl dists n) 0 < 2 ^ distBits (pl dists n) := by
  have h1 : pl dists n ≤ 29 := plU_le _ _ _
  have h2 : dists.getD (pl dists n) 0 ≤ n := plU_at _ _ _ h.1
  refine ⟨by omega, h2, ?_⟩
  by_cases c : pl dists n = 29
  · rw [c] at h2 ⊢
    have : dists.getD 29 0 = 24577 := rfl
    have e : distBits 29 = 13 := rfl
    rw [this] at h2 ⊢
    rw [e]; omega
  · have h3 : n < dists.getD (pl dists n + 1) 0 := plU_above _ _ _ _ (Nat.lt_succ_self _) (show pl dists n + 1 ≤ 29 by omega)
    have := dists_gap (pl dists n) (by omega)
    omega

/-! ### Tokens as pieces -/
def tokP (w1 w2 : Nat → Pc) (b L D : Nat) : List Pc :=
  if L = 0 then [w1 b] else [w1 (257 + pl lens L), (L - lens.getD (pl lens L) 0, lenBits (pl lens L)), w2 (pl dists D), (D - dists.getD (pl dists D) 0, distBits (pl dists D))]
/-- A byte, or a match. -/
def Tok (b L D : Nat) : Prop := if L = 0 then b < 256 else (3 ≤ L ∧ L ≤ 258) ∧ 1 ≤ D ∧ D ≤ 32768
/-- What is used has a word. -/
def Uses (l1 : Nat → Nat) (N1 : Nat) (l2 : Nat → Nat) (N2 b L D : Nat) : Prop :=
  if L = 0 then b < N1 ∧ 0 < l1 b else (257 + pl lens L < N1 ∧ 0 < l1 (257 + pl lens L)) ∧ pl dists D < N2 ∧ 0 < l2 (pl dists D)
/-- What it means. -/
def tokO (out : List UInt8) (b L D : Nat) : List UInt8 := if L = 0 then out ++ [UInt8.ofNat b] else copied out D L

theorem tokP_fit {l1 l2 : Nat → Nat} {N1 N2 b L D : Nat} (h : Tok b L D) : Fit (tokP (word l1 N1) (word l2 N2) b L D) := by
  unfold tokP Tok at *
  split
  · exact Fit.cons (word_fit _ _ _) Fit.nil
  · next e =>
    rw [if_neg e] at h
    exact Fit.cons (word_fit _ _ _) (Fit.cons (pl_lens h.1).2.2 (Fit.cons (word_fit _ _ _) (Fit.cons (pl_dists h.2).2.2 Fit.nil)))

theorem tok_step {V nb most k : Nat} {l1 : Nat → Nat} {N1 : Nat} {l2 : Nat → Nat} {N2 b L D : Nat} {out : List UInt8} (h1 : ∀ x, x < N1 → l1 x ≤ 15) (h2 : ∀ x, x < N2 → l2 x ≤ 15) (k1 : all l1 N1 ≤ 2 ^ 15) (k2 : all l2 N2 ≤ 2 ^ 15)
    (ht : Tok b L D) (hu : Uses l1 N1 l2 N2 b L D) (hd : L ≠ 0 → D ≤ out.length) (hm : (tokO out b L D).length ≤ most) (hat : At V nb k (tokP (word l1 N1) (word l2 N2) b L D)) :
    tokStep V nb most l1 N1 l2 N2 (k, out) = .more (k + len (tokP (word l1 N1) (word l2 N2) b L D), tokO out b L D) := by
  unfold tokP Tok Uses tokO at *
  by_cases e : L = 0
  · rw [if_pos e] at ht hu hm hat ⊢
    have hw := At.word h1 hu.1 hu.2 (code_lt l1 N1 b hu.1 hu.2 (h1 b hu.1) k1) hat
    unfold tokStep
    simp only [hw]
    rw [List.length_append] at hm
    simp only [List.length_singleton] at hm
    rw [if_pos ht, if_pos (by omega)]
    simp [len, word, if_pos e]
  · rw [if_neg e] at ht hu hm hat ⊢
    obtain ⟨p1, p2, p3⟩ := pl_lens ht.1
    obtain ⟨q1, q2, q3⟩ := pl_dists ht.2
    obtain ⟨a1, hat⟩ := At.cons (word_fit _ _ _) hat
    obtain ⟨a2, hat⟩ := At.cons p3 hat
    obtain ⟨a3, a4⟩ := At.cons (word_fit _ _ _) hat
    have hw1 := At.word h1 hu.1.1 hu.1.2 (code_lt l1 N1 _ hu.1.1 hu.1.2 (h1 _ hu.1.1) k1) a1
    have hw2 := At.word h2 hu.2.1 hu.2.2 (code_lt l2 N2 _ hu.2.1 hu.2.2 (h2 _ hu.2.1) k2) a3
    have g1 := a2.got
    have g2 := a4.got
    simp only [word] at g1 g2 hw2
    unfold tokStep
    simp only [hw1]
    rw [copied_length] at hm
    have hd' := hd e
    rw [if_neg (by omega), if_neg (by omega), if_neg (by omega), show 257 + pl lens L - 257 = pl lens L by omega, g1]
    simp only
    rw [hw2]
    simp only
    rw [if_neg (by omega), g2]
    simp only
    rw [if_neg (by omega), if_neg (by omega), show dists.getD (pl dists D) 0 + (D - dists.getD (pl dists D) 0) = D by omega, show lens.getD (pl lens L) 0 + (L - lens.getD (pl lens L) 0) = L by omega]
    simp only [len, word, Step.more.injEq, Prod.mk.injEq, if_neg e, and_true]
    omega
theorem end_step {V nb most k : Nat} {l1 : Nat → Nat} {N1 : Nat} {l2 : Nat → Nat} {N2 : Nat} {out : List UInt8} (h1 : ∀ x, x < N1 → l1 x ≤ 15) (k1 : all l1 N1 ≤ 2 ^ 15) (h : 256 < N1) (h0 : 0 < l1 256) (hat : At V nb k [word l1 N1 256]) :
    tokStep V nb most l1 N1 l2 N2 (k, out) = .done (.ok (k + l1 256) out) := by
  have hw := At.word h1 h h0 (code_lt l1 N1 256 h h0 (h1 256 h) k1) hat
  unfold tokStep
  simp only [hw]
  rfl

/-- The first n tokens of a row, as pieces; and what they mean. -/
def preP (w1 w2 : Nat → Pc) (b L D : Nat → Nat) : Nat → List Pc
  | 0 => []
  | i + 1 => preP w1 w2 b L D i ++ tokP w1 w2 (b i) (L i) (D i)
def preO (b L D : Nat → Nat) : Nat → List UInt8
  | 0 => []
  | i + 1 => tokO (preO b L D i) (b i) (L i) (D i)
theorem preO_mono (b L D : Nat → Nat) {i j : Nat} (h : i ≤ j) : (preO b L D i).length ≤ (preO b L D j).length := by
  induction j with
  | zero => have : i = 0 := by omega
            subst this; exact Nat.le_refl _
  | succ j ih =>
    by_cases c : i = j + 1
    · subst c; exact Nat.le_refl _
    · have := ih (by omega)
      show _ ≤ (tokO (preO b L D j) (b j) (L j) (D j)).length
      unfold tokO
      split
      · rw [List.length_append]; omega
      · rw [copied_length]; omega
theorem preP_front (w1 w2 : Nat → Pc) (b L D : Nat → Nat) {i j : Nat} (h : i ≤ j) : ∃ r, preP w1 w2 b L D j = preP w1 w2 b L D i ++ r := by
  induction j with
  | zero => have : i = 0 := by omega
            subst this; exact ⟨[], by simp⟩
  | succ j ih =>
    by_cases c : i = j + 1
    · subst c; exact ⟨[], by simp⟩
    · obtain ⟨r, hr⟩ := ih (by omega)
      exact ⟨r ++ tokP w1 w2 (b j) (L j) (D j), by show preP w1 w2 b L D j ++ _ = _; rw [hr, List.append_assoc]⟩
theorem preP_fit {l1 l2 : Nat → Nat} {N1 N2 : Nat} {b L D : Nat → Nat} {n : Nat} (h : ∀ i, i < n → Tok (b i) (L i) (D i)) : Fit (preP (word l1 N1) (word l2 N2) b L D n) := by
  induction n with
  | zero => exact Fit.nil
  | succ n ih => exact Fit.append (ih (fun i hi => h i (by omega))) (tokP_fit (h n (by omega)))

theorem toks_run {V nb most k : Nat} {l1 : Nat → Nat} {N1 : Nat} {l2 : Nat → Nat} {N2 n : Nat} {b L D : Nat → Nat} (h1 : ∀ x, x < N1 → l1 x ≤ 15) (h2 : ∀ x, x < N2 → l2 x ≤ 15) (k1 : all l1 N1 ≤ 2 ^ 15) (k2 : all l2 N2 ≤ 2 ^ 15)
    (ht : ∀ i, i < n → Tok (b i) (L i) (D i)) (hu : ∀ i, i < n → Uses l1 N1 l2 N2 (b i) (L i) (D i)) (hd : ∀ i, i < n → L i ≠ 0 → D i ≤ (preO b L D i).length) (hm : (preO b L D n).length ≤ most)
    (he : 256 < N1) (he0 : 0 < l1 256) (hat : At V nb k (preP (word l1 N1) (word l2 N2) b L D n ++ [word l1 N1 256])) :
    Run (tokStep V nb most l1 N1 l2 N2) (k, []) (.ok (k + len (preP (word l1 N1) (word l2 N2) b L D n ++ [word l1 N1 256])) (preO b L D n)) := by
  obtain ⟨ha, hb⟩ := At.split (preP_fit ht) hat
  have key : ∀ i, i ≤ n → ∀ r, Run (tokStep V nb most l1 N1 l2 N2) (k + len (preP (word l1 N1) (word l2 N2) b L D i), preO b L D i) r → Run (tokStep V nb most l1 N1 l2 N2) (k, []) r := by
    intro i
    induction i with
    | zero => intro _ r hr; simpa [preP, preO, len] using hr
    | succ i ih =>
      intro hi r hr
      refine ih (by omega) r (.more (s' := (k + len (preP (word l1 N1) (word l2 N2) b L D (i + 1)), preO b L D (i + 1))) ?_ hr)
      obtain ⟨q, hq⟩ := preP_front (word l1 N1) (word l2 N2) b L D (i := i + 1) (j := n) hi
      rw [hq] at ha
      have h3 := (At.split (preP_fit (fun j hj => ht j (by omega))) ha).1
      have h4 := (At.split (a := preP (word l1 N1) (word l2 N2) b L D i) (b := tokP (word l1 N1) (word l2 N2) (b i) (L i) (D i)) (preP_fit (fun j hj => ht j (by omega))) h3).2
      rw [tok_step h1 h2 k1 k2 (ht i (by omega)) (hu i (by omega)) (hd i (by omega)) (Nat.le_trans (preO_mono b L D (i := i + 1) hi) hm) h4]
      simp only [preP, preO, len_append, Nat.add_assoc]
  refine key n (Nat.le_refl _) _ (.done ?_)
  rw [end_step h1 k1 he he0 hb]
  simp [len_append, len, word, Nat.add_assoc]
end Go.Proofs.YtfeljhikeddodaeGreatDoor.Ps
namespace Go.Proofs.YtfeljhikeddodaeGreatDoor.Ps
open Pm Cn Nf

/-! ### Steps -/
abbrev Sp := Nat × Nat
/-- How many bits tell how many times more. -/
def more (i : Nat) : Nat := if i < 16 then 0 else againBits i
def stpP (w0 : Nat → Pc) (s : Sp) : List Pc := [w0 s.1, (s.2, more s.1)]
/-- A step more: what the row is. -/
def dec (row : List Nat) (s : Sp) : List Nat := if s.1 < 16 then row ++ [s.1] else row ++ List.replicate (againFrom s.1 + s.2) (againOf s.1 row)
/-- What a step may be, behind a row. -/
def OkS (row : List Nat) (s : Sp) : Prop := s.1 < 19 ∧ s.2 < 2 ^ more s.1 ∧ (s.1 = 16 → 0 < row.length)
/-- Steps, each behind what those ahead of it tell. -/
inductive Dec : List Nat → List Sp → List Nat → Prop where
  | nil (r : List Nat) : Dec r [] r
  | cons {r : List Nat} {s : Sp} {ss : List Sp} {r' : List Nat} (h : OkS r s) (t : Dec (dec r s) ss r') : Dec r (s :: ss) r'

theorem Dec.append {r m r' : List Nat} {a b : List Sp} (h : Dec r a m) (g : Dec m b r') : Dec r (a ++ b) r' := by
  induction h with
  | nil => exact g
  | cons h _ ih => exact .cons h (ih g)
theorem Dec.one {r : List Nat} {s : Sp} (h : OkS r s) : Dec r [s] (dec r s) := .cons h (.nil _)
theorem dec_more (r : List Nat) (s : Sp) : r.length < (dec r s).length := by
  unfold dec
  split
  · simp
  · rw [List.length_append, List.length_replicate]
    have : 3 ≤ againFrom s.1 := by unfold againFrom; split <;> omega
    omega
theorem Dec.le {r r' : List Nat} {ss : List Sp} (h : Dec r ss r') : r.length + ss.length ≤ r'.length := by
  induction h with
  | nil => simp
  | @cons r s ss r' h _ ih =>
    have := dec_more r s
    rw [List.length_cons]
    omega
theorem Dec.each {r r' : List Nat} {ss : List Sp} (h : Dec r ss r') : ∀ s ∈ ss, s.1 < 19 ∧ s.2 < 2 ^ more s.1 := by
  induction h with
  | nil => intro s hs; cases hs
  | cons h _ ih =>
    intro s hs
    rcases List.mem_cons.1 hs with rfl | hs
    · exact ⟨h.1, h.2.1⟩
    · exact ih s hs
theorem steps_fit {l0 : Nat → Nat} {ss : List Sp} (h : ∀ s ∈ ss, s.1 < 19 ∧ s.2 < 2 ^ more s.1) : Fit (ss.flatMap (stpP (word l0 19))) := by
  intro p hp
  obtain ⟨s, hs, hq⟩ := List.mem_flatMap.1 hp
  simp only [stpP, List.mem_cons, List.not_mem_nil, or_false] at hq
  rcases hq with rfl | rfl
  · exact word_fit _ _ _
  · exact (h s hs).2

/-- Steps are read. -/
theorem rows_run {V nb tot : Nat} {l0 : Nat → Nat} (hl : ∀ x, x < 19 → l0 x ≤ 15) (hk : all l0 19 ≤ 2 ^ 15) {r r' : List Nat} {ss : List Sp} (h : Dec r ss r') : ∀ {k : Nat}, (∀ s ∈ ss, 0 < l0 s.1) → At V nb k (ss.flatMap (stpP (word l0 19))) → r'.length = tot →
    Run (rowStep V nb tot l0) (k, r) (some (k + len (ss.flatMap (stpP (word l0 19))), r')) := by
  induction h with
  | nil r =>
    intro k _ _ ht
    refine .done ?_
    unfold rowStep
    rw [if_pos (by show tot ≤ r.length; omega)]
    rfl
  | @cons r s ss r' hs t ih =>
    intro k hp hat ht
    have h1 := t.le
    have h2 := dec_more r s
    obtain ⟨o1, o2, o3⟩ := hs
    have hcat : (s :: ss).flatMap (stpP (word l0 19)) = word l0 19 s.1 :: (s.2, more s.1) :: ss.flatMap (stpP (word l0 19)) := by simp [stpP]
    rw [hcat] at hat ⊢
    obtain ⟨a1, hat⟩ := At.cons (word_fit _ _ _) hat
    obtain ⟨a2, hat⟩ := At.cons o2 hat
    have h0 := hp s (by simp)
    have hw := At.word hl o1 h0 (code_lt l0 19 s.1 o1 h0 (hl _ o1) hk) a1
    have hg := a2.got
    simp only [word] at hg hat
    have ih2 := ih (fun x hx => hp x (by simp [hx])) hat ht
    have hlen : len (word l0 19 s.1 :: (s.2, more s.1) :: ss.flatMap (stpP (word l0 19))) = l0 s.1 + more s.1 + len (ss.flatMap (stpP (word l0 19))) := by
      simp only [len, word]; omega
    rw [hlen, show k + (l0 s.1 + more s.1 + len (ss.flatMap (stpP (word l0 19)))) = k + l0 s.1 + more s.1 + len (ss.flatMap (stpP (word l0 19))) by omega]
    refine .more ?_ ih2
    unfold rowStep
    rw [if_neg (by show ¬ tot ≤ r.length; omega)]
    simp only [hw]
    by_cases c : s.1 < 16
    · rw [if_pos c]
      have e : more s.1 = 0 := by unfold more; rw [if_pos c]
      unfold dec
      rw [if_pos c, e]
      rfl
    · rw [if_neg c]
      have e : more s.1 = againBits s.1 := by unfold more; rw [if_neg c]
      rw [e] at hg ⊢
      have hd : dec r s = r ++ List.replicate (againFrom s.1 + s.2) (againOf s.1 r) := by unfold dec; rw [if_neg c]
      have hdl : (dec r s).length = r.length + (againFrom s.1 + s.2) := by rw [hd, List.length_append, List.length_replicate]
      rw [if_neg (fun q => by have := o3 q.1; have := q.2; omega), hg]
      simp only
      rw [if_neg (by omega), hd]

/-! ### Codes without words at their ends -/
theorem upto_trim (f : Nat → Nat) {n N : Nat} (hn : n ≤ N) (h : ∀ j, n ≤ j → j < N → f j = 0) : upto f N = upto f n := by
  induction N with
  | zero => have : n = 0 := by omega
            subst this; rfl
  | succ N ih =>
    by_cases e : n = N + 1
    · subst e; rfl
    · show f N + upto f N = _
      rw [ih (by omega) (fun j h1 h2 => h j h1 (by omega)), h N (by omega) (by omega), Nat.zero_add]
theorem acc_trim (l : Nat → Nat) {n N : Nat} (hn : n ≤ N) (h : ∀ j, n ≤ j → j < N → l j = 0) (m i : Nat) : acc l N m i = acc l n m i := by
  unfold acc
  exact upto_trim _ hn (fun j h1 h2 => by rw [if_neg]; rw [h j h1 h2]; omega)
theorem code_trim (l : Nat → Nat) {n N : Nat} (hn : n ≤ N) (h : ∀ j, n ≤ j → j < N → l j = 0) (i : Nat) : code l N i = code l n i := by
  unfold code
  rw [acc_trim l hn h]
theorem all_trim (l : Nat → Nat) {n N : Nat} (hn : n ≤ N) (h : ∀ j, n ≤ j → j < N → l j = 0) : all l N = all l n := by
  unfold all
  exact upto_trim _ hn (fun j h1 h2 => by rw [if_neg]; rw [h j h1 h2]; omega)
theorem word_trim (l : Nat → Nat) {n N : Nat} (hn : n ≤ N) (h : ∀ j, n ≤ j → j < N → l j = 0) : word l N = word l n := by
  funext i
  unfold word
  rw [code_trim l hn h]
theorem right_trim (l : Nat → Nat) {n N : Nat} (hn : n ≤ N) (h : ∀ j, n ≤ j → j < N → l j = 0) (hr : Right l N) : Right l n := by
  have e1 : cnt l N = cnt l n := by
    unfold cnt
    exact upto_trim _ hn (fun j h1 h2 => by rw [if_neg]; rw [h j h1 h2]; omega)
  have e2 : ones l N = ones l n := by
    unfold ones
    exact upto_trim _ hn (fun j h1 h2 => by rw [if_neg]; rw [h j h1 h2]; omega)
  unfold Right at *
  rw [e1, e2, all_trim l hn h] at hr
  exact hr
theorem right_congr {l l' : Nat → Nat} {n : Nat} (h : ∀ i, i < n → l i = l' i) (hr : Right l n) : Right l' n := by
  have e1 : cnt l n = cnt l' n := upto_congr n (fun j hj => by rw [h j hj])
  have e2 : ones l n = ones l' n := upto_congr n (fun j hj => by rw [h j hj])
  have e3 : all l n = all l' n := upto_congr n (fun j hj => by rw [h j hj])
  unfold Right at *
  rw [e1, e2, e3] at hr
  exact hr

/-! ### The lengths of lengths -/
theorem len_threes (g : Nat → Nat) (n : Nat) : len ((List.range n).map fun j => (g j, 3)) = 3 * n := by
  induction n with
  | zero => rfl
  | succ n ih =>
    rw [List.range_succ, List.map_append, len_append, ih]
    simp [len]
    omega
theorem threes_fit (g : Nat → Nat) (n : Nat) (h : ∀ j, j < n → g j < 8) : Fit ((List.range n).map fun j => (g j, 3)) := by
  intro p hp
  obtain ⟨j, hj, rfl⟩ := List.mem_map.1 hp
  exact h j (List.mem_range.1 hj)
theorem threes_at {V nb k : Nat} (g : Nat → Nat) : ∀ (n : Nat), (∀ j, j < n → g j < 8) → At V nb k ((List.range n).map fun j => (g j, 3)) → ∀ c, c < n → V / 2 ^ (k + 3 * c) % 2 ^ 3 = g c := by
  intro n
  induction n with
  | zero => intro _ _ c hc; omega
  | succ n ih =>
    intro hg hat c hc
    rw [List.range_succ, List.map_append] at hat
    obtain ⟨h1, h2⟩ := At.split (threes_fit g n (fun j hj => hg j (by omega))) hat
    by_cases e : c = n
    · subst e
      rw [len_threes] at h2
      exact h2.one.2
    · exact ih (fun j hj => hg j (by omega)) h1 c (by omega)
theorem order_inj : ∀ a, a < 19 → ∀ b, b < 19 → order.getD a 0 = order.getD b 0 → a = b := by decide
theorem order_all : ∀ x, x < 19 → ∃ a, a < 19 ∧ order.getD a 0 = x := by decide
theorem small_at {V k : Nat} {l0 : Nat → Nat} : ∀ (n : Nat), n ≤ 19 → (∀ c, c < n → V / 2 ^ (k + 3 * c) % 2 ^ 3 = l0 (order.getD c 0)) → ∀ a, a < 19 → small V k n (order.getD a 0) = if a < n then l0 (order.getD a 0) else 0 := by
  intro n
  induction n with
  | zero => intro _ _ a _; rw [if_neg (by omega)]; rfl
  | succ n ih =>
    intro hn h a ha
    unfold small
    by_cases e : a = n
    · subst e
      rw [if_pos rfl, if_pos (by omega)]
      exact h a (by omega)
    · rw [if_neg (fun q => e (order_inj a ha n (by omega) q)), ih (by omega) (fun c hc => h c (by omega)) a ha]
      by_cases c : a < n
      · rw [if_pos c, if_pos (by omega)]
      · rw [if_neg c, if_neg (by omega)]
theorem small_is {V nb k nc : Nat} {l0 : Nat → Nat} (hn : nc ≤ 19) (h7 : ∀ x, x < 19 → l0 x ≤ 7) (hz : ∀ j, nc ≤ j → j < 19 → l0 (order.getD j 0) = 0) (hat : At V nb k ((List.range nc).map fun j => (l0 (order.getD j 0), 3))) : ∀ x, x < 19 → small V k nc x = l0 x := by
  intro x hx
  obtain ⟨a, ha, rfl⟩ := order_all x hx
  have ho : ∀ j, j < 19 → order.getD j 0 < 19 := by decide
  have h1 := threes_at (fun j => l0 (order.getD j 0)) nc (fun j hj => by have := h7 _ (ho j (by omega)); show l0 _ < 8; omega) hat
  rw [small_at nc hn h1 a ha]
  by_cases c : a < nc
  · rw [if_pos c]
  · rw [if_neg c, hz a (by omega) ha]

/-! ### The head, and the block -/
/-- What a dynamic block begins with, behind its kind. -/
def headP (ns nd nc : Nat) (l0 : Nat → Nat) (ss : List Sp) : List Pc :=
  [(ns - 257, 5), (nd - 1, 5), (nc - 4, 4)] ++ (((List.range nc).map fun j => (l0 (order.getD j 0), 3)) ++ ss.flatMap (stpP (word l0 19)))
/-- What is asked of them. -/
structure Hd (ns nd nc : Nat) (l0 l1 l2 : Nat → Nat) (ss : List Sp) : Prop where
  s : 257 ≤ ns ∧ ns ≤ 286
  d : 1 ≤ nd ∧ nd ≤ 30
  c : 4 ≤ nc ∧ nc ≤ 19
  seven : ∀ x, x < 19 → l0 x ≤ 7
  r0 : Right l0 19
  k0 : all l0 19 ≤ 2 ^ 15
  trim : ∀ j, nc ≤ j → j < 19 → l0 (order.getD j 0) = 0
  dec : Dec [] ss ((List.range ns).map l1 ++ (List.range nd).map l2)
  has : ∀ s ∈ ss, 0 < l0 s.1
  r1 : Right l1 ns
  r2 : Right l2 nd
  e : 0 < l1 256
theorem Hd.fit {ns nd nc : Nat} {l0 l1 l2 : Nat → Nat} {ss : List Sp} (h : Hd ns nd nc l0 l1 l2 ss) : Fit (headP ns nd nc l0 ss) := by
  have ho : ∀ j, j < 19 → order.getD j 0 < 19 := by decide
  have hs := h.s
  have hd := h.d
  have hc := h.c
  refine Fit.append (Fit.cons (by show ns - 257 < 2 ^ 5; omega) (Fit.cons (by show nd - 1 < 2 ^ 5; omega) (Fit.cons (by show nc - 4 < 2 ^ 4; omega) Fit.nil))) (Fit.append (threes_fit _ _ (fun j hj => by have := h.seven _ (ho j (by omega)); omega)) (steps_fit h.dec.each))
theorem row_one (l1 l2 : Nat → Nat) (ns nd i : Nat) (h : i < ns) : ((List.range ns).map l1 ++ (List.range nd).map l2).getD i 0 = l1 i := by
  rw [List.getD_eq_getElem?_getD, List.getElem?_append_left (by simpa using h)]
  simp [h]
theorem row_two (l1 l2 : Nat → Nat) (ns nd i : Nat) (h : i < nd) : ((List.range ns).map l1 ++ (List.range nd).map l2).getD (ns + i) 0 = l2 i := by
  rw [List.getD_eq_getElem?_getD, List.getElem?_append_right (by simp)]
  simp [h]
theorem dyn_head {V nb k ns nd nc : Nat} {l0 l1 l2 : Nat → Nat} {ss : List Sp} (h : Hd ns nd nc l0 l1 l2 ss) (hat : At V nb k (headP ns nd nc l0 ss)) :
    dyn V nb k = some (k + len (headP ns nd nc l0 ss), (List.range ns).map l1 ++ (List.range nd).map l2, ns) := by
  obtain ⟨s1, s2⟩ := h.s
  obtain ⟨d1, d2⟩ := h.d
  obtain ⟨c1, c2⟩ := h.c
  have ho : ∀ j, j < 19 → order.getD j 0 < 19 := by decide
  unfold headP at hat
  obtain ⟨a0, hat⟩ := At.split (Fit.cons (by show ns - 257 < 2 ^ 5; omega) (Fit.cons (by show nd - 1 < 2 ^ 5; omega) (Fit.cons (by show nc - 4 < 2 ^ 4; omega) Fit.nil))) hat
  obtain ⟨x1, a0⟩ := At.cons (by show ns - 257 < 2 ^ 5; omega) a0
  obtain ⟨x2, x3⟩ := At.cons (by show nd - 1 < 2 ^ 5; omega) a0
  have y1 := x1.one
  have y2 := x2.one
  have y3 := x3.one
  simp only at y1 y2 y3
  have hl3 : len [(ns - 257, 5), (nd - 1, 5), (nc - 4, 4)] = 14 := rfl
  rw [hl3] at hat
  obtain ⟨b1, b2⟩ := At.split (threes_fit _ _ (fun j hj => by have := h.seven _ (ho j (by omega)); omega)) hat
  rw [len_threes] at b2
  have hsm := small_is (V := V) (nb := nb) (k := k + 14) c2 h.seven h.trim b1
  have hb1 := b1.1
  rw [len_threes] at hb1
  have hrow := h.dec
  have htot : ((List.range ns).map l1 ++ (List.range nd).map l2).length = ns + nd := by simp
  have hrun := rows_run (V := V) (nb := nb) (tot := ns + nd) (fun x hx => by have := h.seven x hx; omega) h.k0 h.dec h.has b2 htot
  have e1 : V / 2 ^ k % 2 ^ 5 + 257 = ns := by rw [y1.2]; omega
  have e2 : V / 2 ^ (k + 5) % 2 ^ 5 + 1 = nd := by rw [y2.2]; omega
  have e3 : V / 2 ^ (k + 10) % 2 ^ 4 + 4 = nc := by
    have := y3.2
    rw [show k + 5 + 5 = k + 10 by omega] at this
    rw [this]; omega
  have hstep : rowStep V nb (ns + nd) (small V (k + 14) nc) = rowStep V nb (ns + nd) l0 := by
    funext s
    unfold rowStep
    rw [wd_congr hsm]
    split
    · rfl
    · split
      · rfl
      · next i hi => rw [hsm i (of_wd hi).1]
  unfold dyn
  rw [e1, e2, e3, hstep, if_neg (by have := y3.1; omega), if_neg (by omega), if_neg (by omega), if_neg (not_not_intro (right_congr (fun i hi => (hsm i hi).symm) h.r0)), run_of hrun]
  simp only
  rw [if_neg]
  · unfold headP
    rw [len_append, len_append, hl3, len_threes]
    congr 2
    omega
  · rintro (q | q | q)
    · exact q (right_congr (fun i hi => (row_one l1 l2 ns nd i hi).symm) h.r1)
    · exact q (right_congr (fun i hi => (row_two l1 l2 ns nd i hi).symm) h.r2)
    · rw [row_one l1 l2 ns nd 256 (by omega)] at q
      have := h.e
      omega
end Go.Proofs.YtfeljhikeddodaeGreatDoor.Ps
