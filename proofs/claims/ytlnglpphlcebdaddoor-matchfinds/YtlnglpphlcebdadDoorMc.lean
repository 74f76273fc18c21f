/- Chains of places with the same three bytes, plainly: the longest match by them. No Go stands here. -/
import Derived.Test.YtlnglpphlcebdadDoorMm
namespace Go.Proofs.YtlnglpphlcebdadDoor.Mm

section
variable (s : Nat → Nat) (n W : Nat)

/-- Three bytes at a place. -/
def keyAt (p : Nat) : Nat × Nat × Nat := (s p, s (p + 1), s (p + 2))
/-- One more than the last place ahead of a at which these bytes stand; 0: none. -/
def prev (k : Nat × Nat × Nat) : Nat → Nat
  | 0 => 0
  | a + 1 => if a + 3 ≤ n ∧ keyAt s a = k then a + 1 else prev k a

variable {s n W}

theorem prev_le (k : Nat × Nat × Nat) (a : Nat) : prev s n k a ≤ a := by
  induction a with
  | zero => exact Nat.le_refl _
  | succ a ih => unfold prev; split <;> omega
theorem prev_key {k : Nat × Nat × Nat} {a p : Nat} (h : prev s n k a = p + 1) : p < a ∧ p + 3 ≤ n ∧ keyAt s p = k := by
  induction a with
  | zero => cases h
  | succ a ih =>
    unfold prev at h
    split at h
    · next q => have : p = a := by omega
                subst this; exact ⟨by omega, q.1, q.2⟩
    · have := ih h; exact ⟨by omega, this.2⟩
theorem prev_max {k : Nat × Nat × Nat} {a f : Nat} (h : prev s n k a ≤ f) (hf : f < a) (h3 : f + 3 ≤ n) : keyAt s f ≠ k := by
  induction a with
  | zero => omega
  | succ a ih =>
    unfold prev at h
    split at h
    · omega
    · next q =>
      by_cases e : f = a
      · subst e; exact fun hk => q ⟨h3, hk⟩
      · exact ih h (by omega)

theorem key_of_same {f a k : Nat} (h : ∀ i, i < k → s (f + i) = s (a + i)) (hk : 3 ≤ k) : keyAt s f = keyAt s a := by
  unfold keyAt
  have h0 := h 0 (by omega)
  have h1 := h 1 (by omega)
  have h2 := h 2 (by omega)
  simp only [Nat.add_zero] at h0
  rw [h0, h1, h2]

/-- What a match is, or that there is none. -/
def Good (s : Nat → Nat) (W at_ most length behind : Nat) : Prop := (length = 0 ∧ behind = 0) ∨ (3 ≤ length ∧ length ≤ most ∧ 1 ≤ behind ∧ behind ≤ W ∧ behind ≤ at_ ∧ ∀ i, i < length → s (at_ - behind + i) = s (at_ + i))
/-- No match is longer. -/
def Best (s : Nat → Nat) (W at_ most length : Nat) : Prop := ∀ f, f < at_ → at_ - f ≤ W → ∀ k, k ≤ most → (∀ i, i < k → s (f + i) = s (at_ + i)) → 3 ≤ k → k ≤ length

/-- On the way: places from this one on are looked at. -/
structure Lg (s : Nat → Nat) (n W at_ most place length behind : Nat) : Prop where
  ok : Good s W at_ most length behind
  vis : ∀ f, f < at_ → place ≤ f → at_ - f ≤ W → ∀ k, k ≤ most → (∀ i, i < k → s (f + i) = s (at_ + i)) → 3 ≤ k → k ≤ length
  le : place ≤ at_
  key : ∀ p, place = p + 1 → p < at_ ∧ keyAt s p = keyAt s at_

variable {at_ most place length behind : Nat}

theorem Lg.start (h3 : at_ + 3 ≤ n) : Lg s n W at_ most (prev s n (keyAt s at_) at_) 0 0 :=
  ⟨.inl ⟨rfl, rfl⟩, fun f hf hp _ k _ he hk => absurd (key_of_same he hk) (prev_max hp hf (by omega)), prev_le _ _, fun p hp => ⟨(prev_key hp).1, (prev_key hp).2.2⟩⟩
theorem Lg.done0 (h : Lg s n W at_ most 0 length behind) : Best s W at_ most length := fun f hf hw k hk he h3 => h.vis f hf (Nat.zero_le _) hw k hk he h3
theorem Lg.doneM (hl : length = most) : Best s W at_ most length := fun f _ _ k hk _ _ => by omega
theorem Lg.doneW {p : Nat} (h : Lg s n W at_ most (p + 1) length behind) (hw : W < at_ - p) : Best s W at_ most length := fun f hf hfw k hk he h3 => by
  rcases Nat.lt_or_ge f (p + 1) with q | q
  · omega
  · exact h.vis f hf q hfw k hk he h3
/-- The next place of the chain, where this one has no longer match. -/
theorem Lg.next {p length' behind' : Nat} (h : Lg s n W at_ most (p + 1) length behind) (h3 : at_ + 3 ≤ n) (hl : length ≤ length') (hok : Good s W at_ most length' behind') (hp : ∀ k, k ≤ most → (∀ i, i < k → s (p + i) = s (at_ + i)) → 3 ≤ k → k ≤ length') :
    Lg s n W at_ most (prev s n (keyAt s p) p) length' behind' := by
  obtain ⟨h1, h2⟩ := h.key p rfl
  refine ⟨hok, fun f hf hpl hw k hk he hk3 => ?_, ?_, fun q hq => ?_⟩
  · rcases Nat.lt_or_ge f p with c | c
    · have := prev_max hpl c (by omega)
      exact absurd ((key_of_same he hk3).trans h2.symm) this
    · rcases Nat.eq_or_lt_of_le c with c | c
      · subst c; exact hp k hk he hk3
      · have := h.vis f hf (by omega) hw k hk he hk3; omega
  · have := prev_le (s := s) (n := n) (keyAt s p) p; omega
  · have := prev_key hq; exact ⟨by omega, this.2.2.trans h2⟩
/-- Bytes that are the same, as many as there are. -/
def IsCl (s : Nat → Nat) (a b most m : Nat) : Prop := m ≤ most ∧ (∀ i, i < m → s (a + i) = s (b + i)) ∧ (m < most → s (a + m) ≠ s (b + m))
theorem IsCl.max {a b m k : Nat} (h : IsCl s a b most m) (hk : k ≤ most) (he : ∀ i, i < k → s (a + i) = s (b + i)) : k ≤ m := by
  rcases Nat.lt_or_ge m k with c | c
  · exact absurd (he m c) (h.2.2 (by omega))
  · exact c
end
end Go.Proofs.YtlnglpphlcebdadDoor.Mm
