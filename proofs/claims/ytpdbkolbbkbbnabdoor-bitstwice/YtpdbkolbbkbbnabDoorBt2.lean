/- Plain facts on bits that are put one behind the other: each number is where it was put. -/
import Derived.Test.YtpdbkolbbkbbnabDoorBt
namespace Go.Proofs.YtpdbkolbbkbbnabDoor.Bt

/-- How many bits there are, and their number, behind the first k pieces. -/
def st (pn pd : Nat → Nat) (pa : Nat → Bool) : Nat → Nat × Nat
  | 0 => (0, 0)
  | k + 1 => if pa k then (8 * (((st pn pd pa k).1 + 7) / 8), (st pn pd pa k).2) else ((st pn pd pa k).1 + pd k, (st pn pd pa k).2 + 2 ^ (st pn pd pa k).1 * pn k)

variable {pn pd : Nat → Nat} {pa : Nat → Bool}

theorem st_align (k : Nat) (h : pa k = true) : st pn pd pa (k + 1) = (8 * (((st pn pd pa k).1 + 7) / 8), (st pn pd pa k).2) := by simp [st, h]
theorem st_put (k : Nat) (h : pa k = false) : st pn pd pa (k + 1) = ((st pn pd pa k).1 + pd k, (st pn pd pa k).2 + 2 ^ (st pn pd pa k).1 * pn k) := by simp [st, h]

theorem st_le (k j : Nat) : (st pn pd pa k).1 ≤ (st pn pd pa (k + j)).1 := by
  induction j with
  | zero => exact Nat.le_refl _
  | succ j ih =>
    refine Nat.le_trans ih ?_
    rw [← Nat.add_assoc]
    cases h : pa (k + j)
    · rw [st_put _ h]; simp
    · rw [st_align _ h]
      show (st pn pd pa (k + j)).1 ≤ 8 * (((st pn pd pa (k + j)).1 + 7) / 8)
      omega

theorem st_small (k : Nat) (h : ∀ i, i < k → pa i = false → pd i ≤ 32) : (st pn pd pa k).1 ≤ 40 * k := by
  induction k with
  | zero => simp [st]
  | succ k ih =>
    have := ih (fun i hi => h i (by omega))
    cases hp : pa k
    · rw [st_put _ hp]
      have := h k (by omega) hp
      show (st pn pd pa k).1 + pd k ≤ _
      omega
    · rw [st_align _ hp]
      show 8 * (((st pn pd pa k).1 + 7) / 8) ≤ _
      omega

theorem st_fits (k : Nat) (h : ∀ i, i < k → pa i = false → pn i < 2 ^ pd i) : (st pn pd pa k).2 < 2 ^ (st pn pd pa k).1 := by
  induction k with
  | zero => simp [st]
  | succ k ih =>
    have := ih (fun i hi => h i (by omega))
    cases hp : pa k
    · rw [st_put _ hp]
      exact lt_more _ _ _ _ this (h k (by omega) hp)
    · rw [st_align _ hp]
      exact lt_wide this (by show (st pn pd pa k).1 ≤ 8 * (((st pn pd pa k).1 + 7) / 8); omega)

theorem st_low (k j : Nat) (h : ∀ i, i < k + j → pa i = false → pn i < 2 ^ pd i) : (st pn pd pa (k + j)).2 % 2 ^ (st pn pd pa k).1 = (st pn pd pa k).2 := by
  induction j with
  | zero => exact Nat.mod_eq_of_lt (st_fits k h)
  | succ j ih =>
    have := ih (fun i hi => h i (by omega))
    rw [← Nat.add_assoc]
    cases hp : pa (k + j)
    · rw [st_put _ hp]
      show ((st pn pd pa (k + j)).2 + 2 ^ (st pn pd pa (k + j)).1 * pn (k + j)) % _ = _
      obtain ⟨e, he⟩ := Nat.le.dest (st_le (pn := pn) (pd := pd) (pa := pa) k j)
      rw [← he, Nat.pow_add, Nat.mul_assoc, Nat.add_mul_mod_self_left]
      exact this
    · rw [st_align _ hp]
      exact this

theorem st_get (k len : Nat) (hk : k < len) (hp : pa k = false) (h : ∀ i, i < len → pa i = false → pn i < 2 ^ pd i) :
    (st pn pd pa len).2 / 2 ^ (st pn pd pa k).1 % 2 ^ pd k = pn k := by
  obtain ⟨e, rfl⟩ := Nat.le.dest hk
  have h1 := st_low (pn := pn) (pd := pd) (pa := pa) (k + 1) e h
  have h0 := st_fits (pn := pn) (pd := pd) (pa := pa) k (fun i hi => h i (by omega))
  rw [st_put _ hp] at h1
  simp only at h1
  rw [← Nat.mod_mul_right_div_self, ← Nat.pow_add]
  have e2 : k.succ + e = k + 1 + e := rfl
  rw [e2, h1, Nat.add_mul_div_left _ _ (Nat.two_pow_pos _), Nat.div_eq_of_lt h0, Nat.zero_add]

end Go.Proofs.YtpdbkolbbkbbnabDoor.Bt
