/- Plain facts on words one behind the other. -/
import Derived.Test.YtebkinbkbololacDoorHuN
import Derived.Test.YtebkinbkbololacDoorBWT
namespace Go.Proofs.YtebkinbkbololacDoor
open Go.RowKit Pm Cn Cd

/-! ### Plain facts: words one behind the other -/
/-- How many bits; and the number that they are, the first one lowest. -/
def pk (l c : Nat → Nat) : List Nat → Nat × Nat
  | [] => (0, 0)
  | s :: r => (l s + (pk l c r).1, Bt.rev (c s) (l s) + 2 ^ l s * (pk l c r).2)

theorem pk_append (l c : Nat → Nat) (a b : List Nat) : pk l c (a ++ b) = ((pk l c a).1 + (pk l c b).1, (pk l c a).2 + 2 ^ (pk l c a).1 * (pk l c b).2) := by
  induction a with
  | nil => simp [pk]
  | cons s a ih =>
    simp only [List.cons_append, pk, ih]
    rw [Nat.add_assoc, Nat.pow_add, Nat.mul_add, Nat.add_assoc, Nat.mul_assoc]
theorem pk_one (l c : Nat → Nat) (a : List Nat) (s : Nat) : pk l c (a ++ [s]) = ((pk l c a).1 + l s, (pk l c a).2 + 2 ^ (pk l c a).1 * Bt.rev (c s) (l s)) := by
  rw [pk_append]; simp [pk]
theorem pk_lt (l c : Nat → Nat) (a : List Nat) : (pk l c a).2 < 2 ^ (pk l c a).1 := by
  induction a with
  | nil => simp [pk]
  | cons s a ih => exact Bt.lt_more (l s) _ _ _ (Bt.rev_lt _ _) ih
theorem pk_le (l c : Nat → Nat) (a : List Nat) (h : ∀ s ∈ a, l s ≤ 15) : (pk l c a).1 ≤ 15 * a.length := by
  induction a with
  | nil => simp [pk]
  | cons s a ih =>
    have := ih (fun x hx => h x (by simp [hx]))
    have := h s (by simp)
    simp only [pk, List.length_cons]; omega

theorem bit_rev (n w i : Nat) (h : i < w) : Bt.bit (Bt.rev n w) i = Bt.bit n (w - 1 - i) := by
  rw [← Bt.top_all]
  have key : ∀ k, k ≤ w → ∀ i, i < k → Bt.bit (Bt.top n w k) i = Bt.bit n (w - 1 - i) := by
    intro k
    induction k with
    | zero => intro _ i hi; omega
    | succ k ih =>
      intro hk i hi
      have e := Bt.top_succ 0 0 n w k
      simp only [Nat.pow_zero, Nat.one_mul, Nat.zero_add] at e
      rw [e]
      by_cases c : i < k
      · rw [Bt.bit_low k _ _ i c]; exact ih (by omega) i c
      · have : i = k := by omega
        subst this
        have := Bt.bit_high i (Bt.top n w i) (Bt.bit n (w - 1 - i)) 0 (Bt.top_lt n w i)
        rw [Nat.add_zero] at this
        rw [this]
        unfold Bt.bit
        simp
  exact key w (Nat.le_refl _) i h

/-- The bits of the i-th word, where they lie. -/
theorem pk_bits (l c : Nat → Nat) (a b : List Nat) (s j : Nat) (hj : j < l s) : Bt.bit (pk l c (a ++ s :: b)).2 ((pk l c a).1 + j) = Bt.bit (c s) (l s - 1 - j) := by
  rw [pk_append]
  show Bt.bit ((pk l c a).2 + 2 ^ (pk l c a).1 * (pk l c (s :: b)).2) _ = _
  rw [Bt.bit_high _ _ _ _ (pk_lt l c a)]
  show Bt.bit (Bt.rev (c s) (l s) + 2 ^ l s * (pk l c b).2) j = _
  rw [Bt.bit_low _ _ _ _ hj, bit_rev _ _ _ hj]

theorem tv_text (c N : Nat) (h : N < 2 ^ c) : tv ⟨(Bt.yl ((c + 7) / 8) N).toArray⟩ = N := by
  unfold tv
  rw [show (⟨(Bt.yl ((c + 7) / 8) N).toArray⟩ : ByteArray).data.toList = Bt.yl ((c + 7) / 8) N by simp, Bt.num_yl]
  refine Nat.mod_eq_of_lt (Nat.lt_of_lt_of_le h ?_)
  rw [Bt.pow256]
  exact Nat.pow_le_pow_right (by omega) (by omega)
theorem text_size (c N : Nat) : (⟨(Bt.yl ((c + 7) / 8) N).toArray⟩ : ByteArray).size = (c + 7) / 8 := by
  show (Bt.yl ((c + 7) / 8) N).toArray.size = _
  simp [Bt.yl_length]

/-- Those that are told: what was handed in, but for what has no word. -/
def told (l : Nat → Nat) (N : Nat) (y : Nat → Int) : Nat → List Nat
  | 0 => []
  | k + 1 => if 0 ≤ y k ∧ y k < N ∧ 0 < l (y k).toNat then told l N y k ++ [(y k).toNat] else told l N y k
theorem told_length (l : Nat → Nat) (N : Nat) (y : Nat → Int) (k : Nat) : (told l N y k).length ≤ k := by
  induction k with
  | zero => simp [told]
  | succ k ih =>
    unfold told
    split
    · rw [List.length_append, List.length_singleton]; omega
    · omega
theorem told_mem (l : Nat → Nat) (N : Nat) (y : Nat → Int) (k x : Nat) (h : x ∈ told l N y k) : x < N ∧ 0 < l x := by
  induction k with
  | zero => simp [told] at h
  | succ k ih =>
    unfold told at h
    split at h
    · rename_i c
      rcases List.mem_append.1 h with h | h
      · exact ih h
      · obtain rfl := List.mem_singleton.1 h
        exact ⟨by omega, c.2.2⟩
    · exact ih h
theorem told_yes (l : Nat → Nat) (N : Nat) (y : Nat → Int) (k s : Nat) (h : y k = s) (h1 : s < N) (h2 : 0 < l s) : told l N y (k + 1) = told l N y k ++ [s] := by
  conv => lhs; unfold told
  rw [h, if_pos ⟨by omega, by omega, by simpa using h2⟩]; rfl
theorem told_no (l : Nat → Nat) (N : Nat) (y : Nat → Int) (k : Nat) (h : ¬ (0 ≤ y k ∧ y k < N ∧ 0 < l (y k).toNat)) : told l N y (k + 1) = told l N y k := by
  conv => lhs; unfold told
  rw [if_neg h]
end Go.Proofs.YtebkinbkbololacDoor
