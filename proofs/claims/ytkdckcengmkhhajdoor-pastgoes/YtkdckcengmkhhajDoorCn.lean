/- Plain facts on code words in their order: shorter ones ahead, of one length those of lesser symbols; no word begins another one. -/
import Derived.Test.YtkdckcengmkhhajDoorPm
namespace Go.Proofs.YtkdckcengmkhhajDoor.Cn
open Pm

/-- How much of the whole (2^15) the words take that come ahead of symbol i at length n. -/
def acc (l : Nat → Nat) (N n i : Nat) : Nat := upto (fun j => if 0 < l j ∧ (l j < n ∨ (l j = n ∧ j < i)) then 2 ^ (15 - l j) else 0) N

/-- All words together. -/
def all (l : Nat → Nat) (N : Nat) : Nat := upto (fun j => if 0 < l j then 2 ^ (15 - l j) else 0) N

/-- The word of a symbol. -/
def code (l : Nat → Nat) (N i : Nat) : Nat := if l i = 0 then 0 else acc l N (l i) i / 2 ^ (15 - l i)

theorem upto_single (i v m : Nat) : upto (fun j => if j = i then v else 0) m = if i < m then v else 0 := by
  induction m with
  | zero => rfl
  | succ m ih =>
    show (if m = i then v else 0) + upto (fun j => if j = i then v else 0) m = _
    rw [ih]
    by_cases e1 : m = i
    · subst e1; simp
    · rw [if_neg e1]
      by_cases e3 : i < m
      · rw [if_pos e3, if_pos (by omega)]; omega
      · rw [if_neg e3, if_neg (by omega)]

theorem acc_step (l : Nat → Nat) (N n i : Nat) (hn : 0 < n) (hi : i < N) : acc l N n (i + 1) = acc l N n i + if l i = n then 2 ^ (15 - n) else 0 := by
  have h := upto_single i (if l i = n then 2 ^ (15 - n) else 0) N
  rw [if_pos hi] at h
  rw [← h]
  unfold acc
  rw [← upto_add]
  refine upto_congr N (fun j _ => ?_)
  by_cases e : j = i
  · subst e
    rw [if_pos rfl]
    by_cases e2 : l j = n
    · rw [if_pos e2, if_pos ⟨by omega, .inr ⟨e2, by omega⟩⟩, if_neg (by omega), e2]; omega
    · rw [if_neg e2]
      by_cases e3 : 0 < l j ∧ l j < n
      · rw [if_pos ⟨e3.1, .inl e3.2⟩, if_pos ⟨e3.1, .inl e3.2⟩, Nat.add_zero]
      · rw [if_neg (by omega), if_neg (by omega)]
  · rw [if_neg e]
    by_cases e3 : 0 < l j ∧ (l j < n ∨ (l j = n ∧ j < i))
    · rw [if_pos (by omega), if_pos e3]; omega
    · rw [if_neg (by omega), if_neg e3]

theorem acc_next (l : Nat → Nat) (N n : Nat) : acc l N (n + 1) 0 = acc l N n N := by
  unfold acc
  refine upto_congr N (fun j hj => ?_)
  by_cases e3 : 0 < l j ∧ l j ≤ n
  · rw [if_pos (by omega), if_pos (by omega)]
  · rw [if_neg (by omega), if_neg (by omega)]

theorem acc_first (l : Nat → Nat) (N : Nat) : acc l N 1 0 = 0 := by
  unfold acc
  have : upto (fun j => if 0 < l j ∧ (l j < 1 ∨ (l j = 1 ∧ j < 0)) then 2 ^ (15 - l j) else 0) N = upto (fun _ => 0) N := upto_congr N (fun j _ => by rw [if_neg (by omega)])
  rw [this, upto_zero]

theorem acc_le_all (l : Nat → Nat) (N n i : Nat) : acc l N n i ≤ all l N := by
  unfold acc all
  refine upto_le (fun j => ?_) N
  by_cases e3 : 0 < l j ∧ (l j < n ∨ (l j = n ∧ j < i))
  · rw [if_pos e3, if_pos e3.1]; exact Nat.le_refl _
  · rw [if_neg e3]; exact Nat.zero_le _

theorem acc_mono (l : Nat → Nat) (N : Nat) {n i n' i' : Nat} (h : n < n' ∨ (n = n' ∧ i ≤ i')) : acc l N n i ≤ acc l N n' i' := by
  unfold acc
  refine upto_le (fun j => ?_) N
  by_cases e3 : 0 < l j ∧ (l j < n ∨ (l j = n ∧ j < i))
  · rw [if_pos e3, if_pos (by omega)]; exact Nat.le_refl _
  · rw [if_neg e3]; exact Nat.zero_le _

theorem acc_dvd (l : Nat → Nat) (N n i : Nat) : 2 ^ (15 - n) ∣ acc l N n i := by
  unfold acc
  have : ∀ m, 2 ^ (15 - n) ∣ upto (fun j => if 0 < l j ∧ (l j < n ∨ (l j = n ∧ j < i)) then 2 ^ (15 - l j) else 0) m := by
    intro m
    induction m with
    | zero => exact Nat.dvd_zero _
    | succ m ih =>
      show _ ∣ (if 0 < l m ∧ (l m < n ∨ (l m = n ∧ m < i)) then 2 ^ (15 - l m) else 0) + _
      refine Nat.dvd_add ?_ ih
      split
      · exact Nat.pow_dvd_pow 2 (by omega)
      · exact Nat.dvd_zero _
  exact this N

/-- A word takes its own part. -/
theorem acc_own (l : Nat → Nat) (N i : Nat) (hi : i < N) (h : 0 < l i) : acc l N (l i) (i + 1) = acc l N (l i) i + 2 ^ (15 - l i) := by
  rw [acc_step l N (l i) i h hi, if_pos rfl]

theorem code_mul (l : Nat → Nat) (N i : Nat) (h : 0 < l i) : code l N i * 2 ^ (15 - l i) = acc l N (l i) i := by
  unfold code
  rw [if_neg (by omega)]
  exact Nat.div_mul_cancel (acc_dvd l N (l i) i)

theorem code_lt (l : Nat → Nat) (N i : Nat) (hi : i < N) (h : 0 < l i) (h15 : l i ≤ 15) (hK : all l N ≤ 2 ^ 15) : code l N i < 2 ^ l i := by
  have h1 := acc_own l N i hi h
  have h2 := acc_le_all l N (l i) (i + 1)
  have h3 := code_mul l N i h
  have hp := Nat.two_pow_pos (15 - l i)
  have e : 2 ^ 15 = 2 ^ l i * 2 ^ (15 - l i) := by rw [← Nat.pow_add, show l i + (15 - l i) = 15 from by omega]
  rw [e] at hK
  refine Nat.lt_of_mul_lt_mul_right (a := 2 ^ (15 - l i)) ?_
  omega

/-- KRAFT: no word begins another one. -/
theorem apart (l : Nat → Nat) (N i k : Nat) (hi : i < N) (hk : k < N) (hik : i ≠ k) (h : 0 < l i) (hl : l i ≤ l k) (h15 : l k ≤ 15) : code l N k / 2 ^ (l k - l i) ≠ code l N i := by
  have hpi := Nat.two_pow_pos (15 - l i)
  have hck := code_mul l N k (by omega)
  have hci := code_mul l N i h
  have e : 2 ^ (15 - l i) = 2 ^ (l k - l i) * 2 ^ (15 - l k) := by rw [← Nat.pow_add, show l k - l i + (15 - l k) = 15 - l i from by omega]
  have hq : code l N k / 2 ^ (l k - l i) = acc l N (l k) k / 2 ^ (15 - l i) := by
    rw [← hck, e, Nat.mul_comm (2 ^ (l k - l i)), ← Nat.div_div_eq_div_mul, Nat.mul_div_cancel _ (Nat.two_pow_pos _)]
  rw [hq]
  intro hc
  by_cases hord : l i < l k ∨ i < k
  · have h1 := acc_mono l N (n := l i) (i := i + 1) (n' := l k) (i' := k) (by omega)
    rw [acc_own l N i hi h, ← hci] at h1
    have h2 : code l N i + 1 ≤ acc l N (l k) k / 2 ^ (15 - l i) := (Nat.le_div_iff_mul_le hpi).2 (by rw [Nat.add_mul, Nat.one_mul]; exact h1)
    omega
  · have hle : l k = l i := by omega
    have h1 := acc_mono l N (n := l k) (i := k + 1) (n' := l i) (i' := i) (by omega)
    rw [acc_own l N k hk (by omega), ← hci, hle] at h1
    rw [hle] at hc
    have h2 : acc l N (l i) k < code l N i * 2 ^ (15 - l i) := by omega
    have h3 := (Nat.div_lt_iff_lt_mul hpi).2 h2
    omega

/-- Where the words fill the whole, each row of bits begins with one: some symbol's word is the first of any 15 bits. -/
theorem found (l : Nat → Nat) (N x : Nat) (hl : ∀ j, j < N → l j ≤ 15) (hx : x < all l N) : ∃ i, i < N ∧ 0 < l i ∧ acc l N (l i) i ≤ x ∧ x < acc l N (l i) i + 2 ^ (15 - l i) := by
  have htop : acc l N 16 0 = all l N := by
    unfold acc all
    refine upto_congr N (fun j hj => ?_)
    have := hl j hj
    by_cases e : 0 < l j
    · rw [if_pos ⟨e, .inl (by omega)⟩, if_pos e]
    · rw [if_neg (by omega), if_neg e]
  have inner : ∀ n, 0 < n → ∀ i, i ≤ N → acc l N n 0 ≤ x → x < acc l N n i → ∃ k, k < N ∧ 0 < l k ∧ acc l N (l k) k ≤ x ∧ x < acc l N (l k) k + 2 ^ (15 - l k) := by
    intro n hn i
    induction i with
    | zero => intro _ h1 h2; omega
    | succ i ih =>
      intro hi h1 h2
      by_cases h3 : x < acc l N n i
      · exact ih (by omega) h1 h3
      · rw [acc_step l N n i hn (by omega)] at h2
        by_cases e : l i = n
        · rw [if_pos e] at h2
          exact ⟨i, by omega, by omega, by rw [e]; omega, by rw [e]; omega⟩
        · rw [if_neg e] at h2; omega
  have outer : ∀ m, x < acc l N (m + 1) 0 → ∃ k, k < N ∧ 0 < l k ∧ acc l N (l k) k ≤ x ∧ x < acc l N (l k) k + 2 ^ (15 - l k) := by
    intro m
    induction m with
    | zero => intro h; rw [acc_first] at h; omega
    | succ m ih =>
      intro h
      by_cases h1 : x < acc l N (m + 1) 0
      · exact ih h1
      · rw [acc_next] at h
        exact inner (m + 1) (by omega) N (Nat.le_refl _) (by omega) h
  exact outer 15 (by rw [htop]; exact hx)

end Go.Proofs.YtkdckcengmkhhajDoor.Cn
