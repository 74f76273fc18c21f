/- Unlike pixels in the order in which they come first, and the number of each. Plain. -/
import Derived.Test.YtpfobocdbmiagaaDoorPx0
namespace Go.Proofs.YtpfobocdbmiagaaDoor

/-- One more pixel. -/
def addP (l : List Px) (x : Px) : List Px := if x ∈ l then l else l ++ [x]
/-- The unlike ones of the first pixels. -/
def ulk (p : Nat → Px) : Nat → List Px
  | 0 => []
  | i + 1 => addP (ulk p i) (p i)
/-- The number of the i-th pixel. -/
def nmb (p : Nat → Px) (i : Nat) : Nat := (ulk p (i + 1)).idxOf (p i)
/-- What a map tells of a list. -/
def told1 (l : List Px) (x : Px) : Option Nat := if x ∈ l then some (l.idxOf x) else none

theorem addP_mem (l : List Px) (x : Px) : x ∈ addP l x := by
  unfold addP
  split
  · assumption
  · simp
theorem addP_len (l : List Px) (x : Px) : l.length ≤ (addP l x).length ∧ (addP l x).length ≤ l.length + 1 := by
  unfold addP
  split <;> simp
theorem addP_nodup {l : List Px} (h : l.Nodup) (x : Px) : (addP l x).Nodup := by
  unfold addP
  split
  · exact h
  · rename_i hx
    rw [List.nodup_append]
    exact ⟨h, by simp, fun a ha b hb => by
      simp only [List.mem_singleton] at hb
      subst hb
      intro e
      subst e
      exact hx ha⟩
theorem idx_left {l r : List Px} {x : Px} (h : x ∈ l) : (l ++ r).idxOf x = l.idxOf x := by
  rw [List.idxOf_append, if_pos h]
theorem idx_new {l : List Px} {x : Px} (h : x ∉ l) : (l ++ [x]).idxOf x = l.length := by
  rw [List.idxOf_append, if_neg h]
  simp
theorem addP_keep {l : List Px} {x y : Px} (h : y ∈ l) : (addP l x).idxOf y = l.idxOf y := by
  unfold addP
  split
  · rfl
  · exact idx_left h
theorem told1_new (l : List Px) (x y : Px) (h : x ∉ l) : told1 (addP l x) y = if y = x then some l.length else told1 l y := by
  unfold told1 addP
  rw [if_neg h]
  by_cases e : y = x
  · subst e
    rw [if_pos rfl, if_pos (by simp), idx_new h]
  · rw [if_neg e]
    by_cases hy : y ∈ l
    · rw [if_pos hy, if_pos (by simp [hy]), idx_left hy]
    · rw [if_neg hy, if_neg (by simp [hy, e])]
theorem told1_old (l : List Px) (x : Px) (h : x ∈ l) : told1 l x = some (l.idxOf x) := by unfold told1; rw [if_pos h]
theorem told1_no (l : List Px) (x : Px) (h : x ∉ l) : told1 l x = none := by unfold told1; rw [if_neg h]

theorem ulk_nodup (p : Nat → Px) (n : Nat) : (ulk p n).Nodup := by
  induction n with
  | zero => exact List.nodup_nil
  | succ n ih => exact addP_nodup ih _
theorem ulk_len (p : Nat → Px) (n : Nat) : (ulk p n).length ≤ n := by
  induction n with
  | zero => exact Nat.le_refl _
  | succ n ih => have := (addP_len (ulk p n) (p n)).2; show (addP _ _).length ≤ _; omega
theorem ulk_front (p : Nat → Px) {i j : Nat} (h : i ≤ j) : ∃ r, ulk p j = ulk p i ++ r := by
  induction j with
  | zero => obtain rfl : i = 0 := by omega
            exact ⟨[], by simp⟩
  | succ j ih =>
    rcases Nat.lt_or_ge j i with c | c
    · obtain rfl : i = j + 1 := by omega
      exact ⟨[], by simp⟩
    · obtain ⟨r, hr⟩ := ih c
      show ∃ r, addP (ulk p j) (p j) = _
      unfold addP
      split
      · exact ⟨r, hr⟩
      · exact ⟨r ++ [p j], by rw [hr, List.append_assoc]⟩
theorem ulk_has (p : Nat → Px) {i n : Nat} (h : i < n) : p i ∈ ulk p n := by
  obtain ⟨r, hr⟩ := ulk_front p (show i + 1 ≤ n from h)
  rw [hr]
  exact List.mem_append_left _ (addP_mem _ _)
theorem nmb_is (p : Nat → Px) {i n : Nat} (h : i < n) : nmb p i = (ulk p n).idxOf (p i) := by
  obtain ⟨r, hr⟩ := ulk_front p (show i + 1 ≤ n from h)
  rw [hr, idx_left (ulk_has p (show i < i + 1 by omega))]
  rfl
theorem nmb_lt (p : Nat → Px) {i n : Nat} (h : i < n) : nmb p i < (ulk p n).length := by
  rw [nmb_is p h]
  exact List.idxOf_lt_length_of_mem (ulk_has p h)
theorem nmb_at (p : Nat → Px) {i n : Nat} (h : i < n) : (ulk p n)[nmb p i]? = some (p i) := by
  rw [nmb_is p h, List.getElem?_eq_getElem (List.idxOf_lt_length_of_mem (ulk_has p h))]
  congr 1
  exact List.getElem_idxOf _
theorem ulk_mono (p : Nat → Px) {i j : Nat} (h : i ≤ j) : (ulk p i).length ≤ (ulk p j).length := by
  obtain ⟨r, hr⟩ := ulk_front p h
  rw [hr, List.length_append]
  omega
/-- Too many: the first whose number is 256. -/
theorem ulk_many (p : Nat → Px) {n : Nat} (h : 256 < (ulk p n).length) : ∃ i, i < n ∧ 256 ≤ nmb p i := by
  induction n with
  | zero => simp [ulk] at h
  | succ n ih =>
    rcases Nat.lt_or_ge 256 (ulk p n).length with c | c
    · obtain ⟨i, hi, hn⟩ := ih c
      exact ⟨i, by omega, hn⟩
    · refine ⟨n, by omega, ?_⟩
      have h1 : (ulk p (n + 1)).length ≤ (ulk p n).length + 1 := (addP_len _ _).2
      have h2 : p n ∉ ulk p n := fun hm => by
        have : ulk p (n + 1) = ulk p n := by show addP _ _ = _; unfold addP; rw [if_pos hm]
        rw [this] at h
        omega
      unfold nmb
      have e : ulk p (n + 1) = ulk p n ++ [p n] := by show addP _ _ = _; unfold addP; rw [if_neg h2]
      rw [e, idx_new h2]
      rw [e] at h
      simp at h
      omega
end Go.Proofs.YtpfobocdbmiagaaDoor
