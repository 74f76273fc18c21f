/- Plain facts on packages that are merged (LARMORE and HIRSCHBERG): of a list in order that holds what is to be chosen from and pairs of the list below, the first ones weigh no more than any choice that is as wide. Plain facts on code words in their order: shorter ones ahead, of one length those of lesser symbols; no word begins another one. Walks of the document's own look at lengths, and of the statements' small helpers. -/
import Derived.Test.YtfeljhikeddodadGreatDoorMh1
import Derived.WalkLawsBesides
import Derived.WalkSpells
import Derived.Handy
import Derived.Laws.BitsAllLaws
import Derived.Laws.Shifts
import Derived.Deep.LoopGhost
import Derived.Deep.WholeRow
import Derived.Deep.AppendLies
import Derived.BigRegion
import Derived.Laws.ResultCell
namespace Go.Proofs.YtfeljhikeddodadGreatDoor.Pm

/-- The first k together. -/
def pre (l : List Nat) (k : Nat) : Nat := (l.take k).sum
/-- In order. -/
def Ord (l : List Nat) : Prop := l.Pairwise (· ≤ ·)
/-- Neighbours by twos; an odd last one is left out. -/
def pairs : List Nat → List Nat
  | a :: b :: r => (a + b) :: pairs r
  | _ => []
theorem pre_zero (l : List Nat) : pre l 0 = 0 := by simp [pre]
theorem pre_cons (a : Nat) (l : List Nat) (k : Nat) : pre (a :: l) (k + 1) = a + pre l k := by simp [pre]
theorem pre_succ (l : List Nat) (k : Nat) (h : k < l.length) : pre l (k + 1) = pre l k + l[k] := by
  unfold pre
  rw [List.take_succ_eq_append_getElem h, List.sum_append]
  simp
theorem pre_mono (l : List Nat) {k m : Nat} (h : k ≤ m) : pre l k ≤ pre l m := by
  induction l generalizing k m with
  | nil => simp [pre]
  | cons a l ih =>
    cases k with
    | zero => simp [pre]
    | succ k =>
      cases m with
      | zero => omega
      | succ m =>
        rw [pre_cons, pre_cons]
        have := ih (k := k) (m := m) (by omega)
        omega
theorem pairs_pre (p : Nat) (l : List Nat) : pre (pairs l) p ≤ pre l (2 * p) := by
  induction p generalizing l with
  | zero => simp [pre]
  | succ p ih =>
    match l with
    | [] => simp [pairs, pre]
    | [a] => simp [pairs, pre]
    | a :: b :: r =>
      rw [pairs, pre_cons, show 2 * (p + 1) = 2 * p + 1 + 1 from by omega, pre_cons, pre_cons]
      have := ih r
      omega
theorem pairs_length (l : List Nat) : (pairs l).length = l.length / 2 := by
  match l with
  | [] => rfl
  | [a] => simp [pairs]
  | a :: b :: r =>
    simp only [pairs, List.length_cons]
    rw [pairs_length r]
    omega
theorem ord_tail {a : Nat} {l : List Nat} (h : Ord (a :: l)) : Ord l := (List.pairwise_cons.1 h).2
theorem ord_head {a : Nat} {l : List Nat} (h : Ord (a :: l)) : ∀ b ∈ l, a ≤ b := (List.pairwise_cons.1 h).1
/-- Whatever is taken out of a list in order, its first ones weigh no more. -/
theorem pre_least (M S R : List Nat) (h : Ord M) (hp : M.Perm (S ++ R)) : pre M S.length ≤ S.sum := by
  induction M generalizing S R with
  | nil =>
    have := hp.length_eq
    simp at this
    rw [show S.length = 0 from by omega, pre_zero]
    exact Nat.zero_le _
  | cons m M ih =>
    have hm : m ∈ S ++ R := hp.subset (by simp)
    rcases List.mem_append.1 hm with hS | hR
    · have hs := List.perm_cons_erase hS
      have h1 : (m :: M).Perm (m :: (S.erase m ++ R)) := hp.trans ((hs.append_right R).trans (by simp))
      have h2 := ih (S.erase m) R (ord_tail h) ((List.perm_cons m).1 h1)
      have hl := hs.length_eq
      have hsum := hs.sum_nat
      rw [hl, hsum]
      simp only [List.length_cons, List.sum_cons]
      rw [pre_cons]
      omega
    · have hr := List.perm_cons_erase hR
      have h1 : (m :: M).Perm (m :: (S ++ R.erase m)) := hp.trans ((hr.append_left S).trans List.perm_middle)
      have h3 := (List.perm_cons m).1 h1
      have h2 := ih S (R.erase m) (ord_tail h) h3
      have hlen := h3.length_eq
      cases hk : S.length with
      | zero => simp [pre]
      | succ k =>
        rw [hk] at h2
        rw [pre_cons]
        have hkM : k < M.length := by rw [hlen, List.length_append]; omega
        rw [pre_succ M k hkM] at h2
        have := ord_head h M[k] (List.getElem_mem hkM)
        omega
/-- Of two lists, merged. -/
theorem merged (A B M : List Nat) (h : Ord M) (hp : M.Perm (A ++ B)) (s p : Nat) (hs : s ≤ A.length) (hq : p ≤ B.length) : pre M (s + p) ≤ pre A s + pre B p := by
  have h1 : (A ++ B).Perm ((A.take s ++ B.take p) ++ (A.drop s ++ B.drop p)) := by
    conv => lhs; rw [← List.take_append_drop s A, ← List.take_append_drop p B]
    rw [List.append_assoc, List.append_assoc]
    refine List.Perm.append_left _ ?_
    rw [← List.append_assoc, ← List.append_assoc]
    exact List.Perm.append_right _ List.perm_append_comm
  have h2 := pre_least M (A.take s ++ B.take p) _ h (hp.trans h1)
  rw [List.length_append, List.length_take, List.length_take, Nat.min_eq_left hs, Nat.min_eq_left hq, List.sum_append] at h2
  exact h2
/-- How wide a choice of s j out of each list is, in units of the last one. -/
def tot (s : Nat → Nat) : Nat → Nat
  | 0 => s 0
  | D + 1 => s (D + 1) + tot s D / 2
def wide (s : Nat → Nat) : Nat → Nat
  | 0 => s 0
  | D + 1 => s (D + 1) * 2 ^ (D + 1) + wide s D
theorem tot_wide (s : Nat → Nat) (D : Nat) : tot s D = wide s D / 2 ^ D := by
  induction D with
  | zero => simp [tot, wide]
  | succ D ih =>
    rw [tot, wide, ih, Nat.mul_comm, Nat.mul_add_div (Nat.two_pow_pos _), Nat.div_div_eq_div_mul, Nat.pow_succ]
def weigh (A : List Nat) (s : Nat → Nat) : Nat → Nat
  | 0 => pre A (s 0)
  | D + 1 => pre A (s (D + 1)) + weigh A s D
/-- THE BOUND: no choice that is as wide weighs less. -/
theorem bound (A : List Nat) (P : Nat → List Nat) (h0 : P 0 = A) (hP : ∀ j, Ord (P (j + 1)) ∧ (P (j + 1)).Perm (A ++ pairs (P j))) (s : Nat → Nat) (hs : ∀ j, s j ≤ A.length) :
    ∀ D x, x ≤ tot s D → pre (P D) x ≤ weigh A s D ∧ tot s D ≤ (P D).length := by
  intro D
  induction D with
  | zero =>
    intro x hx
    rw [h0]
    exact ⟨pre_mono A hx, hs 0⟩
  | succ D ih =>
    intro x hx
    obtain ⟨h1, h2⟩ := ih (2 * (tot s D / 2)) (by omega)
    obtain ⟨ho, hp⟩ := hP D
    have hl : tot s D / 2 ≤ (pairs (P D)).length := by rw [pairs_length]; omega
    have h3 := merged A (pairs (P D)) (P (D + 1)) ho hp (s (D + 1)) (tot s D / 2) (hs _) hl
    have h4 := pairs_pre (tot s D / 2) (P D)
    have h5 := pre_mono (P (D + 1)) hx
    refine ⟨?_, ?_⟩
    · show _ ≤ pre A (s (D + 1)) + weigh A s D
      simp only [tot] at h5
      omega
    · have := hp.length_eq
      rw [this, List.length_append]
      have := hs (D + 1)
      simp only [tot]
      omega
/-! ### Lengths: how many are at least so long, and what they cost. -/

/-- Up to a level. -/
def upto (f : Nat → Nat) : Nat → Nat
  | 0 => 0
  | r + 1 => f r + upto f r
theorem upto_add (f g : Nat → Nat) (r : Nat) : upto (fun j => f j + g j) r = upto f r + upto g r := by
  induction r with
  | zero => rfl
  | succ r ih => simp only [upto]; rw [ih]; omega
theorem upto_le {f g : Nat → Nat} (h : ∀ j, f j ≤ g j) (r : Nat) : upto f r ≤ upto g r := by
  induction r with
  | zero => exact Nat.le_refl _
  | succ r ih => simp only [upto]; have := h r; omega
theorem upto_congr {f g : Nat → Nat} (r : Nat) (h : ∀ j, j < r → f j = g j) : upto f r = upto g r := by
  induction r with
  | zero => rfl
  | succ r ih => simp only [upto]; rw [h r (by omega), ih (fun j hj => h j (by omega))]
theorem upto_zero (r : Nat) : upto (fun _ => 0) r = 0 := by
  induction r with
  | zero => rfl
  | succ r ih => simp only [upto]; omega
theorem wide_upto (s : Nat → Nat) (D : Nat) : wide s D = upto (fun j => s j * 2 ^ j) (D + 1) := by
  induction D with
  | zero => simp [wide, upto]
  | succ D ih => rw [wide, ih]; rfl
theorem weigh_upto (A : List Nat) (s : Nat → Nat) (D : Nat) : weigh A s D = upto (fun j => pre A (s j)) (D + 1) := by
  induction D with
  | zero => simp [weigh, upto]
  | succ D ih => rw [weigh, ih]; rfl
/-- One from level t on. -/
theorem one_upto (t c r : Nat) (h : t ≤ r) : upto (fun j => if t ≤ j then c else 0) r = c * (r - t) := by
  induction r with
  | zero => simp [upto, show t = 0 from by omega]
  | succ r ih =>
    simp only [upto]
    by_cases e : t ≤ r
    · rw [if_pos e, ih e, show r + 1 - t = (r - t) + 1 from by omega, Nat.mul_add]; omega
    · rw [if_neg e, show r + 1 - t = 0 from by omega]
      have : upto (fun j => if t ≤ j then c else 0) r = upto (fun _ => 0) r := upto_congr r (fun j hj => by rw [if_neg (by omega)])
      rw [this, upto_zero]; simp
theorem one_wide (t r : Nat) (h : t ≤ r) : upto (fun j => (if t ≤ j then 1 else 0) * 2 ^ j) r + 2 ^ t = 2 ^ r := by
  induction r with
  | zero => simp [upto, show t = 0 from by omega]
  | succ r ih =>
    simp only [upto]
    by_cases e : t ≤ r
    · have := ih e
      rw [if_pos e, Nat.pow_succ]; omega
    · rw [if_neg e, show t = r + 1 from by omega]
      have : upto (fun j => (if r + 1 ≤ j then 1 else 0) * 2 ^ j) r = upto (fun _ => 0) r := upto_congr r (fun j hj => by rw [if_neg (by omega)]; simp)
      rw [this, upto_zero]; simp
/-- Symbols: what each counts, and how long its word is. M: the most. -/
def cost (L : List (Nat × Nat)) : Nat := (L.map fun x => x.1 * x.2).sum
def kraft (M : Nat) (L : List (Nat × Nat)) : Nat := (L.map fun x => 2 ^ (M - x.2)).sum
/-- Those that reach level j. -/
def those (M : Nat) (L : List (Nat × Nat)) (j : Nat) : List (Nat × Nat) := L.filter fun x => decide (M - x.2 ≤ j)
def many (M : Nat) (L : List (Nat × Nat)) (j : Nat) : Nat := (those M L j).length
theorem many_cons (M : Nat) (x : Nat × Nat) (L : List (Nat × Nat)) (j : Nat) : many M (x :: L) j = (if M - x.2 ≤ j then 1 else 0) + many M L j := by
  unfold many those
  rw [List.filter_cons]
  by_cases h : M - x.2 ≤ j
  · simp [h]; omega
  · simp [h]
theorem many_le (M : Nat) (L : List (Nat × Nat)) (j : Nat) : many M L j ≤ L.length := List.length_filter_le _ _
theorem cost_upto (M : Nat) (L : List (Nat × Nat)) (h : ∀ x ∈ L, x.2 ≤ M) : cost L = upto (fun j => ((those M L j).map (·.1)).sum) M := by
  induction L with
  | nil => simp [cost, those, upto_zero]
  | cons x L ih =>
    have h1 := ih (fun y hy => h y (by simp [hy]))
    have hx := h x (by simp)
    have e : (fun j => ((those M (x :: L) j).map (·.1)).sum) = fun j => (if M - x.2 ≤ j then x.1 else 0) + ((those M L j).map (·.1)).sum := by
      funext j
      unfold those
      rw [List.filter_cons]
      by_cases h : M - x.2 ≤ j <;> simp [h]
    rw [e, upto_add, ← h1, one_upto _ _ _ (by omega)]
    rw [show M - (M - x.2) = x.2 from by omega]
    rfl
theorem wide_kraft (M : Nat) (L : List (Nat × Nat)) : upto (fun j => many M L j * 2 ^ j) M + kraft M L = L.length * 2 ^ M := by
  induction L with
  | nil => simp [kraft, many, those, upto_zero]
  | cons x L ih =>
    have e : (fun j => many M (x :: L) j * 2 ^ j) = fun j => (if M - x.2 ≤ j then 1 else 0) * 2 ^ j + many M L j * 2 ^ j := by
      funext j
      rw [many_cons, Nat.add_mul]
    rw [e, upto_add]
    have h1 := one_wide (M - x.2) M (by omega)
    have h2 : kraft M (x :: L) = 2 ^ (M - x.2) + kraft M L := rfl
    rw [h2, List.length_cons, Nat.add_mul]
    omega
/-- What they cost is no less than the least that as many can cost at each level. -/
theorem cost_weigh (A : List Nat) (M : Nat) (L : List (Nat × Nat)) (hA : Ord A) (hp : A.Perm (L.map (·.1))) (h : ∀ x ∈ L, x.2 ≤ M) : upto (fun j => pre A (many M L j)) M ≤ cost L := by
  rw [cost_upto M L h]
  refine upto_le (fun j => ?_) M
  have hq : L.Perm (those M L j ++ L.filter fun x => !decide (M - x.2 ≤ j)) := (List.filter_append_perm _ L).symm
  have h2 := pre_least A ((those M L j).map (·.1)) ((L.filter fun x => !decide (M - x.2 ≤ j)).map (·.1)) hA (hp.trans (by rw [← List.map_append]; exact hq.map _))
  simpa [many] using h2
/-- THE LEAST: lengths of a whole code (or of less than one) cost no less than the first 2 (n - 1) of the last list. -/
theorem least (A : List Nat) (P : Nat → List Nat) (D : Nat) (L : List (Nat × Nat)) (hA : Ord A) (h0 : P 0 = A) (hP : ∀ j, Ord (P (j + 1)) ∧ (P (j + 1)).Perm (A ++ pairs (P j)))
    (hp : A.Perm (L.map (·.1))) (h : ∀ x ∈ L, x.2 ≤ D + 1) (hK : kraft (D + 1) L ≤ 2 ^ (D + 1)) (hn : 0 < L.length) : pre (P D) (2 * (L.length - 1)) ≤ cost L := by
  have hl : A.length = L.length := by simpa using hp.length_eq
  have h1 := wide_kraft (D + 1) L
  have h2 : (2 * (L.length - 1)) * 2 ^ D ≤ wide (many (D + 1) L) D := by
    rw [wide_upto]
    obtain ⟨m, hm⟩ : ∃ m, L.length = m + 1 := ⟨L.length - 1, by omega⟩
    rw [hm] at h1 ⊢
    rw [Nat.add_mul] at h1
    have e : 2 * (m + 1 - 1) * 2 ^ D = m * 2 ^ (D + 1) := by rw [Nat.pow_succ, Nat.add_sub_cancel, Nat.mul_comm 2 m, Nat.mul_assoc, Nat.mul_comm 2]
    omega
  have h3 : 2 * (L.length - 1) ≤ tot (many (D + 1) L) D := by
    rw [tot_wide]
    exact (Nat.le_div_iff_mul_le (Nat.two_pow_pos D)).2 h2
  have h4 := (bound A P h0 hP (many (D + 1) L) (fun j => by rw [hl]; exact many_le _ _ _) D _ h3).1
  have h5 := cost_weigh A (D + 1) L hA hp h
  rw [weigh_upto] at h4
  omega
end Go.Proofs.YtfeljhikeddodadGreatDoor.Pm
namespace Go.Proofs.YtfeljhikeddodadGreatDoor.Cn
open Pm

/-- How much of the whole (2^15) the words take that come ahead of symbol i at length n. -/
def acc (l : Nat → Nat) (N n i : Nat) : Nat := upto (fun j => if 0 < l j ∧ (l j < n ∨ (l j = n ∧ j < i)) then 2 ^ (15 - l j) else 0) N
/-- All words together. -/
def all (l : Nat → Nat) (N : Nat) : Nat := upto (fun j => if 0 < l j then 2 ^ (15 - l j) else 0) N
/-- The word of a symbol. -/
def code (l : Nat → Nat) (N i : Nat) : Nat := if l i = 0 then 0 else acc l N (l i) i / 2 ^ (15 - l i)
theorem upto_single (i v m : Nat) : upto (fun j => if j = i then v else 0) m = if i < m then v else 0 := by
  induction m with
  | zero => rfl
  | succ m ih =>
    show (if m = i then v else 0) + upto (fun j => if j = i then v else 0) m = _
    rw [ih]
    by_cases e1 : m = i
    · subst e1; simp
    · rw [if_neg e1]
      by_cases e3 : i < m
      · rw [if_pos e3, if_pos (by omega)]; omega
      · rw [if_neg e3, if_neg (by omega)]
theorem acc_step (l : Nat → Nat) (N n i : Nat) (hn : 0 < n) (hi : i < N) : acc l N n (i + 1) = acc l N n i + if l i = n then 2 ^ (15 - n) else 0 := by
  have h := upto_single i (if l i = n then 2 ^ (15 - n) else 0) N
  rw [if_pos hi] at h
  rw [← h]
  unfold acc
  rw [← upto_add]
  refine upto_congr N (fun j _ => ?_)
  by_cases e : j = i
  · subst e
    rw [if_pos rfl]
    by_cases e2 : l j = n
    · rw [if_pos e2, if_pos ⟨by omega, .inr ⟨e2, by omega⟩⟩, if_neg (by omega), e2]; omega
    · rw [if_neg e2]
      by_cases e3 : 0 < l j ∧ l j < n
      · rw [if_pos ⟨e3.1, .inl e3.2⟩, if_pos ⟨e3.1, .inl e3.2⟩, Nat.add_zero]
      · rw [if_neg (by omega), if_neg (by omega)]
  · rw [if_neg e]
    by_cases e3 : 0 < l j ∧ (l j < n ∨ (l j = n ∧ j < i))
    · rw [if_pos (by omega), if_pos e3]; omega
    · rw [if_neg (by omega), if_neg e3]
theorem acc_next (l : Nat → Nat) (N n : Nat) : acc l N (n + 1) 0 = acc l N n N := by
  unfold acc
  refine upto_congr N (fun j hj => ?_)
  by_cases e3 : 0 < l j ∧ l j ≤ n
  · rw [if_pos (by omega), if_pos (by omega)]
  · rw [if_neg (by omega), if_neg (by omega)]
theorem acc_first (l : Nat → Nat) (N : Nat) : acc l N 1 0 = 0 := by
  unfold acc
  have : upto (fun j => if 0 < l j ∧ (l j < 1 ∨ (l j = 1 ∧ j < 0)) then 2 ^ (15 - l j) else 0) N = upto (fun _ => 0) N := upto_congr N (fun j _ => by rw [if_neg (by omega)])
  rw [this, upto_zero]
theorem acc_le_all (l : Nat → Nat) (N n i : Nat) : acc l N n i ≤ all l N := by
  unfold acc all
  refine upto_le (fun j => ?_) N
  by_cases e3 : 0 < l j ∧ (l j < n ∨ (l j = n ∧ j < i))
  · rw [if_pos e3, if_pos e3.1]; exact Nat.le_refl _
  · rw [if_neg e3]; exact Nat.zero_le _
theorem acc_mono (l : Nat → Nat) (N : Nat) {n i n' i' : Nat} (h : n < n' ∨ (n = n' ∧ i ≤ i')) : acc l N n i ≤ acc l N n' i' := by
  unfold acc
  refine upto_le (fun j => ?_) N
  by_cases e3 : 0 < l j ∧ (l j < n ∨ (l j = n ∧ j < i))
  · rw [if_pos e3, if_pos (by omega)]; exact Nat.le_refl _
  · rw [if_neg e3]; exact Nat.zero_le _
theorem acc_dvd (l : Nat → Nat) (N n i : Nat) : 2 ^ (15 - n) ∣ acc l N n i := by
  unfold acc
  have : ∀ m, 2 ^ (15 - n) ∣ upto (fun j => if 0 < l j ∧ (l j < n ∨ (l j = n ∧ j < i)) then 2 ^ (15 - l j) else 0) m := by
    intro m
    induction m with
    | zero => exact Nat.dvd_zero _
    | succ m ih =>
      show _ ∣ (if 0 < l m ∧ (l m < n ∨ (l m = n ∧ m < i)) then 2 ^ (15 - l m) else 0) + _
      refine Nat.dvd_add ?_ ih
      split
      · exact Nat.pow_dvd_pow 2 (by omega)
      · exact Nat.dvd_zero _
  exact this N
/-- A word takes its own part. -/
theorem acc_own (l : Nat → Nat) (N i : Nat) (hi : i < N) (h : 0 < l i) : acc l N (l i) (i + 1) = acc l N (l i) i + 2 ^ (15 - l i) := by
  rw [acc_step l N (l i) i h hi, if_pos rfl]
theorem code_mul (l : Nat → Nat) (N i : Nat) (h : 0 < l i) : code l N i * 2 ^ (15 - l i) = acc l N (l i) i := by
  unfold code
  rw [if_neg (by omega)]
  exact Nat.div_mul_cancel (acc_dvd l N (l i) i)
theorem code_lt (l : Nat → Nat) (N i : Nat) (hi : i < N) (h : 0 < l i) (h15 : l i ≤ 15) (hK : all l N ≤ 2 ^ 15) : code l N i < 2 ^ l i := by
  have h1 := acc_own l N i hi h
  have h2 := acc_le_all l N (l i) (i + 1)
  have h3 := code_mul l N i h
  have hp := Nat.two_pow_pos (15 - l i)
  have e : 2 ^ 15 = 2 ^ l i * 2 ^ (15 - l i) := by rw [← Nat.pow_add, show l i + (15 - l i) = 15 from by omega]
  rw [e] at hK
  refine Nat.lt_of_mul_lt_mul_right (a := 2 ^ (15 - l i)) ?_
  omega
/-- KRAFT: no word begins another one. -/
theorem apart (l : Nat → Nat) (N i k : Nat) (hi : i < N) (hk : k < N) (hik : i ≠ k) (h : 0 < l i) (hl : l i ≤ l k) (h15 : l k ≤ 15) : code l N k / 2 ^ (l k - l i) ≠ code l N i := by
  have hpi := Nat.two_pow_pos (15 - l i)
  have hck := code_mul l N k (by omega)
  have hci := code_mul l N i h
  have e : 2 ^ (15 - l i) = 2 ^ (l k - l i) * 2 ^ (15 - l k) := by rw [← Nat.pow_add, show l k - l i + (15 - l k) = 15 - l i from by omega]
  have hq : code l N k / 2 ^ (l k - l i) = acc l N (l k) k / 2 ^ (15 - l i) := by
    rw [← hck, e, Nat.mul_comm (2 ^ (l k - l i)), ← Nat.div_div_eq_div_mul, Nat.mul_div_cancel _ (Nat.two_pow_pos _)]
  rw [hq]
  intro hc
  by_cases hord : l i < l k ∨ i < k
  · have h1 := acc_mono l N (n := l i) (i := i + 1) (n' := l k) (i' := k) (by omega)
    rw [acc_own l N i hi h, ← hci] at h1
    have h2 : code l N i + 1 ≤ acc l N (l k) k / 2 ^ (15 - l i) := (Nat.le_div_iff_mul_le hpi).2 (by rw [Nat.add_mul, Nat.one_mul]; exact h1)
    omega
  · have hle : l k = l i := by omega
    have h1 := acc_mono l N (n := l k) (i := k + 1) (n' := l i) (i' := i) (by omega)
    rw [acc_own l N k hk (by omega), ← hci, hle] at h1
    rw [hle] at hc
    have h2 : acc l N (l i) k < code l N i * 2 ^ (15 - l i) := by omega
    have h3 := (Nat.div_lt_iff_lt_mul hpi).2 h2
    omega
end Go.Proofs.YtfeljhikeddodadGreatDoor.Cn
namespace Go.Proofs.YtfeljhikeddodadGreatDoor
open Go.RowKit Pm Cn

/-- How many have a word; how many one of 1 bit. -/
def cnt (l : Nat → Nat) (n : Nat) : Nat := upto (fun j => if 0 < l j then 1 else 0) n
def ones (l : Nat → Nat) (n : Nat) : Nat := upto (fun j => if l j = 1 then 1 else 0) n
/-- Lengths that are right. -/
def Right (l : Nat → Nat) (n : Nat) : Prop := cnt l n = 0 ∨ (cnt l n = 1 ∧ ones l n = 1) ∨ all l n = 32768
def Bad (z : Nat → Int) (n : Nat) : Prop := 300 < n ∨ ∃ i, i < n ∧ (z i < 0 ∨ 15 < z i)
def nat (z : Nat → Int) (i : Nat) : Nat := (z i).toNat
open Classical in
noncomputable def vc (z : Nat → Int) (n : Nat) : Int := if Bad z n then 2 else if Right (nat z) n then 0 else 3
theorem vc_bad {z : Nat → Int} {n : Nat} (h : Bad z n) : vc z n = 2 := by unfold vc; rw [if_pos h]
theorem vc_right {z : Nat → Int} {n : Nat} (h : ¬ Bad z n) (h2 : Right (nat z) n) : vc z n = 0 := by unfold vc; rw [if_neg h, if_pos h2]
theorem vc_wrong {z : Nat → Int} {n : Nat} (h : ¬ Bad z n) (h2 : ¬ Right (nat z) n) : vc z n = 3 := by unfold vc; rw [if_neg h, if_neg h2]
theorem cnt_le (l : Nat → Nat) (n : Nat) : cnt l n ≤ n := by
  unfold cnt
  induction n with
  | zero => exact Nat.le_refl _
  | succ n ih => simp only [upto]; split <;> omega
theorem ones_le (l : Nat → Nat) (n : Nat) : ones l n ≤ n := by
  unfold ones
  induction n with
  | zero => exact Nat.le_refl _
  | succ n ih => simp only [upto]; split <;> omega
theorem all_le (l : Nat → Nat) (n : Nat) : all l n ≤ 16384 * n := by
  unfold all
  induction n with
  | zero => exact Nat.le_refl _
  | succ n ih =>
    simp only [upto]
    split
    · have := Nat.pow_le_pow_right (n := 2) (i := 15 - l n) (j := 14) (by omega) (by omega)
      omega
    · omega
theorem cnt_succ (l : Nat → Nat) (n : Nat) : cnt l (n + 1) = (if 0 < l n then 1 else 0) + cnt l n := rfl
theorem ones_succ (l : Nat → Nat) (n : Nat) : ones l (n + 1) = (if l n = 1 then 1 else 0) + ones l n := rfl
theorem all_succ (l : Nat → Nat) (n : Nat) : all l (n + 1) = (if 0 < l n then 2 ^ (15 - l n) else 0) + all l n := rfl
set_option maxHeartbeats 2000000 in
set_option maxRecDepth 100000 in
theorem validCode_any (ao : Option Addr) (len cap : Nat) (z : Nat → Int) (w : World) (hP : IsInts w ao len z) (hlen : len ≤ 100000) :
    Calls Tryz.prog 124 #[.slice ao len cap] w fun e w' => e = .returned (.int .i64 (vc z len)) ∧ w' = w := by
  by_cases hl : 300 < len
  · have hd : decide ((300 : Int) < (len : Int)) = true := by simp; omega
    have hv := hide (vc_bad (z := z) (n := len) (.inl hl))
    clear hP
    go_enter Tryz.func124, Tryz.ntmps124
    go_wp2
    go_ret
    exact ⟨ret_int (unhide hv).symm, rfl⟩
  have hd : decide ((300 : Int) < (len : Int)) = false := by simp; omega
  have HP := hide hP
  clear hP
  go_enter Tryz.func124, Tryz.ntmps124
  go_wp2
  go_loop [2, 3, 4, 5, 6] (fun r s c o i => ∃ k : Nat, k ≤ len ∧ i = .int .i64 k ∧ (∀ j, j < k → ¬ (z j < 0 ∨ 15 < z j)) ∧ s = .int .i64 (all (nat z) k : Nat) ∧ c = .int .i64 (cnt (nat z) k : Nat) ∧ o = .int .i64 (ones (nat z) k : Nat)) (fun _ _ _ _ i => len - (intOf i).toNat)
  case atStart => exact ⟨0, by omega, rfl, fun j hj => by omega, rfl, rfl, rfl⟩
  case round =>
    obtain ⟨k, hk, rfl, hgood, rfl, rfl, rfl⟩ := hrel
    have b1 := cnt_le (nat z) k
    have b2 := ones_le (nat z) k
    have b3 := all_le (nat z) k
    have Hgood := hide hgood
    clear hgood
    by_cases hlt : k < len
    · have hdk : decide ((k : Int) < (len : Int)) = true := by simp; omega
      rcases unhide HP with h0 | ⟨b, off, rfl, hm, hP⟩
      · omega
      obtain ⟨c0, hw1, hw2⟩ := hP k hlt
      clear hP
      have Hc := hide (cnt_succ (nat z) k)
      have Ho := hide (ones_succ (nat z) k)
      have Ha := hide (all_succ (nat z) k)
      have hnat : nat z k = (z k).toNat := rfl
      have Hnat := hide hnat
      clear hnat
      generalize hS : all (nat z) k = S at *
      generalize hC : cnt (nat z) k = C at *
      generalize hO : ones (nat z) k = O at *
      clear hS hC hO
      by_cases hneg : z k < 0
      · have hd1 : decide (z k < 0) = true := by simp; omega
        have hv := hide (vc_bad (z := z) (n := len) (.inr ⟨k, hlt, .inl hneg⟩))
        generalize z k = d at *
        go_wp2
        go_ret
        exact ⟨ret_int (unhide hv).symm, rfl⟩
      have hd1 : decide (z k < 0) = false := by simp; omega
      by_cases hbig : 15 < z k
      · have hd2 : decide (15 < z k) = true := by simp; omega
        have hv := hide (vc_bad (z := z) (n := len) (.inr ⟨k, hlt, .inr hbig⟩))
        generalize z k = d at *
        go_wp2
        go_ret
        exact ⟨ret_int (unhide hv).symm, rfl⟩
      have hd2 : decide (15 < z k) = false := by simp; omega
      have Hnext : Hid (∀ j, j < k + 1 → ¬ (z j < 0 ∨ 15 < z j)) := fun j hj => by
        by_cases e : j = k
        · subst e; omega
        · exact unhide Hgood j (by omega)
      obtain ⟨n, hn⟩ := Int.eq_ofNat_of_zero_le (show 0 ≤ z k by omega)
      rw [hn] at hd1 hd2 c0 hw1 hw2 hneg hbig
      have hnn : nat z k = n := by rw [unhide Hnat, hn]; rfl
      rw [hnn] at Hc Ho Ha
      clear hn hnn Hnat Hgood
      by_cases h0 : n = 0
      · subst h0
        go_wp2
        go_round
        case rel => exact ⟨k + 1, by omega, by go_num, unhide Hnext, by rw [unhide Ha]; simp, by rw [unhide Hc]; simp, by rw [unhide Ho]; simp⟩
        case measure => simp [intOf]; omega
      · have he0 : ((n : Int) == 0) = false := by simp; omega
        obtain ⟨e, he⟩ : ∃ e, e = 15 - n := ⟨_, rfl⟩
        have hei : (15 : Int) - (n : Int) = (e : Int) := by omega
        have hel : e < 15 := by omega
        have hpw : 2 ^ e ≤ 16384 := Nat.pow_le_pow_right (n := 2) (j := 14) (by omega) (by omega)
        have hpi : (2 : Int) ^ e = ((2 ^ e : Nat) : Int) := by simp
        rw [← he, if_pos (by omega)] at Ha
        rw [if_pos (by omega)] at Hc
        generalize 2 ^ e = X at *
        by_cases h1 : n = 1
        · have he1 : ((n : Int) == 1) = true := by simp; omega
          rw [if_pos h1] at Ho
          clear h1 h0 he
          go_wp2
          go_round
          case rel => exact ⟨k + 1, by omega, by go_num, unhide Hnext, by rw [unhide Ha]; go_num, by rw [unhide Hc]; go_num, by rw [unhide Ho]; go_num⟩
          case measure => simp [intOf]; omega
        · have he1 : ((n : Int) == 1) = false := by simp; omega
          rw [if_neg h1] at Ho
          clear h1 h0 he
          go_wp2
          go_round
          case rel => exact ⟨k + 1, by omega, by go_num, unhide Hnext, by rw [unhide Ha]; go_num, by rw [unhide Hc]; go_num, by rw [unhide Ho]; go_num⟩
          case measure => simp [intOf]; omega
    · have : k = len := by omega
      subst this
      have hdk : decide ((k : Int) < (k : Int)) = false := by simp
      have hnb : ¬ Bad z k := fun h => by
        rcases h with h | ⟨i, hi, h⟩
        · omega
        · exact unhide Hgood i hi h
      have Hyes : Hid (Right (nat z) k → vc z k = 0) := fun h => vc_right hnb h
      have Hno : Hid (¬ Right (nat z) k → vc z k = 3) := fun h => vc_wrong hnb h
      have HR : Hid (Right (nat z) k ↔ (cnt (nat z) k = 0 ∨ (cnt (nat z) k = 1 ∧ ones (nat z) k = 1) ∨ all (nat z) k = 32768)) := Iff.rfl
      generalize all (nat z) k = S at *
      generalize cnt (nat z) k = C at *
      generalize ones (nat z) k = O at *
      clear hnb Hgood
      by_cases h0 : C = 0
      · have hv := hide (unhide Hyes ((unhide HR).2 (.inl h0)))
        subst h0
        go_wp2
        go_ret
        exact ⟨ret_int (unhide hv).symm, rfl⟩
      have e0 : ((C : Int) == 0) = false := by simp; omega
      by_cases h1 : C = 1 ∧ O = 1
      · have hv := hide (unhide Hyes ((unhide HR).2 (.inr (.inl h1))))
        obtain ⟨rfl, rfl⟩ := h1
        go_wp2
        go_ret
        exact ⟨ret_int (unhide hv).symm, rfl⟩
      by_cases h2 : S = 32768
      · have hv := hide (unhide Hyes ((unhide HR).2 (.inr (.inr h2))))
        have e2 : ((S : Int) == 32768) = true := by simp; omega
        by_cases h3 : C = 1
        · have e1 : ((C : Int) == 1) = true := by simp; omega
          have e3 : ((O : Int) == 1) = false := by simp; omega
          clear h2 h3
          go_wp2
          go_ret
          exact ⟨ret_int (unhide hv).symm, rfl⟩
        · have e1 : ((C : Int) == 1) = false := by simp; omega
          clear h2 h3
          go_wp2
          go_ret
          exact ⟨ret_int (unhide hv).symm, rfl⟩
      · have hv := hide (unhide Hno (fun h => by rcases (unhide HR).1 h with h | h | h; exact h0 h; exact h1 h; exact h2 h))
        have e2 : ((S : Int) == 32768) = false := by simp; omega
        by_cases h3 : C = 1
        · have e1 : ((C : Int) == 1) = true := by simp; omega
          have e3 : ((O : Int) == 1) = false := by simp; omega
          clear h2 h3
          go_wp2
          go_ret
          exact ⟨ret_int (unhide hv).symm, rfl⟩
        · have e1 : ((C : Int) == 1) = false := by simp; omega
          clear h2 h3
          go_wp2
          go_ret
          exact ⟨ret_int (unhide hv).symm, rfl⟩
theorem info_i64 : (Tryz.prog.info? 3).map (fun i => (i.zero, i.size, i.bytes)) = some (some (.int .i64 0), 1, 8) := by kernel_rfl
/-- Numbers as cells. -/
def intVals (z : Nat → Int) (n : Nat) : List Value := (List.range n).map fun i => .int .i64 (z i)
theorem intVals_length (z : Nat → Int) (n : Nat) : (intVals z n).length = n := by simp [intVals]
theorem intVals_at (z : Nat → Int) (n i : Nat) (h : i < n) : (intVals z n)[i]? = some (.int .i64 (z i)) := by simp [intVals, List.getElem?_range h]
/-- Numbers that the call owns are numbers that can be read. -/
theorem ints_own {w : World} {base n : Nat} {v : Value} {z : Nat → Int} (h : w.ownsRow base 3 1 v n (intVals z n)) (hz : ∀ i, i < n → -9223372036854775808 ≤ z i ∧ z i ≤ 9223372036854775807) :
    ∃ a cap, v = .slice a n cap ∧ IsInts w a n z := by
  rcases h.2 with ⟨rfl, rfl⟩ | ⟨g, cap, cur, rfl, hb, hg, hn, hm, _⟩
  · exact ⟨none, 0, rfl, .inl rfl⟩
  · refine ⟨some ⟨g, 0, none⟩, cap, rfl, .inr ⟨g, 0, rfl, by omega, fun i hi => ⟨?_, hz i hi⟩⟩⟩
    rw [Nat.zero_add, h.cellAt i (by omega), intVals_at _ _ _ hi]
theorem copy_none (w : World) (ao : Option Addr) (cap : Nat) : (Builtin.append_ #[38, 38] 38 #[.slice none 0 0, .slice ao 0 cap]).run Tryz.prog w = .ok (.slice none 0 0) w := by
  cases ao <;> kernel_rfl
/-- An append whose answer is known, and that makes nothing. -/
theorem wpList_append_eq (w : World) {ops : Array Oper} {rest : List Oper} {o : Oper} {a : Act} {Q : Exit → Act → World → Prop} (hgd : o.guard = none) (s x : Operand) (t : TypeId)
    (ho : o.op = .call { callee := .builtin .append, args := #[s, x], argTypes := #[t, t] }) (v u r : Value) (hs : a.eval s = v) (hx : a.eval x = u)
    (hr : (Builtin.append_ #[t, t] o.type #[v, u]).run Tryz.prog w = .ok r w) (h : wpList Tryz.prog ops Q rest (a.put o.dst r) w) : wpList Tryz.prog ops Q (o :: rest) a w :=
  wpList_plain hgd fun _ hK => by
    unfold Oper.wp execOp
    simp only [ho, resolve, invoke, builtin, Sem.run_bind, Sem.run_pure, Result.andThen_ok, List.map_toArray, List.map_cons, List.map_nil, hs, hx, hr]
    exact hK _ _ h
/-- layercakelaw1.ints: a copy in new memory. -/
theorem ints_any (ao : Option Addr) (len cap : Nat) (z : Nat → Int) (w : World) (hP : IsInts w ao len z) (hlen : len ≤ 100000) :
    Calls Tryz.prog 52 #[.slice ao len cap] w fun e w' => ∃ v, e = .returned v ∧ w'.ownsRow w.heap.size 3 1 v len (intVals z len) ∧ Below w.heap.size w w' := by
  obtain ⟨i0, hi, hz0, hz1, hz2⟩ := info_parts info_i64
  by_cases h0 : len = 0
  · subst h0
    have Hc := hide (copy_none w ao cap)
    clear hP
    go_enter Tryz.func52, Tryz.ntmps52
    go_wp2_with (at_builtin; refine wpList_append_eq _ rfl (.tmp 4) (.tmp 5) 38 rfl (.slice none 0 0) (.slice ao 0 cap) (.slice none 0 0) rfl rfl (unhide Hc) ?_)
    go_wp2
    go_ret
    exact ⟨_, rfl, World.ownsRow_nil _ _ _ _, Below.refl _ _⟩
  · rcases hP with h | ⟨b, off, rfl, hm, hP⟩
    · exact absurd h h0
    have hnews : ∀ j u, (intVals z len)[j]? = some u → w.cell? ((⟨b, off, none⟩ : Addr).add j) = some u := fun j u hj => by
      have hjl : j < len := by
        rcases Nat.lt_or_ge j len with h | h
        · exact h
        · rw [List.getElem?_eq_none (by rw [intVals_length]; exact h)] at hj; cases hj
      have hadd : (⟨b, off, none⟩ : Addr).add j = ⟨b, off + j, none⟩ := by unfold Addr.add; split <;> simp_all
      rw [hadd, (hP j hjl).1, ← hj, intVals_at _ _ _ hjl]
    have h1 : ∀ u ∈ intVals z len, u.oneCell' = true := fun u hu => by
      obtain ⟨i, _, rfl⟩ := List.mem_map.1 hu
      rfl
    have Hi := hide hi
    have Hz0 := hide hz0
    have Hz1 := hide hz1
    have Hz2 := hide hz2
    have Hn := hide hnews
    have H1 := hide h1
    clear hi hz0 hz1 hz2 hnews h1 hP
    go_enter Tryz.func52, Tryz.ntmps52
    go_wp2_with (at_builtin; refine wpList_append_lies _ rfl (.tmp 4) (.tmp 5) 38 rfl w.heap.size 3 i0 (.int .i64 0) 1 8 Tryz.underlying38 (unhide Hi) (unhide Hz0) (unhide Hz1) (unhide Hz2) rfl (by omega) (.slice none 0 0) 0 [] rfl (World.ownsRow_nil _ _ _ _) ⟨b, off, none⟩ len cap (intVals z len) rfl (by rw [intVals_length, Nat.mul_one]) (unhide Hn) (unhide H1) (by omega) (by unfold maxLen; omega) (by omega) (Nat.le_refl _) _ rfl ?_)
    intro g cap2 w1 hown1 hgrow hat hlt1
    have hb1 : Below w.heap.size w w1 := (Below.refl _ _).grown hgrow (Nat.le_refl _) (fun k e => by simp [Value.ownBlock] at e)
    have Hown1 := hide hown1
    clear hown1 hgrow hat hlt1
    go_wp2
    go_ret
    exact ⟨_, rfl, unhide Hown1, hb1⟩
end Go.Proofs.YtfeljhikeddodadGreatDoor
