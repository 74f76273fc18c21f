/- Plain facts on packages that are merged (LARMORE and HIRSCHBERG): of a list in order that holds what is to be chosen from and pairs of the list below, the first ones weigh no more than any choice that is as wide. -/
namespace Go.Proofs.YtkdckcengmkhhajDoor.Pm

/-- The first k together. -/
def pre (l : List Nat) (k : Nat) : Nat := (l.take k).sum

/-- In order. -/
def Ord (l : List Nat) : Prop := l.Pairwise (· ≤ ·)

/-- Neighbours by twos; an odd last one is left out. -/
def pairs : List Nat → List Nat
  | a :: b :: r => (a + b) :: pairs r
  | _ => []

theorem pre_zero (l : List Nat) : pre l 0 = 0 := by simp [pre]
theorem pre_cons (a : Nat) (l : List Nat) (k : Nat) : pre (a :: l) (k + 1) = a + pre l k := by simp [pre]
theorem pre_nil (k : Nat) : pre [] k = 0 := by simp [pre]

theorem pre_succ (l : List Nat) (k : Nat) (h : k < l.length) : pre l (k + 1) = pre l k + l[k] := by
  unfold pre
  rw [List.take_succ_eq_append_getElem h, List.sum_append]
  simp

theorem pre_mono (l : List Nat) {k m : Nat} (h : k ≤ m) : pre l k ≤ pre l m := by
  induction l generalizing k m with
  | nil => simp [pre]
  | cons a l ih =>
    cases k with
    | zero => simp [pre]
    | succ k =>
      cases m with
      | zero => omega
      | succ m =>
        rw [pre_cons, pre_cons]
        have := ih (k := k) (m := m) (by omega)
        omega

theorem pairs_pre (p : Nat) (l : List Nat) : pre (pairs l) p ≤ pre l (2 * p) := by
  induction p generalizing l with
  | zero => simp [pre]
  | succ p ih =>
    match l with
    | [] => simp [pairs, pre]
    | [a] => simp [pairs, pre]
    | a :: b :: r =>
      rw [pairs, pre_cons, show 2 * (p + 1) = 2 * p + 1 + 1 from by omega, pre_cons, pre_cons]
      have := ih r
      omega

theorem pairs_pre_eq (p : Nat) (l : List Nat) (h : 2 * p ≤ l.length) : pre (pairs l) p = pre l (2 * p) := by
  induction p generalizing l with
  | zero => simp [pre]
  | succ p ih =>
    match l, h with
    | a :: b :: r, h =>
      rw [pairs, pre_cons, show 2 * (p + 1) = 2 * p + 1 + 1 from by omega, pre_cons, pre_cons]
      have := ih r (by simp at h; omega)
      omega

theorem pairs_length (l : List Nat) : (pairs l).length = l.length / 2 := by
  match l with
  | [] => rfl
  | [a] => simp [pairs]
  | a :: b :: r =>
    simp only [pairs, List.length_cons]
    rw [pairs_length r]
    omega

theorem ord_tail {a : Nat} {l : List Nat} (h : Ord (a :: l)) : Ord l := (List.pairwise_cons.1 h).2
theorem ord_head {a : Nat} {l : List Nat} (h : Ord (a :: l)) : ∀ b ∈ l, a ≤ b := (List.pairwise_cons.1 h).1

theorem mem_pairs (l : List Nat) (h : Ord l) (c : Nat) (hc : ∀ b ∈ l, c ≤ b) : ∀ x ∈ pairs l, 2 * c ≤ x := by
  match l with
  | [] => intro x hx; simp [pairs] at hx
  | [a] => intro x hx; simp [pairs] at hx
  | a :: b :: r =>
    intro x hx
    simp only [pairs, List.mem_cons] at hx
    rcases hx with rfl | hx
    · have := hc a (by simp); have := hc b (by simp); omega
    · exact mem_pairs r (ord_tail (ord_tail h)) c (fun y hy => hc y (by simp [hy])) x hx

theorem pairs_ord (l : List Nat) (h : Ord l) : Ord (pairs l) := by
  match l with
  | [] => exact List.Pairwise.nil
  | [a] => exact List.Pairwise.nil
  | a :: b :: r =>
    refine List.pairwise_cons.2 ⟨fun x hx => ?_, pairs_ord r (ord_tail (ord_tail h))⟩
    have h1 := ord_head (ord_tail h)
    have h2 := mem_pairs r (ord_tail (ord_tail h)) b h1 x hx
    have := ord_head h b (by simp)
    omega

/-- Whatever is taken out of a list in order, its first ones weigh no more. -/
theorem pre_least (M S R : List Nat) (h : Ord M) (hp : M.Perm (S ++ R)) : pre M S.length ≤ S.sum := by
  induction M generalizing S R with
  | nil =>
    have := hp.length_eq
    simp at this
    rw [show S.length = 0 from by omega, pre_zero]
    exact Nat.zero_le _
  | cons m M ih =>
    have hm : m ∈ S ++ R := hp.subset (by simp)
    rcases List.mem_append.1 hm with hS | hR
    · have hs := List.perm_cons_erase hS
      have h1 : (m :: M).Perm (m :: (S.erase m ++ R)) := hp.trans ((hs.append_right R).trans (by simp))
      have h2 := ih (S.erase m) R (ord_tail h) ((List.perm_cons m).1 h1)
      have hl := hs.length_eq
      have hsum := hs.sum_nat
      rw [hl, hsum]
      simp only [List.length_cons, List.sum_cons]
      rw [pre_cons]
      omega
    · have hr := List.perm_cons_erase hR
      have h1 : (m :: M).Perm (m :: (S ++ R.erase m)) := hp.trans ((hr.append_left S).trans List.perm_middle)
      have h3 := (List.perm_cons m).1 h1
      have h2 := ih S (R.erase m) (ord_tail h) h3
      have hlen := h3.length_eq
      cases hk : S.length with
      | zero => simp [pre]
      | succ k =>
        rw [hk] at h2
        rw [pre_cons]
        have hkM : k < M.length := by rw [hlen, List.length_append]; omega
        rw [pre_succ M k hkM] at h2
        have := ord_head h M[k] (List.getElem_mem hkM)
        omega

/-- Of two lists, merged. -/
theorem merged (A B M : List Nat) (h : Ord M) (hp : M.Perm (A ++ B)) (s p : Nat) (hs : s ≤ A.length) (hq : p ≤ B.length) : pre M (s + p) ≤ pre A s + pre B p := by
  have h1 : (A ++ B).Perm ((A.take s ++ B.take p) ++ (A.drop s ++ B.drop p)) := by
    conv => lhs; rw [← List.take_append_drop s A, ← List.take_append_drop p B]
    rw [List.append_assoc, List.append_assoc]
    refine List.Perm.append_left _ ?_
    rw [← List.append_assoc, ← List.append_assoc]
    exact List.Perm.append_right _ List.perm_append_comm
  have h2 := pre_least M (A.take s ++ B.take p) _ h (hp.trans h1)
  rw [List.length_append, List.length_take, List.length_take, Nat.min_eq_left hs, Nat.min_eq_left hq, List.sum_append] at h2
  exact h2

/-- How wide a choice of s j out of each list is, in units of the last one. -/
def tot (s : Nat → Nat) : Nat → Nat
  | 0 => s 0
  | D + 1 => s (D + 1) + tot s D / 2

def wide (s : Nat → Nat) : Nat → Nat
  | 0 => s 0
  | D + 1 => s (D + 1) * 2 ^ (D + 1) + wide s D

theorem tot_wide (s : Nat → Nat) (D : Nat) : tot s D = wide s D / 2 ^ D := by
  induction D with
  | zero => simp [tot, wide]
  | succ D ih =>
    rw [tot, wide, ih, Nat.mul_comm, Nat.mul_add_div (Nat.two_pow_pos _), Nat.div_div_eq_div_mul, Nat.pow_succ]

def weigh (A : List Nat) (s : Nat → Nat) : Nat → Nat
  | 0 => pre A (s 0)
  | D + 1 => pre A (s (D + 1)) + weigh A s D

/-- THE BOUND: no choice that is as wide weighs less. -/
theorem bound (A : List Nat) (P : Nat → List Nat) (h0 : P 0 = A) (hP : ∀ j, Ord (P (j + 1)) ∧ (P (j + 1)).Perm (A ++ pairs (P j))) (s : Nat → Nat) (hs : ∀ j, s j ≤ A.length) :
    ∀ D x, x ≤ tot s D → pre (P D) x ≤ weigh A s D ∧ tot s D ≤ (P D).length := by
  intro D
  induction D with
  | zero =>
    intro x hx
    rw [h0]
    exact ⟨pre_mono A hx, hs 0⟩
  | succ D ih =>
    intro x hx
    obtain ⟨h1, h2⟩ := ih (2 * (tot s D / 2)) (by omega)
    obtain ⟨ho, hp⟩ := hP D
    have hl : tot s D / 2 ≤ (pairs (P D)).length := by rw [pairs_length]; omega
    have h3 := merged A (pairs (P D)) (P (D + 1)) ho hp (s (D + 1)) (tot s D / 2) (hs _) hl
    have h4 := pairs_pre (tot s D / 2) (P D)
    have h5 := pre_mono (P (D + 1)) hx
    refine ⟨?_, ?_⟩
    · show _ ≤ pre A (s (D + 1)) + weigh A s D
      simp only [tot] at h5
      omega
    · have := hp.length_eq
      rw [this, List.length_append]
      have := hs (D + 1)
      simp only [tot]
      omega

/-! ### Lengths: how many are at least so long, and what they cost. -/

/-- Up to a level. -/
def upto (f : Nat → Nat) : Nat → Nat
  | 0 => 0
  | r + 1 => f r + upto f r

theorem upto_add (f g : Nat → Nat) (r : Nat) : upto (fun j => f j + g j) r = upto f r + upto g r := by
  induction r with
  | zero => rfl
  | succ r ih => simp only [upto]; rw [ih]; omega
theorem upto_le {f g : Nat → Nat} (h : ∀ j, f j ≤ g j) (r : Nat) : upto f r ≤ upto g r := by
  induction r with
  | zero => exact Nat.le_refl _
  | succ r ih => simp only [upto]; have := h r; omega
theorem upto_congr {f g : Nat → Nat} (r : Nat) (h : ∀ j, j < r → f j = g j) : upto f r = upto g r := by
  induction r with
  | zero => rfl
  | succ r ih => simp only [upto]; rw [h r (by omega), ih (fun j hj => h j (by omega))]
theorem upto_zero (r : Nat) : upto (fun _ => 0) r = 0 := by
  induction r with
  | zero => rfl
  | succ r ih => simp only [upto]; omega

theorem wide_upto (s : Nat → Nat) (D : Nat) : wide s D = upto (fun j => s j * 2 ^ j) (D + 1) := by
  induction D with
  | zero => simp [wide, upto]
  | succ D ih => rw [wide, ih]; rfl
theorem weigh_upto (A : List Nat) (s : Nat → Nat) (D : Nat) : weigh A s D = upto (fun j => pre A (s j)) (D + 1) := by
  induction D with
  | zero => simp [weigh, upto]
  | succ D ih => rw [weigh, ih]; rfl

/-- One from level t on. -/
theorem one_upto (t c r : Nat) (h : t ≤ r) : upto (fun j => if t ≤ j then c else 0) r = c * (r - t) := by
  induction r with
  | zero => simp [upto, show t = 0 from by omega]
  | succ r ih =>
    simp only [upto]
    by_cases e : t ≤ r
    · rw [if_pos e, ih e, show r + 1 - t = (r - t) + 1 from by omega, Nat.mul_add]; omega
    · rw [if_neg e, show r + 1 - t = 0 from by omega]
      have : upto (fun j => if t ≤ j then c else 0) r = upto (fun _ => 0) r := upto_congr r (fun j hj => by rw [if_neg (by omega)])
      rw [this, upto_zero]; simp

theorem one_wide (t r : Nat) (h : t ≤ r) : upto (fun j => (if t ≤ j then 1 else 0) * 2 ^ j) r + 2 ^ t = 2 ^ r := by
  induction r with
  | zero => simp [upto, show t = 0 from by omega]
  | succ r ih =>
    simp only [upto]
    by_cases e : t ≤ r
    · have := ih e
      rw [if_pos e, Nat.pow_succ]; omega
    · rw [if_neg e, show t = r + 1 from by omega]
      have : upto (fun j => (if r + 1 ≤ j then 1 else 0) * 2 ^ j) r = upto (fun _ => 0) r := upto_congr r (fun j hj => by rw [if_neg (by omega)]; simp)
      rw [this, upto_zero]; simp

/-- Symbols: what each counts, and how long its word is. M: the most. -/
def cost (L : List (Nat × Nat)) : Nat := (L.map fun x => x.1 * x.2).sum
def kraft (M : Nat) (L : List (Nat × Nat)) : Nat := (L.map fun x => 2 ^ (M - x.2)).sum
/-- Those that reach level j. -/
def those (M : Nat) (L : List (Nat × Nat)) (j : Nat) : List (Nat × Nat) := L.filter fun x => decide (M - x.2 ≤ j)
def many (M : Nat) (L : List (Nat × Nat)) (j : Nat) : Nat := (those M L j).length

theorem many_cons (M : Nat) (x : Nat × Nat) (L : List (Nat × Nat)) (j : Nat) : many M (x :: L) j = (if M - x.2 ≤ j then 1 else 0) + many M L j := by
  unfold many those
  rw [List.filter_cons]
  by_cases h : M - x.2 ≤ j
  · simp [h]; omega
  · simp [h]

theorem many_le (M : Nat) (L : List (Nat × Nat)) (j : Nat) : many M L j ≤ L.length := List.length_filter_le _ _

theorem cost_upto (M : Nat) (L : List (Nat × Nat)) (h : ∀ x ∈ L, x.2 ≤ M) : cost L = upto (fun j => ((those M L j).map (·.1)).sum) M := by
  induction L with
  | nil => simp [cost, those, upto_zero]
  | cons x L ih =>
    have h1 := ih (fun y hy => h y (by simp [hy]))
    have hx := h x (by simp)
    have e : (fun j => ((those M (x :: L) j).map (·.1)).sum) = fun j => (if M - x.2 ≤ j then x.1 else 0) + ((those M L j).map (·.1)).sum := by
      funext j
      unfold those
      rw [List.filter_cons]
      by_cases h : M - x.2 ≤ j <;> simp [h]
    rw [e, upto_add, ← h1, one_upto _ _ _ (by omega)]
    rw [show M - (M - x.2) = x.2 from by omega]
    rfl

theorem wide_kraft (M : Nat) (L : List (Nat × Nat)) : upto (fun j => many M L j * 2 ^ j) M + kraft M L = L.length * 2 ^ M := by
  induction L with
  | nil => simp [kraft, many, those, upto_zero]
  | cons x L ih =>
    have e : (fun j => many M (x :: L) j * 2 ^ j) = fun j => (if M - x.2 ≤ j then 1 else 0) * 2 ^ j + many M L j * 2 ^ j := by
      funext j
      rw [many_cons, Nat.add_mul]
    rw [e, upto_add]
    have h1 := one_wide (M - x.2) M (by omega)
    have h2 : kraft M (x :: L) = 2 ^ (M - x.2) + kraft M L := rfl
    rw [h2, List.length_cons, Nat.add_mul]
    omega

/-- What they cost is no less than the least that as many can cost at each level. -/
theorem cost_weigh (A : List Nat) (M : Nat) (L : List (Nat × Nat)) (hA : Ord A) (hp : A.Perm (L.map (·.1))) (h : ∀ x ∈ L, x.2 ≤ M) : upto (fun j => pre A (many M L j)) M ≤ cost L := by
  rw [cost_upto M L h]
  refine upto_le (fun j => ?_) M
  have hq : L.Perm (those M L j ++ L.filter fun x => !decide (M - x.2 ≤ j)) := (List.filter_append_perm _ L).symm
  have h2 := pre_least A ((those M L j).map (·.1)) ((L.filter fun x => !decide (M - x.2 ≤ j)).map (·.1)) hA (hp.trans (by rw [← List.map_append]; exact hq.map _))
  simpa [many] using h2

/-- THE LEAST: lengths of a whole code (or of less than one) cost no less than the first 2 (n - 1) of the last list. -/
theorem least (A : List Nat) (P : Nat → List Nat) (D : Nat) (L : List (Nat × Nat)) (hA : Ord A) (h0 : P 0 = A) (hP : ∀ j, Ord (P (j + 1)) ∧ (P (j + 1)).Perm (A ++ pairs (P j)))
    (hp : A.Perm (L.map (·.1))) (h : ∀ x ∈ L, x.2 ≤ D + 1) (hK : kraft (D + 1) L ≤ 2 ^ (D + 1)) (hn : 0 < L.length) : pre (P D) (2 * (L.length - 1)) ≤ cost L := by
  have hl : A.length = L.length := by simpa using hp.length_eq
  have h1 := wide_kraft (D + 1) L
  have h2 : (2 * (L.length - 1)) * 2 ^ D ≤ wide (many (D + 1) L) D := by
    rw [wide_upto]
    obtain ⟨m, hm⟩ : ∃ m, L.length = m + 1 := ⟨L.length - 1, by omega⟩
    rw [hm] at h1 ⊢
    rw [Nat.add_mul] at h1
    have e : 2 * (m + 1 - 1) * 2 ^ D = m * 2 ^ (D + 1) := by rw [Nat.pow_succ, Nat.add_sub_cancel, Nat.mul_comm 2 m, Nat.mul_assoc, Nat.mul_comm 2]
    omega
  have h3 : 2 * (L.length - 1) ≤ tot (many (D + 1) L) D := by
    rw [tot_wide]
    exact (Nat.le_div_iff_mul_le (Nat.two_pow_pos D)).2 h2
  have h4 := (bound A P h0 hP (many (D + 1) L) (fun j => by rw [hl]; exact many_le _ _ _) D _ h3).1
  have h5 := cost_weigh A (D + 1) L hA hp h
  rw [weigh_upto] at h4
  omega

end Go.Proofs.YtkdckcengmkhhajDoor.Pm
