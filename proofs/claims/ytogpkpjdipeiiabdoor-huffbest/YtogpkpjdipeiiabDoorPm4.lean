/- Plain facts: packages as lists of symbols; of the first 2 (n - 1) of the last list, how often each symbol is met is a length; these lengths are those of a code, and cost the least. -/
import Derived.Test.YtogpkpjdipeiiabDoorPm3
namespace Go.Proofs.YtogpkpjdipeiiabDoor.Pm

theorem perm_split {α : Type} [DecidableEq α] (A B T R : List α) (h : (A ++ B).Perm (T ++ R)) : ∃ S S' U U', T.Perm (S ++ U) ∧ A.Perm (S ++ S') ∧ B.Perm (U ++ U') := by
  induction A generalizing T R with
  | nil => exact ⟨[], [], T, R, List.Perm.refl _, List.Perm.refl _, h⟩
  | cons a A ih =>
    have hm : a ∈ T ++ R := h.subset (by simp)
    rcases List.mem_append.1 hm with hT | hR
    · have ht := List.perm_cons_erase hT
      have h1 : (a :: (A ++ B)).Perm (a :: (T.erase a ++ R)) := h.trans (ht.append_right R)
      obtain ⟨S, S', U, U', h2, h3, h4⟩ := ih (T.erase a) R ((List.perm_cons a).1 h1)
      exact ⟨a :: S, S', U, U', ht.trans (h2.cons a), h3.cons a, h4⟩
    · have hr := List.perm_cons_erase hR
      have h1 : (a :: (A ++ B)).Perm (a :: (T ++ R.erase a)) := h.trans ((hr.append_left T).trans List.perm_middle)
      obtain ⟨S, S', U, U', h2, h3, h4⟩ := ih T (R.erase a) ((List.perm_cons a).1 h1)
      exact ⟨S, a :: S', U, U', h2, (h3.cons a).trans List.perm_middle.symm, h4⟩

/-- Neighbours by twos, as lists of symbols. -/
def cat : List (List Nat) → List (List Nat)
  | a :: b :: r => (a ++ b) :: cat r
  | _ => []

theorem cat_sub (Q U U' : List (List Nat)) (h : (cat Q).Perm (U ++ U')) : ∃ T R, Q.Perm (T ++ R) ∧ T.length = 2 * U.length ∧ T.flatten.Perm U.flatten := by
  match Q with
  | [] =>
    have := h.length_eq
    simp [cat] at this
    obtain rfl : U = [] := List.length_eq_zero_iff.1 (by omega)
    exact ⟨[], [], List.Perm.refl _, rfl, List.Perm.refl _⟩
  | [a] =>
    have := h.length_eq
    simp [cat] at this
    obtain rfl : U = [] := List.length_eq_zero_iff.1 (by omega)
    exact ⟨[], [a], List.Perm.refl _, rfl, List.Perm.refl _⟩
  | a :: b :: r =>
    have hm : (a ++ b) ∈ U ++ U' := h.subset (by simp [cat])
    rcases List.mem_append.1 hm with hU | hU
    · have hu := List.perm_cons_erase hU
      have h1 : ((a ++ b) :: cat r).Perm ((a ++ b) :: (U.erase (a ++ b) ++ U')) := h.trans (hu.append_right U')
      obtain ⟨T, R, h2, h3, h4⟩ := cat_sub r (U.erase (a ++ b)) U' ((List.perm_cons _).1 h1)
      refine ⟨a :: b :: T, R, (h2.cons b).cons a, ?_, ?_⟩
      · rw [hu.length_eq]; simp only [List.length_cons]; omega
      · refine List.Perm.trans ?_ hu.flatten.symm
        simp only [List.flatten_cons, List.append_assoc]
        exact (h4.append_left b).append_left a
    · have hu := List.perm_cons_erase hU
      have h1 : ((a ++ b) :: cat r).Perm ((a ++ b) :: (U ++ U'.erase (a ++ b))) := h.trans ((hu.append_left U).trans List.perm_middle)
      obtain ⟨T, R, h2, h3, h4⟩ := cat_sub r U (U'.erase (a ++ b)) ((List.perm_cons _).1 h1)
      refine ⟨T, a :: b :: R, ?_, h3, h4⟩
      exact ((h2.cons b).cons a).trans (((List.perm_middle.symm).cons a).trans List.perm_middle.symm)

def singles (n : Nat) : List (List Nat) := (List.range n).map fun i => [i]

/-- How wide lengths up to j + 1 are. -/
def room (n j : Nat) (l : Nat → Nat) : Nat := upto (fun i => 2 ^ (j + 1) - 2 ^ (j + 1 - l i)) n

theorem count_upto (n : Nat) (F : List Nat) (h : ∀ x ∈ F, x < n) : upto (fun i => F.count i) n = F.length := by
  induction F with
  | nil => simp only [List.count_nil]; exact upto_zero n
  | cons a F ih =>
    have ha := h a (by simp)
    have h1 := ih (fun x hx => h x (by simp [hx]))
    have e : upto (fun i => (a :: F).count i) n = upto (fun i => F.count i + if a = i then 1 else 0) n := upto_congr n (fun i _ => by rw [List.count_cons]; simp)
    have e2 : ∀ m, upto (fun i => if a = i then 1 else 0) m = if a < m then 1 else 0 := by
      intro m
      induction m with
      | zero => rfl
      | succ m ih =>
        show (if a = m then 1 else 0) + upto (fun i => if a = i then 1 else 0) m = _
        rw [ih]
        by_cases e1 : a = m
        · subst e1; simp
        · rw [if_neg e1]
          by_cases e3 : a < m
          · rw [if_pos e3, if_pos (by omega)]
          · rw [if_neg e3, if_neg (by omega)]
    rw [e, upto_add, h1, e2, if_pos ha, List.length_cons]

theorem flat_singles (n : Nat) : (singles n).flatten = List.range n := by
  unfold singles
  induction (List.range n) with
  | nil => rfl
  | cons a l ih => simp only [List.map_cons, List.flatten_cons, ih]; rfl

theorem flat_length (S : List (List Nat)) (h : ∀ x ∈ S, x.length = 1) : S.flatten.length = S.length := by
  induction S with
  | nil => rfl
  | cons a S ih => rw [List.flatten_cons, List.length_append, h a (by simp), ih (fun x hx => h x (by simp [hx])), List.length_cons]; omega

theorem singles_sub (S : List (List Nat)) (n : Nat) (S' : List (List Nat)) (h : (singles n).Perm (S ++ S')) : (∀ i, S.flatten.count i ≤ 1) ∧ (∀ x ∈ S.flatten, x < n) ∧ upto (fun i => S.flatten.count i) n = S.length := by
  have hf : (List.range n).Perm (S.flatten ++ S'.flatten) := by
    have := h.flatten
    rw [List.flatten_append, flat_singles] at this
    exact this
  have hall : ∀ x ∈ S, x.length = 1 := by
    intro x hx
    have : x ∈ singles n := h.symm.subset (by simp [hx])
    unfold singles at this
    obtain ⟨i, _, rfl⟩ := List.mem_map.1 this
    rfl
  have hlt : ∀ x ∈ S.flatten, x < n := fun x hx => List.mem_range.1 (hf.symm.subset (List.mem_append_left _ hx))
  refine ⟨fun i => ?_, hlt, ?_⟩
  · have h1 := hf.count_eq i
    rw [List.count_append] at h1
    have h2 : (List.range n).count i ≤ 1 := List.nodup_iff_count.1 List.nodup_range i
    omega
  · rw [count_upto n _ hlt, flat_length S hall]

theorem upto_mul (f : Nat → Nat) (x n : Nat) : upto (fun i => f i * x) n = upto f n * x := by
  induction n with
  | zero => simp [upto]
  | succ n ih => simp only [upto]; rw [ih, Nat.add_mul]

/-- THE WIDTH: of whatever is taken out of list j, lengths (how often each symbol is met) have room for it. -/
theorem width (n : Nat) (Q : Nat → List (List Nat)) (h0 : (Q 0).Perm (singles n)) (hQ : ∀ j, (Q (j + 1)).Perm (singles n ++ cat (Q j))) :
    ∀ j T R, (Q j).Perm (T ++ R) → (∀ i, T.flatten.count i ≤ j + 1) ∧ (∀ x ∈ T.flatten, x < n) ∧ T.length * 2 ^ j ≤ room n j (fun i => T.flatten.count i) := by
  intro j
  induction j with
  | zero =>
    intro T R h
    obtain ⟨h1, h2, h3⟩ := singles_sub T n R (h0.symm.trans h)
    refine ⟨h1, h2, ?_⟩
    rw [← h3, Nat.pow_zero, Nat.mul_one]
    unfold room
    refine Nat.le_of_eq (upto_congr n (fun i _ => ?_))
    have := h1 i
    show T.flatten.count i = 2 ^ (0 + 1) - 2 ^ (0 + 1 - T.flatten.count i)
    generalize T.flatten.count i = c at *
    rcases (show c = 0 ∨ c = 1 by omega) with rfl | rfl <;> rfl
  | succ j ih =>
    intro T R h
    obtain ⟨S, S', U, U', hT, hS, hU⟩ := perm_split _ _ T R ((hQ j).symm.trans h)
    obtain ⟨T', R', hq, hl, hf⟩ := cat_sub (Q j) U U' hU
    obtain ⟨a1, a2, a3⟩ := ih T' R' hq
    obtain ⟨b1, b2, b3⟩ := singles_sub S n S' hS
    have hflat : T.flatten.Perm (S.flatten ++ U.flatten) := by have := hT.flatten; rw [List.flatten_append] at this; exact this
    have hcount : ∀ i, T.flatten.count i = S.flatten.count i + T'.flatten.count i := fun i => by rw [hflat.count_eq i, List.count_append, hf.count_eq i]
    refine ⟨fun i => by rw [hcount]; have := a1 i; have := b1 i; omega, fun x hx => ?_, ?_⟩
    · rcases List.mem_append.1 (hflat.subset hx) with hx | hx
      · exact b2 x hx
      · exact a2 x (hf.symm.subset hx)
    · have hlen : T.length = S.length + U.length := by rw [hT.length_eq, List.length_append]
      have key : upto (fun i => S.flatten.count i * 2 ^ (j + 1) + (2 ^ (j + 1) - 2 ^ (j + 1 - T'.flatten.count i))) n ≤ room n (j + 1) (fun i => T.flatten.count i) := by
        unfold room
        refine upto_le (fun i => ?_) n
        show _ ≤ 2 ^ (j + 1 + 1) - 2 ^ (j + 1 + 1 - T.flatten.count i)
        rw [hcount i]
        have c1 := a1 i
        have c2 := b1 i
        generalize S.flatten.count i = s at *
        generalize T'.flatten.count i = t at *
        have p1 : 2 ^ (j + 1 - t) ≤ 2 ^ (j + 1) := Nat.pow_le_pow_right (by omega) (by omega)
        rcases (show s = 0 ∨ s = 1 by omega) with rfl | rfl
        · rw [Nat.zero_mul, Nat.zero_add, Nat.zero_add, show j + 1 + 1 - t = (j + 1 - t) + 1 from by omega, Nat.pow_succ, Nat.pow_succ 2 (j + 1)]
          omega
        · rw [Nat.one_mul, show j + 1 + 1 - (1 + t) = j + 1 - t from by omega, Nat.pow_succ 2 (j + 1)]
          omega
      rw [upto_add] at key
      have e1 : upto (fun i => S.flatten.count i * 2 ^ (j + 1)) n = S.length * 2 ^ (j + 1) := by
        rw [← b3, upto_mul]
      have e2 : T'.length * 2 ^ j = U.length * 2 ^ (j + 1) := by rw [hl, Nat.pow_succ, Nat.mul_comm 2, Nat.mul_assoc, Nat.mul_comm 2]
      rw [e1] at key
      rw [e2] at a3
      have a4 : U.length * 2 ^ (j + 1) ≤ upto (fun i => 2 ^ (j + 1) - 2 ^ (j + 1 - T'.flatten.count i)) n := a3
      rw [hlen, Nat.add_mul]
      omega

/-- What a package weighs. -/
def load (c : Nat → Nat) (p : List Nat) : Nat := (p.map c).sum

theorem cat_load (c : Nat → Nat) (Q : List (List Nat)) : (cat Q).map (load c) = pairs (Q.map (load c)) := by
  match Q with
  | [] => rfl
  | [a] => rfl
  | a :: b :: r =>
    simp only [cat, List.map_cons, pairs]
    rw [cat_load c r]
    simp [load]

theorem flat_load (c : Nat → Nat) (T : List (List Nat)) : (T.map (load c)).sum = (T.flatten.map c).sum := by
  induction T with
  | nil => rfl
  | cons a T ih => rw [List.map_cons, List.sum_cons, ih, List.flatten_cons, List.map_append, List.sum_append]; rfl

theorem count_load (c : Nat → Nat) (n : Nat) (F : List Nat) (h : ∀ x ∈ F, x < n) : (F.map c).sum = upto (fun i => c i * F.count i) n := by
  induction F with
  | nil => simp only [List.count_nil, Nat.mul_zero]; rw [upto_zero]; rfl
  | cons a F ih =>
    have ha := h a (by simp)
    have h1 := ih (fun x hx => h x (by simp [hx]))
    have e : upto (fun i => c i * (a :: F).count i) n = upto (fun i => c i * F.count i + if a = i then c i else 0) n := upto_congr n (fun i _ => by
      rw [List.count_cons]
      by_cases hab : a = i
      · subst hab; simp [Nat.mul_add]
      · simp [hab])
    have e2 : ∀ m, upto (fun i => if a = i then c i else 0) m = if a < m then c a else 0 := by
      intro m
      induction m with
      | zero => rfl
      | succ m ih =>
        show (if a = m then c m else 0) + upto (fun i => if a = i then c i else 0) m = _
        rw [ih]
        by_cases e1 : a = m
        · subst e1; simp
        · rw [if_neg e1]
          by_cases e3 : a < m
          · rw [if_pos e3, if_pos (by omega)]; omega
          · rw [if_neg e3, if_neg (by omega)]
    rw [e, upto_add, ← h1, e2, if_pos ha, List.map_cons, List.sum_cons]
    omega

theorem range_upto (f : Nat → Nat) (n : Nat) : ((List.range n).map f).sum = upto f n := by
  induction n with
  | zero => rfl
  | succ n ih => rw [List.range_succ, List.map_append, List.sum_append, ih]; simp [upto]; omega

theorem cat_length (Q : List (List Nat)) : (cat Q).length = Q.length / 2 := by
  match Q with
  | [] => rfl
  | [a] => simp [cat]
  | a :: b :: r =>
    simp only [cat, List.length_cons]
    rw [cat_length r]
    omega

theorem enough (n : Nat) (Q : Nat → List (List Nat)) (h0 : (Q 0).Perm (singles n)) (hQ : ∀ j, (Q (j + 1)).Perm (singles n ++ cat (Q j))) (j : Nat) : 2 * n ≤ (Q j).length + (n + 2 ^ j - 1) / 2 ^ j := by
  have hs : (singles n).length = n := by simp [singles]
  induction j with
  | zero => rw [h0.length_eq, hs]; simp; omega
  | succ j ih =>
    rw [(hQ j).length_eq, List.length_append, hs, cat_length]
    have e : (n + 2 ^ (j + 1) - 1) / 2 ^ (j + 1) = ((n + 2 ^ j - 1) / 2 ^ j + 1) / 2 := by
      have hp := Nat.two_pow_pos j
      rw [Nat.pow_succ, ← Nat.div_div_eq_div_mul]
      congr 1
      rw [show n + 2 ^ j * 2 - 1 = (n + 2 ^ j - 1) + 2 ^ j from by omega, Nat.add_div_right _ hp]
    rw [e]
    omega

theorem enough_top (n : Nat) (Q : Nat → List (List Nat)) (h0 : (Q 0).Perm (singles n)) (hQ : ∀ j, (Q (j + 1)).Perm (singles n ++ cat (Q j))) (D : Nat) (hn : n ≤ 2 ^ (D + 1)) (h1 : 0 < n) : 2 * (n - 1) ≤ (Q D).length := by
  have h := enough n Q h0 hQ D
  have hp := Nat.two_pow_pos D
  have : (n + 2 ^ D - 1) / 2 ^ D ≤ 2 := by
    rw [Nat.pow_succ] at hn
    have : (n + 2 ^ D - 1) / 2 ^ D < 3 := (Nat.div_lt_iff_lt_mul hp).2 (by omega)
    omega
  omega

/-- THE WHOLE: the lengths that merged packages give. -/
theorem merged_best (c : Nat → Nat) (n D : Nat) (Q : Nat → List (List Nat)) (h0 : (Q 0).Perm (singles n)) (hQ : ∀ j, (Q (j + 1)).Perm (singles n ++ cat (Q j))) (ho : ∀ j, Ord ((Q j).map (load c)))
    (hc : ∀ i, i < n → 1 ≤ c i) (h2 : 2 ≤ n) (hn : n ≤ 2 ^ (D + 1)) (l : Nat → Nat) (hl : ∀ i, i < n → l i = ((Q D).take (2 * (n - 1))).flatten.count i) (hb : upto (fun i => c i * l i) n < never) :
    (∀ i, i < n → 1 ≤ l i ∧ l i ≤ D + 1) ∧ upto (fun i => 2 ^ (D + 1 - l i)) n = 2 ^ (D + 1) ∧ bst ((Q 0).map (load c)) n (D + 1) 0 2 = upto (fun i => c i * l i) n := by
  have hperm : (Q D).Perm ((Q D).take (2 * (n - 1)) ++ (Q D).drop (2 * (n - 1))) := by rw [List.take_append_drop]
  obtain ⟨w1, w2, w3⟩ := width n Q h0 hQ D _ _ hperm
  have hlen : ((Q D).take (2 * (n - 1))).length = 2 * (n - 1) := by rw [List.length_take]; have := enough_top n Q h0 hQ D hn (by omega); omega
  have hroom : room n D (fun i => ((Q D).take (2 * (n - 1))).flatten.count i) + upto (fun i => 2 ^ (D + 1 - l i)) n = n * 2 ^ (D + 1) := by
    unfold room
    rw [← upto_add]
    have : ∀ m, upto (fun _ => 2 ^ (D + 1)) m = m * 2 ^ (D + 1) := by
      intro m
      induction m with
      | zero => simp [upto]
      | succ m ih => simp only [upto]; rw [ih, Nat.add_mul]; omega
    rw [← this n]
    refine upto_congr n (fun i hi => ?_)
    show 2 ^ (D + 1) - 2 ^ (D + 1 - ((Q D).take (2 * (n - 1))).flatten.count i) + 2 ^ (D + 1 - l i) = 2 ^ (D + 1)
    rw [← hl i hi]
    have := Nat.pow_le_pow_right (n := 2) (by omega) (show D + 1 - l i ≤ D + 1 by omega)
    omega
  have hK : upto (fun i => 2 ^ (D + 1 - l i)) n ≤ 2 ^ (D + 1) := by
    rw [hlen] at w3
    obtain ⟨m, rfl⟩ : ∃ m, n = m + 1 := ⟨n - 1, by omega⟩
    have e : 2 * (m + 1 - 1) * 2 ^ D = m * 2 ^ (D + 1) := by rw [Nat.pow_succ, Nat.add_sub_cancel, Nat.mul_comm 2 m, Nat.mul_assoc, Nat.mul_comm 2]
    rw [e] at w3
    rw [Nat.add_mul] at hroom
    omega
  have hup : ∀ i, i < n → l i ≤ D + 1 := fun i hi => by rw [hl i hi]; exact w1 i
  have hlow : ∀ i, i < n → 1 ≤ l i := by
    intro i hi
    rcases Nat.eq_zero_or_pos (l i) with h | h
    · exfalso
      have : ∀ m, i < m → 2 ≤ m → 2 ^ (D + 1) < upto (fun i => 2 ^ (D + 1 - l i)) m := by
        intro m
        induction m with
        | zero => intro h; omega
        | succ m ih =>
          intro him h2m
          show _ < 2 ^ (D + 1 - l m) + upto (fun i => 2 ^ (D + 1 - l i)) m
          by_cases e : i = m
          · subst e
            rw [h, Nat.sub_zero]
            have : 0 < upto (fun k => 2 ^ (D + 1 - l k)) i := by
              obtain ⟨k, rfl⟩ : ∃ k, i = k + 1 := ⟨i - 1, by omega⟩
              have := Nat.two_pow_pos (D + 1 - l k)
              simp only [upto]; omega
            omega
          · by_cases e2 : m = 1
            · subst e2
              have hi0 : i = 0 := by omega
              subst hi0
              have := Nat.two_pow_pos (D + 1 - l 1)
              simp only [upto, h, Nat.sub_zero]
              omega
            · have := ih (by omega) (by omega)
              have := Nat.two_pow_pos (D + 1 - l m)
              omega
      have := this n hi h2
      omega
    · exact h
  -- as lists
  have hLs : ((List.range n).map fun i => (c i, l i)).length = n := by simp
  have hcost : cost ((List.range n).map fun i => (c i, l i)) = upto (fun i => c i * l i) n := by
    unfold cost
    rw [List.map_map]
    exact range_upto _ n
  have hkr : kraft (D + 1) ((List.range n).map fun i => (c i, l i)) = upto (fun i => 2 ^ (D + 1 - l i)) n := by
    unfold kraft
    rw [List.map_map]
    exact range_upto _ n
  have hA : ((Q 0).map (load c)).Perm (((List.range n).map fun i => (c i, l i)).map (·.1)) := by
    refine (h0.map _).trans (List.Perm.of_eq ?_)
    unfold singles
    rw [List.map_map, List.map_map]
    exact List.map_congr_left (fun i _ => by simp [load])
  have hP : ∀ j, Ord ((Q (j + 1)).map (load c)) ∧ ((Q (j + 1)).map (load c)).Perm ((Q 0).map (load c) ++ pairs ((Q j).map (load c))) := fun j => ⟨ho _, by
    refine ((hQ j).map _).trans ?_
    rw [List.map_append, cat_load]
    exact (h0.symm.map _).append_right _⟩
  have hpre : cost ((List.range n).map fun i => (c i, l i)) ≤ pre ((Q D).map (load c)) (2 * (n - 1)) := by
    unfold pre
    rw [hcost, ← List.map_take, flat_load, count_load c n _ w2]
    exact Nat.le_of_eq (upto_congr n (fun i hi => by rw [hl i hi]))
  have := best ((Q 0).map (load c)) (fun j => (Q j).map (load c)) D ((List.range n).map fun i => (c i, l i)) (ho 0) rfl hP hA
    (fun x hx => by
      obtain ⟨i, hi, rfl⟩ := List.mem_map.1 hx
      have hi := List.mem_range.1 hi
      exact ⟨hc i hi, hlow i hi, hup i hi⟩) (by rw [hkr]; exact hK) (by rw [hLs]; omega) (by rw [hLs]; exact hpre) (by rw [hcost]; exact hb)
  rw [hkr, hLs, hcost] at this
  exact ⟨fun i hi => ⟨hlow i hi, hup i hi⟩, this.1, this.2⟩

/-- In order there is but one list of the same numbers. -/
theorem ord_unique (A B : List Nat) (hA : Ord A) (hB : Ord B) (h : A.Perm B) : A = B := by
  induction A generalizing B with
  | nil => exact (List.Perm.nil_eq h)
  | cons a A ih =>
    cases B with
    | nil => exact absurd h.length_eq (by simp)
    | cons b B =>
      have h1 : a ∈ b :: B := h.subset (by simp)
      have h2 : b ∈ a :: A := h.symm.subset (by simp)
      have e1 : a ≤ b := by
        rcases List.mem_cons.1 h2 with e | e
        · omega
        · exact ord_head hA b e
      have e2 : b ≤ a := by
        rcases List.mem_cons.1 h1 with e | e
        · omega
        · exact ord_head hB a e
      have e : a = b := by omega
      subst e
      rw [ih B (ord_tail hA) (ord_tail hB) ((List.perm_cons a).1 h)]

end Go.Proofs.YtogpkpjdipeiiabDoor.Pm
