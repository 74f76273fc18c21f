/- Plain facts on the least cost, tried depth by depth: it is the least of whole codes; and a code that costs the least is whole. -/
import Derived.Test.YtogpkpjdipeiiabDoorPm
namespace Go.Proofs.YtogpkpjdipeiiabDoor.Pm

def never : Nat := 1099511627776

/-- The least of what is tried. -/
def lst (f : Nat → Nat) (c : Nat) : Nat → Nat
  | 0 => never
  | k + 1 => if f k < never ∧ c + f k < lst f c k then c + f k else lst f c k

theorem lst_le (f : Nat → Nat) (c K k : Nat) (hk : k < K) (hf : f k < never) : lst f c K ≤ c + f k := by
  induction K with
  | zero => omega
  | succ K ih =>
    simp only [lst]
    by_cases e : k = K
    · subst e
      split
      · exact Nat.le_refl _
      · rename_i h
        have : ¬ c + f k < lst f c k := fun h2 => h ⟨hf, h2⟩
        omega
    · have := ih (by omega)
      split <;> omega

theorem lst_way (f : Nat → Nat) (c K : Nat) (h : lst f c K < never) : ∃ k, k < K ∧ f k < never ∧ lst f c K = c + f k := by
  induction K with
  | zero => simp [lst] at h
  | succ K ih =>
    simp only [lst] at h ⊢
    split at h
    · rename_i h1
      rw [if_pos h1]
      exact ⟨K, by omega, h1.1, rfl⟩
    · rename_i h1
      rw [if_neg h1]
      obtain ⟨k, hk, h2, h3⟩ := ih h
      exact ⟨k, by omega, h2, h3⟩

/-- The least cost of what is still to be placed: r depths are left. -/
def bst (A : List Nat) (n : Nat) : Nat → Nat → Nat → Nat
  | 0, placed, places => if placed = n then (if places = 0 then 0 else never) else never
  | r + 1, placed, places =>
    if placed = n then (if places = 0 then 0 else never)
    else if places = 0 ∨ n - placed < places then never
    else lst (fun k => bst A n r (placed + k) (2 * (places - k))) (pre A (n - placed)) (places + 1)

/-- A way to place all. -/
inductive Way (A : List Nat) (n : Nat) : Nat → Nat → Nat → Nat → Prop
  | done (r : Nat) : Way A n r n 0 0
  | step (r placed places k c : Nat) (h1 : placed < n) (h2 : 0 < places) (h3 : places ≤ n - placed) (h4 : k ≤ places) (w : Way A n r (placed + k) (2 * (places - k)) c) : Way A n (r + 1) placed places (pre A (n - placed) + c)

theorem bst_le {A : List Nat} {n r placed places c : Nat} (w : Way A n r placed places c) (h : c < never) : bst A n r placed places ≤ c := by
  induction w with
  | done r => cases r <;> simp [bst]
  | step r placed places k c h1 h2 h3 h4 w ih =>
    have h5 := ih (by omega)
    rw [bst, if_neg (by omega), if_neg (by omega)]
    have := lst_le (fun k => bst A n r (placed + k) (2 * (places - k))) (pre A (n - placed)) (places + 1) k (by omega) (by show bst A n r (placed + k) (2 * (places - k)) < never; omega)
    omega

theorem bst_way (A : List Nat) (n r placed places : Nat) (hp : placed ≤ n) (h : bst A n r placed places < never) : Way A n r placed places (bst A n r placed places) := by
  induction r generalizing placed places with
  | zero =>
    simp only [bst] at h ⊢
    by_cases e : placed = n
    · subst e
      rw [if_pos rfl] at h ⊢
      by_cases e2 : places = 0
      · subst e2; rw [if_pos rfl]; exact Way.done 0
      · rw [if_neg e2] at h; omega
    · rw [if_neg e] at h; omega
  | succ r ih =>
    rw [bst] at h ⊢
    by_cases e : placed = n
    · subst e
      rw [if_pos rfl] at h ⊢
      by_cases e2 : places = 0
      · subst e2; rw [if_pos rfl]; exact Way.done _
      · rw [if_neg e2] at h; omega
    · rw [if_neg e] at h ⊢
      by_cases e2 : places = 0 ∨ n - placed < places
      · rw [if_pos e2] at h; omega
      · rw [if_neg e2] at h ⊢
        obtain ⟨k, hk, h2, h3⟩ := lst_way _ _ _ h
        rw [h3]
        exact Way.step r placed places k _ (by omega) (by omega) (by omega) (by omega) (ih (placed + k) (2 * (places - k)) (by omega) h2)

/-- A way, told by how many are not yet placed at each level. -/
theorem way_wide {A : List Nat} {n r placed places c : Nat} (w : Way A n r placed places c) (hp : placed ≤ n) :
    ∃ s : Nat → Nat, (∀ j, s j ≤ n) ∧ (∀ j, r ≤ j → s j = 0) ∧ upto (fun j => pre A (s j)) r = c ∧ 2 * upto (fun j => s j * 2 ^ j) r + places * 2 ^ r = 2 * ((n - placed) * 2 ^ r) := by
  induction w with
  | done r =>
    refine ⟨fun _ => 0, fun _ => Nat.zero_le _, fun _ _ => rfl, ?_, ?_⟩
    · simp only [pre_zero]; exact upto_zero r
    · simp only [Nat.zero_mul]; rw [upto_zero]; simp
  | step r placed places k c h1 h2 h3 h4 w ih =>
    obtain ⟨s, hs, hz, hc, hw⟩ := ih (by omega)
    clear ih w
    refine ⟨fun j => if j = r then n - placed else s j, fun j => ?_, fun j hj => ?_, ?_, ?_⟩
    · show (if j = r then n - placed else s j) ≤ n
      split
      · omega
      · exact hs j
    · show (if j = r then n - placed else s j) = 0
      rw [if_neg (by omega)]; exact hz j (by omega)
    · show pre A (if r = r then n - placed else s r) + upto (fun j => pre A (if j = r then n - placed else s j)) r = _
      rw [if_pos rfl, upto_congr (g := fun j => pre A (s j)) r (fun j hj => by rw [if_neg (by omega)]), hc]
    · show 2 * ((if r = r then n - placed else s r) * 2 ^ r + upto (fun j => (if j = r then n - placed else s j) * 2 ^ j) r) + _ = _
      rw [if_pos rfl, upto_congr (g := fun j => s j * 2 ^ j) r (fun j hj => by rw [if_neg (by omega)])]
      obtain ⟨u, hu⟩ : ∃ u, n - placed = u + k := ⟨n - placed - k, by omega⟩
      obtain ⟨q, hq⟩ : ∃ q, places = q + k := ⟨places - k, by omega⟩
      have e1 : n - (placed + k) = u := by omega
      rw [e1, hq, Nat.add_sub_cancel] at hw
      rw [hu, hq, Nat.pow_succ]
      generalize 2 ^ r = x at *
      generalize upto (fun j => s j * 2 ^ j) r = y at *
      have a1 : (u + k) * x = u * x + k * x := Nat.add_mul _ _ _
      have a2 : (q + k) * (x * 2) = 2 * (q * x) + 2 * (k * x) := by rw [← Nat.mul_assoc, Nat.add_mul, Nat.mul_comm _ 2, Nat.mul_add]
      have a3 : (u + k) * (x * 2) = 2 * (u * x) + 2 * (k * x) := by rw [← Nat.mul_assoc, Nat.add_mul, Nat.mul_comm _ 2, Nat.mul_add]
      have a4 : 2 * q * x = 2 * (q * x) := Nat.mul_assoc _ _ _
      rw [a1, a2, a3]
      omega

/-- What the trying finds is no less than the first 2 (n - 1) of the last list. -/
theorem bst_ge (A : List Nat) (P : Nat → List Nat) (D n : Nat) (h0 : P 0 = A) (hP : ∀ j, Ord (P (j + 1)) ∧ (P (j + 1)).Perm (A ++ pairs (P j))) (hn : A.length = n) (h1 : 0 < n) (h : bst A n (D + 1) 0 2 < never) :
    pre (P D) (2 * (n - 1)) ≤ bst A n (D + 1) 0 2 := by
  obtain ⟨s, hs, hz, hc, hw⟩ := way_wide (bst_way A n (D + 1) 0 2 (by omega) h) (by omega)
  have h2 : (2 * (n - 1)) * 2 ^ D ≤ wide s D := by
    rw [wide_upto]
    obtain ⟨m, hm⟩ : ∃ m, n = m + 1 := ⟨n - 1, by omega⟩
    subst hm
    rw [Nat.sub_zero, Nat.add_mul] at hw
    have e : 2 * (m + 1 - 1) * 2 ^ D = m * 2 ^ (D + 1) := by rw [Nat.pow_succ, Nat.add_sub_cancel, Nat.mul_comm 2 m, Nat.mul_assoc, Nat.mul_comm 2]
    omega
  have h3 : 2 * (n - 1) ≤ tot s D := by
    rw [tot_wide]
    exact (Nat.le_div_iff_mul_le (Nat.two_pow_pos D)).2 h2
  have h4 := (bound A P h0 hP s (fun j => by rw [hn]; exact hs j) D _ h3).1
  rw [weigh_upto, hc] at h4
  exact h4

/-! ### Whole codes are ways. -/

/-- How many lie at level j. -/
def atLevel (M : Nat) (L : List (Nat × Nat)) (j : Nat) : Nat := (L.filter fun x => decide (M - x.2 = j)).length

theorem kraft_cons (M : Nat) (x : Nat × Nat) (L : List (Nat × Nat)) : kraft M (x :: L) = 2 ^ (M - x.2) + kraft M L := rfl
theorem those_yes (M : Nat) (x : Nat × Nat) (L : List (Nat × Nat)) (j : Nat) (h : M - x.2 ≤ j) : those M (x :: L) j = x :: those M L j := by
  unfold those; rw [List.filter_cons, if_pos (decide_eq_true h)]
theorem those_no (M : Nat) (x : Nat × Nat) (L : List (Nat × Nat)) (j : Nat) (h : ¬ M - x.2 ≤ j) : those M (x :: L) j = those M L j := by
  unfold those; rw [List.filter_cons, if_neg (by rw [decide_eq_false h]; simp)]
theorem atLevel_cons (M : Nat) (x : Nat × Nat) (L : List (Nat × Nat)) (j : Nat) : atLevel M (x :: L) j = (if M - x.2 = j then 1 else 0) + atLevel M L j := by
  unfold atLevel
  rw [List.filter_cons]
  by_cases h : M - x.2 = j
  · rw [if_pos (decide_eq_true h), if_pos h, List.length_cons]; omega
  · rw [if_neg (by rw [decide_eq_false h]; simp), if_neg h]; omega

theorem those_split (M : Nat) (L : List (Nat × Nat)) (r : Nat) : kraft M (those M L (r + 1)) = atLevel M L (r + 1) * 2 ^ (r + 1) + kraft M (those M L r) := by
  induction L with
  | nil => simp [those, kraft, atLevel]
  | cons x L ih =>
    rw [atLevel_cons]
    by_cases h1 : M - x.2 ≤ r
    · rw [those_yes _ _ _ _ h1, those_yes _ _ _ _ (show M - x.2 ≤ r + 1 by omega), if_neg (by omega), kraft_cons, kraft_cons, ih, Nat.zero_add]
      omega
    · by_cases h2 : M - x.2 ≤ r + 1
      · rw [those_no _ _ _ _ h1, those_yes _ _ _ _ h2, if_pos (by omega), kraft_cons, ih, Nat.add_mul, show M - x.2 = r + 1 from by omega]
        omega
      · rw [those_no _ _ _ _ h1, those_no _ _ _ _ h2, if_neg (by omega), ih, Nat.zero_add]

theorem many_split (M : Nat) (L : List (Nat × Nat)) (r : Nat) : many M L (r + 1) = atLevel M L (r + 1) + many M L r := by
  induction L with
  | nil => simp [those, many, atLevel]
  | cons x L ih =>
    rw [atLevel_cons, many_cons, many_cons, ih]
    by_cases h1 : M - x.2 ≤ r
    · rw [if_pos h1, if_pos (by omega), if_neg (by omega)]; omega
    · by_cases h2 : M - x.2 ≤ r + 1
      · rw [if_neg h1, if_pos h2, if_pos (by omega)]; omega
      · rw [if_neg h1, if_neg h2, if_neg (by omega)]; omega

theorem kraft_le (M : Nat) (L : List (Nat × Nat)) (r : Nat) : kraft M (those M L r) ≤ many M L r * 2 ^ r := by
  induction L with
  | nil => simp [those, kraft]
  | cons x L ih =>
    rw [many_cons]
    by_cases h1 : M - x.2 ≤ r
    · rw [those_yes _ _ _ _ h1, kraft_cons, if_pos h1, Nat.add_mul]
      have := Nat.pow_le_pow_right (n := 2) (by omega) h1
      omega
    · rw [those_no _ _ _ _ h1, if_neg h1, Nat.zero_add]
      exact ih

theorem kraft_pos (M : Nat) (L : List (Nat × Nat)) (h : 0 < L.length) : 0 < kraft M L := by
  match L, h with
  | x :: L, _ =>
    have : kraft M (x :: L) = 2 ^ (M - x.2) + kraft M L := rfl
    have := Nat.two_pow_pos (M - x.2)
    omega

theorem many_mono (M : Nat) (L : List (Nat × Nat)) {i j : Nat} (h : i ≤ j) : many M L i ≤ many M L j := by
  induction L with
  | nil => simp [many, those]
  | cons x L ih =>
    rw [many_cons, many_cons]
    by_cases a : M - x.2 ≤ i
    · rw [if_pos a, if_pos (by omega)]; omega
    · rw [if_neg a]; omega

/-- A whole code is a way, from each level on. -/
theorem way_level (A : List Nat) (M : Nat) (L : List (Nat × Nat)) (r q : Nat) (hK : kraft M (those M L r) = q * 2 ^ r) :
    Way A L.length (r + 1) (L.length - many M L r) q (upto (fun j => pre A (many M L j)) (r + 1)) := by
  induction r generalizing q with
  | zero =>
    have hk : kraft M (those M L 0) = many M L 0 := by
      have h1 := kraft_le M L 0
      have h2 : many M L 0 ≤ kraft M (those M L 0) := by
        unfold many
        generalize those M L 0 = T
        induction T with
        | nil => simp [kraft]
        | cons x T ih =>
          rw [kraft_cons, List.length_cons]
          have := Nat.two_pow_pos (M - x.2)
          omega
      simp at h1
      omega
    have hml := many_le M L 0
    rw [hk] at hK
    by_cases e : many M L 0 = 0
    · rw [e]
      have hq : q = 0 := by omega
      subst hq
      have : upto (fun j => pre A (many M L j)) (0 + 1) = 0 := by simp [upto, e, pre_zero]
      rw [this, Nat.sub_zero]
      exact Way.done _
    · have hq : q = many M L 0 := by omega
      have hs := Way.step (A := A) (n := L.length) 0 (L.length - many M L 0) q q 0 (by omega) (by omega) (by omega) (by omega) (by
        rw [Nat.sub_self, hq, show L.length - many M L 0 + many M L 0 = L.length from by omega]
        exact Way.done 0)
      rw [show L.length - (L.length - many M L 0) = many M L 0 from by omega] at hs
      exact hs
  | succ r ih =>
    have h1 := those_split M L r
    have h2 := many_split M L r
    have hml := many_le M L (r + 1)
    have hml0 := many_le M L r
    by_cases e : many M L (r + 1) = 0
    · have hz : ∀ j, j < r + 1 + 1 → many M L j = 0 := by
        intro j hj
        have := many_mono M L (show j ≤ r + 1 by omega)
        omega
      have hk : kraft M (those M L (r + 1)) = 0 := by have := kraft_le M L (r + 1); rw [e, Nat.zero_mul] at this; omega
      have hq : q = 0 := by
        rcases Nat.eq_zero_or_pos q with h | h
        · exact h
        · have := Nat.mul_pos h (Nat.two_pow_pos (r + 1)); omega
      subst hq
      have hu : upto (fun j => pre A (many M L j)) (r + 1 + 1) = 0 := by
        rw [upto_congr (g := fun _ => 0) _ (fun j hj => by rw [hz j hj, pre_zero]), upto_zero]
      rw [hu, e, Nat.sub_zero]
      exact Way.done _
    · have hx : atLevel M L (r + 1) ≤ q := by
        rcases Nat.lt_or_ge q (atLevel M L (r + 1)) with h | h
        · have := (Nat.mul_lt_mul_right (Nat.two_pow_pos (r + 1))).2 h
          omega
        · exact h
      obtain ⟨u, hu⟩ : ∃ u, q = atLevel M L (r + 1) + u := ⟨q - atLevel M L (r + 1), by omega⟩
      have hK2 : kraft M (those M L r) = 2 * u * 2 ^ r := by
        rw [hK, hu, Nat.add_mul] at h1
        have : u * 2 ^ (r + 1) = 2 * u * 2 ^ r := by rw [Nat.pow_succ, Nat.mul_comm (2 ^ r) 2, ← Nat.mul_assoc, Nat.mul_comm u 2]
        omega
      have hw := ih (2 * u) hK2
      have hqm : q ≤ many M L (r + 1) := by
        have := kraft_le M L (r + 1)
        rw [hK] at this
        exact Nat.le_of_mul_le_mul_right this (Nat.two_pow_pos (r + 1))
      have hq0 : 0 < q := by
        have hp := kraft_pos M (those M L (r + 1)) (by show 0 < many M L (r + 1); omega)
        rw [hK] at hp
        exact Nat.pos_of_mul_pos_right hp
      have hs := Way.step (A := A) (n := L.length) (r + 1) (L.length - many M L (r + 1)) q (atLevel M L (r + 1)) _ (by omega) hq0 (by omega) hx (by
        rw [show L.length - many M L (r + 1) + atLevel M L (r + 1) = L.length - many M L r from by omega, show q - atLevel M L (r + 1) = u from by omega]
        exact hw)
      rw [show L.length - (L.length - many M L (r + 1)) = many M L (r + 1) from by omega] at hs
      exact hs

end Go.Proofs.YtogpkpjdipeiiabDoor.Pm
