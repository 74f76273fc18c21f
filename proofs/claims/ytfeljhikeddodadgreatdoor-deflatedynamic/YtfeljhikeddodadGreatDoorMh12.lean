/- Plain facts on the least cost, tried depth by depth: it is the least of whole codes; and a code that costs the least is whole. Plain facts: a code that costs as little as merged packages do is whole, and the trying finds just its cost. Plain facts: packages as lists of symbols; of the first 2 (n - 1) of the last list, how often each symbol is met is a length; these lengths are those of a code, and cost the least. -/
import Derived.Test.YtfeljhikeddodadGreatDoorMh2
namespace Go.Proofs.YtfeljhikeddodadGreatDoor.Pm

def never : Nat := 1099511627776
/-- The least of what is tried. -/
def lst (f : Nat → Nat) (c : Nat) : Nat → Nat
  | 0 => never
  | k + 1 => if f k < never ∧ c + f k < lst f c k then c + f k else lst f c k
theorem lst_le (f : Nat → Nat) (c K k : Nat) (hk : k < K) (hf : f k < never) : lst f c K ≤ c + f k := by
  induction K with
  | zero => omega
  | succ K ih =>
    simp only [lst]
    by_cases e : k = K
    · subst e
      split
      · exact Nat.le_refl _
      · rename_i h
        have : ¬ c + f k < lst f c k := fun h2 => h ⟨hf, h2⟩
        omega
    · have := ih (by omega)
      split <;> omega
theorem lst_way (f : Nat → Nat) (c K : Nat) (h : lst f c K < never) : ∃ k, k < K ∧ f k < never ∧ lst f c K = c + f k := by
  induction K with
  | zero => simp [lst] at h
  | succ K ih =>
    simp only [lst] at h ⊢
    split at h
    · rename_i h1
      rw [if_pos h1]
      exact ⟨K, by omega, h1.1, rfl⟩
    · rename_i h1
      rw [if_neg h1]
      obtain ⟨k, hk, h2, h3⟩ := ih h
      exact ⟨k, by omega, h2, h3⟩
/-- The least cost of what is still to be placed: r depths are left. -/
def bst (A : List Nat) (n : Nat) : Nat → Nat → Nat → Nat
  | 0, placed, places => if placed = n then (if places = 0 then 0 else never) else never
  | r + 1, placed, places =>
    if placed = n then (if places = 0 then 0 else never)
    else if places = 0 ∨ n - placed < places then never
    else lst (fun k => bst A n r (placed + k) (2 * (places - k))) (pre A (n - placed)) (places + 1)
/-- A way to place all. -/
inductive Way (A : List Nat) (n : Nat) : Nat → Nat → Nat → Nat → Prop
  | done (r : Nat) : Way A n r n 0 0
  | step (r placed places k c : Nat) (h1 : placed < n) (h2 : 0 < places) (h3 : places ≤ n - placed) (h4 : k ≤ places) (w : Way A n r (placed + k) (2 * (places - k)) c) : Way A n (r + 1) placed places (pre A (n - placed) + c)
theorem bst_le {A : List Nat} {n r placed places c : Nat} (w : Way A n r placed places c) (h : c < never) : bst A n r placed places ≤ c := by
  induction w with
  | done r => cases r <;> simp [bst]
  | step r placed places k c h1 h2 h3 h4 w ih =>
    have h5 := ih (by omega)
    rw [bst, if_neg (by omega), if_neg (by omega)]
    have := lst_le (fun k => bst A n r (placed + k) (2 * (places - k))) (pre A (n - placed)) (places + 1) k (by omega) (by show bst A n r (placed + k) (2 * (places - k)) < never; omega)
    omega
theorem bst_way (A : List Nat) (n r placed places : Nat) (hp : placed ≤ n) (h : bst A n r placed places < never) : Way A n r placed places (bst A n r placed places) := by
  induction r generalizing placed places with
  | zero =>
    simp only [bst] at h ⊢
    by_cases e : placed = n
    · subst e
      rw [if_pos rfl] at h ⊢
      by_cases e2 : places = 0
      · subst e2; rw [if_pos rfl]; exact Way.done 0
      · rw [if_neg e2] at h; omega
    · rw [if_neg e] at h; omega
  | succ r ih =>
    rw [bst] at h ⊢
    by_cases e : placed = n
    · subst e
      rw [if_pos rfl] at h ⊢
      by_cases e2 : places = 0
      · subst e2; rw [if_pos rfl]; exact Way.done _
      · rw [if_neg e2] at h; omega
    · rw [if_neg e] at h ⊢
      by_cases e2 : places = 0 ∨ n - placed < places
      · rw [if_pos e2] at h; omega
      · rw [if_neg e2] at h ⊢
        obtain ⟨k, hk, h2, h3⟩ := lst_way _ _ _ h
        rw [h3]
        exact Way.step r placed places k _ (by omega) (by omega) (by omega) (by omega) (ih (placed + k) (2 * (places - k)) (by omega) h2)
/-- A way, told by how many are not yet placed at each level. -/
theorem way_wide {A : List Nat} {n r placed places c : Nat} (w : Way A n r placed places c) (hp : placed ≤ n) :
    ∃ s : Nat → Nat, (∀ j, s j ≤ n) ∧ (∀ j, r ≤ j → s j = 0) ∧ upto (fun j => pre A (s j)) r = c ∧ 2 * upto (fun j => s j * 2 ^ j) r + places * 2 ^ r = 2 * ((n - placed) * 2 ^ r) := by
  induction w with
  | done r =>
    refine ⟨fun _ => 0, fun _ => Nat.zero_le _, fun _ _ => rfl, ?_, ?_⟩
    · simp only [pre_zero]; exact upto_zero r
    · simp only [Nat.zero_mul]; rw [upto_zero]; simp
  | step r placed places k c h1 h2 h3 h4 w ih =>
    obtain ⟨s, hs, hz, hc, hw⟩ := ih (by omega)
    clear ih w
    refine ⟨fun j => if j = r then n - placed else s j, fun j => ?_, fun j hj => ?_, ?_, ?_⟩
    · show (if j = r then n - placed else s j) ≤ n
      split
      · omega
      · exact hs j
    · show (if j = r then n - placed else s j) = 0
      rw [if_neg (by omega)]; exact hz j (by omega)
    · show pre A (if r = r then n - placed else s r) + upto (fun j => pre A (if j = r then n - placed else s j)) r = _
      rw [if_pos rfl, upto_congr (g := fun j => pre A (s j)) r (fun j hj => by rw [if_neg (by omega)]), hc]
    · show 2 * ((if r = r then n - placed else s r) * 2 ^ r + upto (fun j => (if j = r then n - placed else s j) * 2 ^ j) r) + _ = _
      rw [if_pos rfl, upto_congr (g := fun j => s j * 2 ^ j) r (fun j hj => by rw [if_neg (by omega)])]
      obtain ⟨u, hu⟩ : ∃ u, n - placed = u + k := ⟨n - placed - k, by omega⟩
      obtain ⟨q, hq⟩ : ∃ q, places = q + k := ⟨places - k, by omega⟩
      have e1 : n - (placed + k) = u := by omega
      rw [e1, hq, Nat.add_sub_cancel] at hw
      rw [hu, hq, Nat.pow_succ]
      generalize 2 ^ r = x at *
      generalize upto (fun j => s j * 2 ^ j) r = y at *
      have a1 : (u + k) * x = u * x + k * x := Nat.add_mul _ _ _
      have a2 : (q + k) * (x * 2) = 2 * (q * x) + 2 * (k * x) := by rw [← Nat.mul_assoc, Nat.add_mul, Nat.mul_comm _ 2, Nat.mul_add]
      have a3 : (u + k) * (x * 2) = 2 * (u * x) + 2 * (k * x) := by rw [← Nat.mul_assoc, Nat.add_mul, Nat.mul_comm _ 2, Nat.mul_add]
      have a4 : 2 * q * x = 2 * (q * x) := Nat.mul_assoc _ _ _
      rw [a1, a2, a3]
      omega
/-- What the trying finds is no less than the first 2 (n - 1) of the last list. -/
theorem bst_ge (A : List Nat) (P : Nat → List Nat) (D n : Nat) (h0 : P 0 = A) (hP : ∀ j, Ord (P (j + 1)) ∧ (P (j + 1)).Perm (A ++ pairs (P j))) (hn : A.length = n) (h1 : 0 < n) (h : bst A n (D + 1) 0 2 < never) :
    pre (P D) (2 * (n - 1)) ≤ bst A n (D + 1) 0 2 := by
  obtain ⟨s, hs, hz, hc, hw⟩ := way_wide (bst_way A n (D + 1) 0 2 (by omega) h) (by omega)
  have h2 : (2 * (n - 1)) * 2 ^ D ≤ wide s D := by
    rw [wide_upto]
    obtain ⟨m, hm⟩ : ∃ m, n = m + 1 := ⟨n - 1, by omega⟩
    subst hm
    rw [Nat.sub_zero, Nat.add_mul] at hw
    have e : 2 * (m + 1 - 1) * 2 ^ D = m * 2 ^ (D + 1) := by rw [Nat.pow_succ, Nat.add_sub_cancel, Nat.mul_comm 2 m, Nat.mul_assoc, Nat.mul_comm 2]
    omega
  have h3 : 2 * (n - 1) ≤ tot s D := by
    rw [tot_wide]
    exact (Nat.le_div_iff_mul_le (Nat.two_pow_pos D)).2 h2
  have h4 := (bound A P h0 hP s (fun j => by rw [hn]; exact hs j) D _ h3).1
  rw [weigh_upto, hc] at h4
  exact h4
/-! ### Whole codes are ways. -/

/-- How many lie at level j. -/
def atLevel (M : Nat) (L : List (Nat × Nat)) (j : Nat) : Nat := (L.filter fun x => decide (M - x.2 = j)).length
theorem kraft_cons (M : Nat) (x : Nat × Nat) (L : List (Nat × Nat)) : kraft M (x :: L) = 2 ^ (M - x.2) + kraft M L := rfl
theorem those_yes (M : Nat) (x : Nat × Nat) (L : List (Nat × Nat)) (j : Nat) (h : M - x.2 ≤ j) : those M (x :: L) j = x :: those M L j := by
  unfold those; rw [List.filter_cons, if_pos (decide_eq_true h)]
theorem those_no (M : Nat) (x : Nat × Nat) (L : List (Nat × Nat)) (j : Nat) (h : ¬ M - x.2 ≤ j) : those M (x :: L) j = those M L j := by
  unfold those; rw [List.filter_cons, if_neg (by rw [decide_eq_false h]; simp)]
theorem atLevel_cons (M : Nat) (x : Nat × Nat) (L : List (Nat × Nat)) (j : Nat) : atLevel M (x :: L) j = (if M - x.2 = j then 1 else 0) + atLevel M L j := by
  unfold atLevel
  rw [List.filter_cons]
  by_cases h : M - x.2 = j
  · rw [if_pos (decide_eq_true h), if_pos h, List.length_cons]; omega
  · rw [if_neg (by rw [decide_eq_false h]; simp), if_neg h]; omega
theorem those_split (M : Nat) (L : List (Nat × Nat)) (r : Nat) : kraft M (those M L (r + 1)) = atLevel M L (r + 1) * 2 ^ (r + 1) + kraft M (those M L r) := by
  induction L with
  | nil => simp [those, kraft, atLevel]
  | cons x L ih =>
    rw [atLevel_cons]
    by_cases h1 : M - x.2 ≤ r
    · rw [those_yes _ _ _ _ h1, those_yes _ _ _ _ (show M - x.2 ≤ r + 1 by omega), if_neg (by omega), kraft_cons, kraft_cons, ih, Nat.zero_add]
      omega
    · by_cases h2 : M - x.2 ≤ r + 1
      · rw [those_no _ _ _ _ h1, those_yes _ _ _ _ h2, if_pos (by omega), kraft_cons, ih, Nat.add_mul, show M - x.2 = r + 1 from by omega]
        omega
      · rw [those_no _ _ _ _ h1, those_no _ _ _ _ h2, if_neg (by omega), ih, Nat.zero_add]
theorem many_split (M : Nat) (L : List (Nat × Nat)) (r : Nat) : many M L (r + 1) = atLevel M L (r + 1) + many M L r := by
  induction L with
  | nil => simp [those, many, atLevel]
  | cons x L ih =>
    rw [atLevel_cons, many_cons, many_cons, ih]
    by_cases h1 : M - x.2 ≤ r
    · rw [if_pos h1, if_pos (by omega), if_neg (by omega)]; omega
    · by_cases h2 : M - x.2 ≤ r + 1
      · rw [if_neg h1, if_pos h2, if_pos (by omega)]; omega
      · rw [if_neg h1, if_neg h2, if_neg (by omega)]; omega
theorem kraft_le (M : Nat) (L : List (Nat × Nat)) (r : Nat) : kraft M (those M L r) ≤ many M L r * 2 ^ r := by
  induction L with
  | nil => simp [those, kraft]
  | cons x L ih =>
    rw [many_cons]
    by_cases h1 : M - x.2 ≤ r
    · rw [those_yes _ _ _ _ h1, kraft_cons, if_pos h1, Nat.add_mul]
      have := Nat.pow_le_pow_right (n := 2) (by omega) h1
      omega
    · rw [those_no _ _ _ _ h1, if_neg h1, Nat.zero_add]
      exact ih
theorem kraft_pos (M : Nat) (L : List (Nat × Nat)) (h : 0 < L.length) : 0 < kraft M L := by
  match L, h with
  | x :: L, _ =>
    have : kraft M (x :: L) = 2 ^ (M - x.2) + kraft M L := rfl
    have := Nat.two_pow_pos (M - x.2)
    omega
theorem many_mono (M : Nat) (L : List (Nat × Nat)) {i j : Nat} (h : i ≤ j) : many M L i ≤ many M L j := by
  induction L with
  | nil => simp [many, those]
  | cons x L ih =>
    rw [many_cons, many_cons]
    by_cases a : M - x.2 ≤ i
    · rw [if_pos a, if_pos (by omega)]; omega
    · rw [if_neg a]; omega
/-- A whole code is a way, from each level on. -/
theorem way_level (A : List Nat) (M : Nat) (L : List (Nat × Nat)) (r q : Nat) (hK : kraft M (those M L r) = q * 2 ^ r) :
    Way A L.length (r + 1) (L.length - many M L r) q (upto (fun j => pre A (many M L j)) (r + 1)) := by
  induction r generalizing q with
  | zero =>
    have hk : kraft M (those M L 0) = many M L 0 := by
      have h1 := kraft_le M L 0
      have h2 : many M L 0 ≤ kraft M (those M L 0) := by
        unfold many
        generalize those M L 0 = T
        induction T with
        | nil => simp [kraft]
        | cons x T ih =>
          rw [kraft_cons, List.length_cons]
          have := Nat.two_pow_pos (M - x.2)
          omega
      simp at h1
      omega
    have hml := many_le M L 0
    rw [hk] at hK
    by_cases e : many M L 0 = 0
    · rw [e]
      have hq : q = 0 := by omega
      subst hq
      have : upto (fun j => pre A (many M L j)) (0 + 1) = 0 := by simp [upto, e, pre_zero]
      rw [this, Nat.sub_zero]
      exact Way.done _
    · have hq : q = many M L 0 := by omega
      have hs := Way.step (A := A) (n := L.length) 0 (L.length - many M L 0) q q 0 (by omega) (by omega) (by omega) (by omega) (by
        rw [Nat.sub_self, hq, show L.length - many M L 0 + many M L 0 = L.length from by omega]
        exact Way.done 0)
      rw [show L.length - (L.length - many M L 0) = many M L 0 from by omega] at hs
      exact hs
  | succ r ih =>
    have h1 := those_split M L r
    have h2 := many_split M L r
    have hml := many_le M L (r + 1)
    have hml0 := many_le M L r
    by_cases e : many M L (r + 1) = 0
    · have hz : ∀ j, j < r + 1 + 1 → many M L j = 0 := by
        intro j hj
        have := many_mono M L (show j ≤ r + 1 by omega)
        omega
      have hk : kraft M (those M L (r + 1)) = 0 := by have := kraft_le M L (r + 1); rw [e, Nat.zero_mul] at this; omega
      have hq : q = 0 := by
        rcases Nat.eq_zero_or_pos q with h | h
        · exact h
        · have := Nat.mul_pos h (Nat.two_pow_pos (r + 1)); omega
      subst hq
      have hu : upto (fun j => pre A (many M L j)) (r + 1 + 1) = 0 := by
        rw [upto_congr (g := fun _ => 0) _ (fun j hj => by rw [hz j hj, pre_zero]), upto_zero]
      rw [hu, e, Nat.sub_zero]
      exact Way.done _
    · have hx : atLevel M L (r + 1) ≤ q := by
        rcases Nat.lt_or_ge q (atLevel M L (r + 1)) with h | h
        · have := (Nat.mul_lt_mul_right (Nat.two_pow_pos (r + 1))).2 h
          omega
        · exact h
      obtain ⟨u, hu⟩ : ∃ u, q = atLevel M L (r + 1) + u := ⟨q - atLevel M L (r + 1), by omega⟩
      have hK2 : kraft M (those M L r) = 2 * u * 2 ^ r := by
        rw [hK, hu, Nat.add_mul] at h1
        have : u * 2 ^ (r + 1) = 2 * u * 2 ^ r := by rw [Nat.pow_succ, Nat.mul_comm (2 ^ r) 2, ← Nat.mul_assoc, Nat.mul_comm u 2]
        omega
      have hw := ih (2 * u) hK2
      have hqm : q ≤ many M L (r + 1) := by
        have := kraft_le M L (r + 1)
        rw [hK] at this
        exact Nat.le_of_mul_le_mul_right this (Nat.two_pow_pos (r + 1))
      have hq0 : 0 < q := by
        have hp := kraft_pos M (those M L (r + 1)) (by show 0 < many M L (r + 1); omega)
        rw [hK] at hp
        exact Nat.pos_of_mul_pos_right hp
      have hs := Way.step (A := A) (n := L.length) (r + 1) (L.length - many M L (r + 1)) q (atLevel M L (r + 1)) _ (by omega) hq0 (by omega) hx (by
        rw [show L.length - many M L (r + 1) + atLevel M L (r + 1) = L.length - many M L r from by omega, show q - atLevel M L (r + 1) = u from by omega]
        exact hw)
      rw [show L.length - (L.length - many M L (r + 1)) = many M L (r + 1) from by omega] at hs
      exact hs
end Go.Proofs.YtfeljhikeddodadGreatDoor.Pm
namespace Go.Proofs.YtfeljhikeddodadGreatDoor.Pm

theorem bst_le_cost (A : List Nat) (D : Nat) (L : List (Nat × Nat)) (hA : Ord A) (hp : A.Perm (L.map (·.1))) (h : ∀ x ∈ L, 1 ≤ x.2 ∧ x.2 ≤ D + 1) (hK : kraft (D + 1) L = 2 ^ (D + 1)) (hc : cost L < never) :
    bst A L.length (D + 1) 0 2 ≤ cost L := by
  have hall : those (D + 1) L D = L := by
    unfold those
    rw [List.filter_eq_self]
    intro x hx
    have := h x hx
    exact decide_eq_true (by omega)
  have hm : many (D + 1) L D = L.length := by unfold many; rw [hall]
  have hw := way_level A (D + 1) L D 2 (by rw [hall, hK, Nat.pow_succ, Nat.mul_comm])
  rw [hm, Nat.sub_self] at hw
  have h1 := cost_weigh A (D + 1) L hA hp (fun x hx => (h x hx).2)
  have h2 := bst_le hw (by omega)
  omega
theorem longest (L : List (Nat × Nat)) (h : 0 < L.length) : ∃ x ∈ L, ∀ y ∈ L, y.2 ≤ x.2 := by
  induction L with
  | nil => simp at h
  | cons a L ih =>
    by_cases e : L.length = 0
    · have : L = [] := List.length_eq_zero_iff.1 e
      subst this
      exact ⟨a, by simp, by simp⟩
    · obtain ⟨x, hx, hy⟩ := ih (by omega)
      by_cases hax : a.2 ≤ x.2
      · refine ⟨x, by simp [hx], fun y h => ?_⟩
        rcases List.mem_cons.1 h with rfl | h
        · exact hax
        · exact hy y h
      · refine ⟨a, by simp, fun y h => ?_⟩
        rcases List.mem_cons.1 h with rfl | h
        · exact Nat.le_refl _
        · have := hy y h; omega
theorem dvd_kraft (M l : Nat) (L : List (Nat × Nat)) (h : ∀ y ∈ L, y.2 ≤ l) : 2 ^ (M - l) ∣ kraft M L := by
  induction L with
  | nil => exact Nat.dvd_zero _
  | cons x L ih =>
    rw [kraft_cons]
    exact Nat.dvd_add (Nat.pow_dvd_pow 2 (by have := h x (by simp); omega)) (ih (fun y hy => h y (by simp [hy])))
theorem kraft_perm (M : Nat) {L L' : List (Nat × Nat)} (h : L.Perm L') : kraft M L = kraft M L' := (h.map _).sum_nat
theorem cost_perm {L L' : List (Nat × Nat)} (h : L.Perm L') : cost L = cost L' := (h.map _).sum_nat
/-- What costs the least is whole. -/
theorem tight (A : List Nat) (P : Nat → List Nat) (D : Nat) (L : List (Nat × Nat)) (hA : Ord A) (h0 : P 0 = A) (hP : ∀ j, Ord (P (j + 1)) ∧ (P (j + 1)).Perm (A ++ pairs (P j)))
    (hp : A.Perm (L.map (·.1))) (h : ∀ x ∈ L, 1 ≤ x.1 ∧ 1 ≤ x.2 ∧ x.2 ≤ D + 1) (hK : kraft (D + 1) L ≤ 2 ^ (D + 1)) (hn : 0 < L.length) (hc : cost L ≤ pre (P D) (2 * (L.length - 1))) : kraft (D + 1) L = 2 ^ (D + 1) := by
  rcases Nat.lt_or_ge (kraft (D + 1) L) (2 ^ (D + 1)) with hlt | hge
  · exfalso
    obtain ⟨x, hx, hmax⟩ := longest L hn
    have hpm := List.perm_cons_erase hx
    obtain ⟨c, l⟩ := x
    obtain ⟨hc1, hl1, hl2⟩ := h _ hx
    simp only at hc1 hl1 hl2 hmax
    have hd := dvd_kraft (D + 1) l L hmax
    have hd2 : 2 ^ (D + 1 - l) ∣ 2 ^ (D + 1) := Nat.pow_dvd_pow 2 (by omega)
    have hroom : kraft (D + 1) L + 2 ^ (D + 1 - l) ≤ 2 ^ (D + 1) := by
      obtain ⟨a, ha⟩ := hd
      obtain ⟨b, hb⟩ := hd2
      rw [ha, hb] at hlt ⊢
      have hab : a < b := Nat.lt_of_mul_lt_mul_left hlt
      have := Nat.mul_le_mul_left (2 ^ (D + 1 - l)) (show a + 1 ≤ b by omega)
      rw [Nat.mul_add, Nat.mul_one] at this
      exact this
    have hk := kraft_perm (D + 1) hpm
    have hcs := cost_perm hpm
    have hk2 : kraft (D + 1) ((c, l - 1) :: L.erase (c, l)) = 2 ^ (D + 1 - l) + 2 ^ (D + 1 - l) + kraft (D + 1) (L.erase (c, l)) := by
      rw [kraft_cons]
      show 2 ^ (D + 1 - (l - 1)) + _ = _
      rw [show D + 1 - (l - 1) = D + 1 - l + 1 from by omega, Nat.pow_succ, Nat.mul_two]
    rw [kraft_cons] at hk
    simp only at hk
    have hl := hpm.length_eq
    simp only [List.length_cons] at hl
    have h2 := least A P D ((c, l - 1) :: L.erase (c, l)) hA h0 hP (hp.trans (by simpa using hpm.map (·.1)))
      (fun y hy => by
        rcases List.mem_cons.1 hy with rfl | hy
        · show l - 1 ≤ D + 1; omega
        · exact (h y (List.mem_of_mem_erase hy)).2.2)
      (by rw [hk2]; omega) (by simp)
    simp only [List.length_cons] at h2
    rw [← hl] at h2
    have e1 : cost ((c, l - 1) :: L.erase (c, l)) = c * (l - 1) + cost (L.erase (c, l)) := rfl
    have e2 : cost ((c, l) :: L.erase (c, l)) = c * l + cost (L.erase (c, l)) := rfl
    rw [e1] at h2
    rw [e2] at hcs
    have e3 : c * l = c * (l - 1) + c := by
      obtain ⟨m, rfl⟩ : ∃ m, l = m + 1 := ⟨l - 1, by omega⟩
      rw [Nat.add_sub_cancel, Nat.mul_add, Nat.mul_one]
    omega
  · omega
/-- ALL OF IT: such a code is whole, and what is tried depth by depth is what it costs. -/
theorem best (A : List Nat) (P : Nat → List Nat) (D : Nat) (L : List (Nat × Nat)) (hA : Ord A) (h0 : P 0 = A) (hP : ∀ j, Ord (P (j + 1)) ∧ (P (j + 1)).Perm (A ++ pairs (P j)))
    (hp : A.Perm (L.map (·.1))) (h : ∀ x ∈ L, 1 ≤ x.1 ∧ 1 ≤ x.2 ∧ x.2 ≤ D + 1) (hK : kraft (D + 1) L ≤ 2 ^ (D + 1)) (hn : 0 < L.length) (hc : cost L ≤ pre (P D) (2 * (L.length - 1))) (hb : cost L < never) :
    kraft (D + 1) L = 2 ^ (D + 1) ∧ bst A L.length (D + 1) 0 2 = cost L := by
  have h1 := tight A P D L hA h0 hP hp h hK hn hc
  have h2 := bst_le_cost A D L hA hp (fun x hx => (h x hx).2) h1 hb
  have h3 := bst_ge A P D L.length h0 hP (by simpa using hp.length_eq) hn (by omega)
  exact ⟨h1, by omega⟩
end Go.Proofs.YtfeljhikeddodadGreatDoor.Pm
namespace Go.Proofs.YtfeljhikeddodadGreatDoor.Pm

theorem perm_split {α : Type} [DecidableEq α] (A B T R : List α) (h : (A ++ B).Perm (T ++ R)) : ∃ S S' U U', T.Perm (S ++ U) ∧ A.Perm (S ++ S') ∧ B.Perm (U ++ U') := by
  induction A generalizing T R with
  | nil => exact ⟨[], [], T, R, List.Perm.refl _, List.Perm.refl _, h⟩
  | cons a A ih =>
    have hm : a ∈ T ++ R := h.subset (by simp)
    rcases List.mem_append.1 hm with hT | hR
    · have ht := List.perm_cons_erase hT
      have h1 : (a :: (A ++ B)).Perm (a :: (T.erase a ++ R)) := h.trans (ht.append_right R)
      obtain ⟨S, S', U, U', h2, h3, h4⟩ := ih (T.erase a) R ((List.perm_cons a).1 h1)
      exact ⟨a :: S, S', U, U', ht.trans (h2.cons a), h3.cons a, h4⟩
    · have hr := List.perm_cons_erase hR
      have h1 : (a :: (A ++ B)).Perm (a :: (T ++ R.erase a)) := h.trans ((hr.append_left T).trans List.perm_middle)
      obtain ⟨S, S', U, U', h2, h3, h4⟩ := ih T (R.erase a) ((List.perm_cons a).1 h1)
      exact ⟨S, a :: S', U, U', h2, (h3.cons a).trans List.perm_middle.symm, h4⟩
/-- Neighbours by twos, as lists of symbols. -/
def cat : List (List Nat) → List (List Nat)
  | a :: b :: r => (a ++ b) :: cat r
  | _ => []
theorem cat_sub (Q U U' : List (List Nat)) (h : (cat Q).Perm (U ++ U')) : ∃ T R, Q.Perm (T ++ R) ∧ T.length = 2 * U.length ∧ T.flatten.Perm U.flatten := by
  match Q with
  | [] =>
    have := h.length_eq
    simp [cat] at this
    obtain rfl : U = [] := List.length_eq_zero_iff.1 (by omega)
    exact ⟨[], [], List.Perm.refl _, rfl, List.Perm.refl _⟩
  | [a] =>
    have := h.length_eq
    simp [cat] at this
    obtain rfl : U = [] := List.length_eq_zero_iff.1 (by omega)
    exact ⟨[], [a], List.Perm.refl _, rfl, List.Perm.refl _⟩
  | a :: b :: r =>
    have hm : (a ++ b) ∈ U ++ U' := h.subset (by simp [cat])
    rcases List.mem_append.1 hm with hU | hU
    · have hu := List.perm_cons_erase hU
      have h1 : ((a ++ b) :: cat r).Perm ((a ++ b) :: (U.erase (a ++ b) ++ U')) := h.trans (hu.append_right U')
      obtain ⟨T, R, h2, h3, h4⟩ := cat_sub r (U.erase (a ++ b)) U' ((List.perm_cons _).1 h1)
      refine ⟨a :: b :: T, R, (h2.cons b).cons a, ?_, ?_⟩
      · rw [hu.length_eq]; simp only [List.length_cons]; omega
      · refine List.Perm.trans ?_ hu.flatten.symm
        simp only [List.flatten_cons, List.append_assoc]
        exact (h4.append_left b).append_left a
    · have hu := List.perm_cons_erase hU
      have h1 : ((a ++ b) :: cat r).Perm ((a ++ b) :: (U ++ U'.erase (a ++ b))) := h.trans ((hu.append_left U).trans List.perm_middle)
      obtain ⟨T, R, h2, h3, h4⟩ := cat_sub r U (U'.erase (a ++ b)) ((List.perm_cons _).1 h1)
      refine ⟨T, a :: b :: R, ?_, h3, h4⟩
      exact ((h2.cons b).cons a).trans (((List.perm_middle.symm).cons a).trans List.perm_middle.symm)
def singles (n : Nat) : List (List Nat) := (List.range n).map fun i => [i]
/-- How wide lengths up to j + 1 are. -/
def room (n j : Nat) (l : Nat → Nat) : Nat := upto (fun i => 2 ^ (j + 1) - 2 ^ (j + 1 - l i)) n
theorem count_upto (n : Nat) (F : List Nat) (h : ∀ x ∈ F, x < n) : upto (fun i => F.count i) n = F.length := by
  induction F with
  | nil => simp only [List.count_nil]; exact upto_zero n
  | cons a F ih =>
    have ha := h a (by simp)
    have h1 := ih (fun x hx => h x (by simp [hx]))
    have e : upto (fun i => (a :: F).count i) n = upto (fun i => F.count i + if a = i then 1 else 0) n := upto_congr n (fun i _ => by rw [List.count_cons]; simp)
    have e2 : ∀ m, upto (fun i => if a = i then 1 else 0) m = if a < m then 1 else 0 := by
      intro m
      induction m with
      | zero => rfl
      | succ m ih =>
        show (if a = m then 1 else 0) + upto (fun i => if a = i then 1 else 0) m = _
        rw [ih]
        by_cases e1 : a = m
        · subst e1; simp
        · rw [if_neg e1]
          by_cases e3 : a < m
          · rw [if_pos e3, if_pos (by omega)]
          · rw [if_neg e3, if_neg (by omega)]
    rw [e, upto_add, h1, e2, if_pos ha, List.length_cons]
theorem flat_singles (n : Nat) : (singles n).flatten = List.range n := by
  unfold singles
  induction (List.range n) with
  | nil => rfl
  | cons a l ih => simp only [List.map_cons, List.flatten_cons, ih]; rfl
theorem flat_length (S : List (List Nat)) (h : ∀ x ∈ S, x.length = 1) : S.flatten.length = S.length := by
  induction S with
  | nil => rfl
  | cons a S ih => rw [List.flatten_cons, List.length_append, h a (by simp), ih (fun x hx => h x (by simp [hx])), List.length_cons]; omega
theorem singles_sub (S : List (List Nat)) (n : Nat) (S' : List (List Nat)) (h : (singles n).Perm (S ++ S')) : (∀ i, S.flatten.count i ≤ 1) ∧ (∀ x ∈ S.flatten, x < n) ∧ upto (fun i => S.flatten.count i) n = S.length := by
  have hf : (List.range n).Perm (S.flatten ++ S'.flatten) := by
    have := h.flatten
    rw [List.flatten_append, flat_singles] at this
    exact this
  have hall : ∀ x ∈ S, x.length = 1 := by
    intro x hx
    have : x ∈ singles n := h.symm.subset (by simp [hx])
    unfold singles at this
    obtain ⟨i, _, rfl⟩ := List.mem_map.1 this
    rfl
  have hlt : ∀ x ∈ S.flatten, x < n := fun x hx => List.mem_range.1 (hf.symm.subset (List.mem_append_left _ hx))
  refine ⟨fun i => ?_, hlt, ?_⟩
  · have h1 := hf.count_eq i
    rw [List.count_append] at h1
    have h2 : (List.range n).count i ≤ 1 := List.nodup_iff_count.1 List.nodup_range i
    omega
  · rw [count_upto n _ hlt, flat_length S hall]
theorem upto_mul (f : Nat → Nat) (x n : Nat) : upto (fun i => f i * x) n = upto f n * x := by
  induction n with
  | zero => simp [upto]
  | succ n ih => simp only [upto]; rw [ih, Nat.add_mul]
/-- THE WIDTH: of whatever is taken out of list j, lengths (how often each symbol is met) have room for it. -/
theorem width (n : Nat) (Q : Nat → List (List Nat)) (h0 : (Q 0).Perm (singles n)) (hQ : ∀ j, (Q (j + 1)).Perm (singles n ++ cat (Q j))) :
    ∀ j T R, (Q j).Perm (T ++ R) → (∀ i, T.flatten.count i ≤ j + 1) ∧ (∀ x ∈ T.flatten, x < n) ∧ T.length * 2 ^ j ≤ room n j (fun i => T.flatten.count i) := by
  intro j
  induction j with
  | zero =>
    intro T R h
    obtain ⟨h1, h2, h3⟩ := singles_sub T n R (h0.symm.trans h)
    refine ⟨h1, h2, ?_⟩
    rw [← h3, Nat.pow_zero, Nat.mul_one]
    unfold room
    refine Nat.le_of_eq (upto_congr n (fun i _ => ?_))
    have := h1 i
    show T.flatten.count i = 2 ^ (0 + 1) - 2 ^ (0 + 1 - T.flatten.count i)
    generalize T.flatten.count i = c at *
    rcases (show c = 0 ∨ c = 1 by omega) with rfl | rfl <;> rfl
  | succ j ih =>
    intro T R h
    obtain ⟨S, S', U, U', hT, hS, hU⟩ := perm_split _ _ T R ((hQ j).symm.trans h)
    obtain ⟨T', R', hq, hl, hf⟩ := cat_sub (Q j) U U' hU
    obtain ⟨a1, a2, a3⟩ := ih T' R' hq
    obtain ⟨b1, b2, b3⟩ := singles_sub S n S' hS
    have hflat : T.flatten.Perm (S.flatten ++ U.flatten) := by have := hT.flatten; rw [List.flatten_append] at this; exact this
    have hcount : ∀ i, T.flatten.count i = S.flatten.count i + T'.flatten.count i := fun i => by rw [hflat.count_eq i, List.count_append, hf.count_eq i]
    refine ⟨fun i => by rw [hcount]; have := a1 i; have := b1 i; omega, fun x hx => ?_, ?_⟩
    · rcases List.mem_append.1 (hflat.subset hx) with hx | hx
      · exact b2 x hx
      · exact a2 x (hf.symm.subset hx)
    · have hlen : T.length = S.length + U.length := by rw [hT.length_eq, List.length_append]
      have key : upto (fun i => S.flatten.count i * 2 ^ (j + 1) + (2 ^ (j + 1) - 2 ^ (j + 1 - T'.flatten.count i))) n ≤ room n (j + 1) (fun i => T.flatten.count i) := by
        unfold room
        refine upto_le (fun i => ?_) n
        show _ ≤ 2 ^ (j + 1 + 1) - 2 ^ (j + 1 + 1 - T.flatten.count i)
        rw [hcount i]
        have c1 := a1 i
        have c2 := b1 i
        generalize S.flatten.count i = s at *
        generalize T'.flatten.count i = t at *
        have p1 : 2 ^ (j + 1 - t) ≤ 2 ^ (j + 1) := Nat.pow_le_pow_right (by omega) (by omega)
        rcases (show s = 0 ∨ s = 1 by omega) with rfl | rfl
        · rw [Nat.zero_mul, Nat.zero_add, Nat.zero_add, show j + 1 + 1 - t = (j + 1 - t) + 1 from by omega, Nat.pow_succ, Nat.pow_succ 2 (j + 1)]
          omega
        · rw [Nat.one_mul, show j + 1 + 1 - (1 + t) = j + 1 - t from by omega, Nat.pow_succ 2 (j + 1)]
          omega
      rw [upto_add] at key
      have e1 : upto (fun i => S.flatten.count i * 2 ^ (j + 1)) n = S.length * 2 ^ (j + 1) := by
        rw [← b3, upto_mul]
      have e2 : T'.length * 2 ^ j = U.length * 2 ^ (j + 1) := by rw [hl, Nat.pow_succ, Nat.mul_comm 2, Nat.mul_assoc, Nat.mul_comm 2]
      rw [e1] at key
      rw [e2] at a3
      have a4 : U.length * 2 ^ (j + 1) ≤ upto (fun i => 2 ^ (j + 1) - 2 ^ (j + 1 - T'.flatten.count i)) n := a3
      rw [hlen, Nat.add_mul]
      omega
/-- What a package weighs. -/
def load (c : Nat → Nat) (p : List Nat) : Nat := (p.map c).sum
theorem cat_load (c : Nat → Nat) (Q : List (List Nat)) : (cat Q).map (load c) = pairs (Q.map (load c)) := by
  match Q with
  | [] => rfl
  | [a] => rfl
  | a :: b :: r =>
    simp only [cat, List.map_cons, pairs]
    rw [cat_load c r]
    simp [load]
theorem flat_load (c : Nat → Nat) (T : List (List Nat)) : (T.map (load c)).sum = (T.flatten.map c).sum := by
  induction T with
  | nil => rfl
  | cons a T ih => rw [List.map_cons, List.sum_cons, ih, List.flatten_cons, List.map_append, List.sum_append]; rfl
theorem count_load (c : Nat → Nat) (n : Nat) (F : List Nat) (h : ∀ x ∈ F, x < n) : (F.map c).sum = upto (fun i => c i * F.count i) n := by
  induction F with
  | nil => simp only [List.count_nil, Nat.mul_zero]; rw [upto_zero]; rfl
  | cons a F ih =>
    have ha := h a (by simp)
    have h1 := ih (fun x hx => h x (by simp [hx]))
    have e : upto (fun i => c i * (a :: F).count i) n = upto (fun i => c i * F.count i + if a = i then c i else 0) n := upto_congr n (fun i _ => by
      rw [List.count_cons]
      by_cases hab : a = i
      · subst hab; simp [Nat.mul_add]
      · simp [hab])
    have e2 : ∀ m, upto (fun i => if a = i then c i else 0) m = if a < m then c a else 0 := by
      intro m
      induction m with
      | zero => rfl
      | succ m ih =>
        show (if a = m then c m else 0) + upto (fun i => if a = i then c i else 0) m = _
        rw [ih]
        by_cases e1 : a = m
        · subst e1; simp
        · rw [if_neg e1]
          by_cases e3 : a < m
          · rw [if_pos e3, if_pos (by omega)]; omega
          · rw [if_neg e3, if_neg (by omega)]
    rw [e, upto_add, ← h1, e2, if_pos ha, List.map_cons, List.sum_cons]
    omega
theorem range_upto (f : Nat → Nat) (n : Nat) : ((List.range n).map f).sum = upto f n := by
  induction n with
  | zero => rfl
  | succ n ih => rw [List.range_succ, List.map_append, List.sum_append, ih]; simp [upto]; omega
theorem cat_length (Q : List (List Nat)) : (cat Q).length = Q.length / 2 := by
  match Q with
  | [] => rfl
  | [a] => simp [cat]
  | a :: b :: r =>
    simp only [cat, List.length_cons]
    rw [cat_length r]
    omega
theorem enough (n : Nat) (Q : Nat → List (List Nat)) (h0 : (Q 0).Perm (singles n)) (hQ : ∀ j, (Q (j + 1)).Perm (singles n ++ cat (Q j))) (j : Nat) : 2 * n ≤ (Q j).length + (n + 2 ^ j - 1) / 2 ^ j := by
  have hs : (singles n).length = n := by simp [singles]
  induction j with
  | zero => rw [h0.length_eq, hs]; simp; omega
  | succ j ih =>
    rw [(hQ j).length_eq, List.length_append, hs, cat_length]
    have e : (n + 2 ^ (j + 1) - 1) / 2 ^ (j + 1) = ((n + 2 ^ j - 1) / 2 ^ j + 1) / 2 := by
      have hp := Nat.two_pow_pos j
      rw [Nat.pow_succ, ← Nat.div_div_eq_div_mul]
      congr 1
      rw [show n + 2 ^ j * 2 - 1 = (n + 2 ^ j - 1) + 2 ^ j from by omega, Nat.add_div_right _ hp]
    rw [e]
    omega
theorem enough_top (n : Nat) (Q : Nat → List (List Nat)) (h0 : (Q 0).Perm (singles n)) (hQ : ∀ j, (Q (j + 1)).Perm (singles n ++ cat (Q j))) (D : Nat) (hn : n ≤ 2 ^ (D + 1)) (h1 : 0 < n) : 2 * (n - 1) ≤ (Q D).length := by
  have h := enough n Q h0 hQ D
  have hp := Nat.two_pow_pos D
  have : (n + 2 ^ D - 1) / 2 ^ D ≤ 2 := by
    rw [Nat.pow_succ] at hn
    have : (n + 2 ^ D - 1) / 2 ^ D < 3 := (Nat.div_lt_iff_lt_mul hp).2 (by omega)
    omega
  omega
/-- THE WHOLE: the lengths that merged packages give. -/
theorem merged_best (c : Nat → Nat) (n D : Nat) (Q : Nat → List (List Nat)) (h0 : (Q 0).Perm (singles n)) (hQ : ∀ j, (Q (j + 1)).Perm (singles n ++ cat (Q j))) (ho : ∀ j, Ord ((Q j).map (load c)))
    (hc : ∀ i, i < n → 1 ≤ c i) (h2 : 2 ≤ n) (hn : n ≤ 2 ^ (D + 1)) (l : Nat → Nat) (hl : ∀ i, i < n → l i = ((Q D).take (2 * (n - 1))).flatten.count i) (hb : upto (fun i => c i * l i) n < never) :
    (∀ i, i < n → 1 ≤ l i ∧ l i ≤ D + 1) ∧ upto (fun i => 2 ^ (D + 1 - l i)) n = 2 ^ (D + 1) ∧ bst ((Q 0).map (load c)) n (D + 1) 0 2 = upto (fun i => c i * l i) n := by
  have hperm : (Q D).Perm ((Q D).take (2 * (n - 1)) ++ (Q D).drop (2 * (n - 1))) := by rw [List.take_append_drop]
  obtain ⟨w1, w2, w3⟩ := width n Q h0 hQ D _ _ hperm
  have hlen : ((Q D).take (2 * (n - 1))).length = 2 * (n - 1) := by rw [List.length_take]; have := enough_top n Q h0 hQ D hn (by omega); omega
  have hroom : room n D (fun i => ((Q D).take (2 * (n - 1))).flatten.count i) + upto (fun i => 2 ^ (D + 1 - l i)) n = n * 2 ^ (D + 1) := by
    unfold room
    rw [← upto_add]
    have : ∀ m, upto (fun _ => 2 ^ (D + 1)) m = m * 2 ^ (D + 1) := by
      intro m
      induction m with
      | zero => simp [upto]
      | succ m ih => simp only [upto]; rw [ih, Nat.add_mul]; omega
    rw [← this n]
    refine upto_congr n (fun i hi => ?_)
    show 2 ^ (D + 1) - 2 ^ (D + 1 - ((Q D).take (2 * (n - 1))).flatten.count i) + 2 ^ (D + 1 - l i) = 2 ^ (D + 1)
    rw [← hl i hi]
    have := Nat.pow_le_pow_right (n := 2) (by omega) (show D + 1 - l i ≤ D + 1 by omega)
    omega
  have hK : upto (fun i => 2 ^ (D + 1 - l i)) n ≤ 2 ^ (D + 1) := by
    rw [hlen] at w3
    obtain ⟨m, rfl⟩ : ∃ m, n = m + 1 := ⟨n - 1, by omega⟩
    have e : 2 * (m + 1 - 1) * 2 ^ D = m * 2 ^ (D + 1) := by rw [Nat.pow_succ, Nat.add_sub_cancel, Nat.mul_comm 2 m, Nat.mul_assoc, Nat.mul_comm 2]
    rw [e] at w3
    rw [Nat.add_mul] at hroom
    omega
  have hup : ∀ i, i < n → l i ≤ D + 1 := fun i hi => by rw [hl i hi]; exact w1 i
  have hlow : ∀ i, i < n → 1 ≤ l i := by
    intro i hi
    rcases Nat.eq_zero_or_pos (l i) with h | h
    · exfalso
      have : ∀ m, i < m → 2 ≤ m → 2 ^ (D + 1) < upto (fun i => 2 ^ (D + 1 - l i)) m := by
        intro m
        induction m with
        | zero => intro h; omega
        | succ m ih =>
          intro him h2m
          show _ < 2 ^ (D + 1 - l m) + upto (fun i => 2 ^ (D + 1 - l i)) m
          by_cases e : i = m
          · subst e
            rw [h, Nat.sub_zero]
            have : 0 < upto (fun k => 2 ^ (D + 1 - l k)) i := by
              obtain ⟨k, rfl⟩ : ∃ k, i = k + 1 := ⟨i - 1, by omega⟩
              have := Nat.two_pow_pos (D + 1 - l k)
              simp only [upto]; omega
            omega
          · by_cases e2 : m = 1
            · subst e2
              have hi0 : i = 0 := by omega
              subst hi0
              have := Nat.two_pow_pos (D + 1 - l 1)
              simp only [upto, h, Nat.sub_zero]
              omega
            · have := ih (by omega) (by omega)
              have := Nat.two_pow_pos (D + 1 - l m)
              omega
      have := this n hi h2
      omega
    · exact h
  -- as lists
  have hLs : ((List.range n).map fun i => (c i, l i)).length = n := by simp
  have hcost : cost ((List.range n).map fun i => (c i, l i)) = upto (fun i => c i * l i) n := by
    unfold cost
    rw [List.map_map]
    exact range_upto _ n
  have hkr : kraft (D + 1) ((List.range n).map fun i => (c i, l i)) = upto (fun i => 2 ^ (D + 1 - l i)) n := by
    unfold kraft
    rw [List.map_map]
    exact range_upto _ n
  have hA : ((Q 0).map (load c)).Perm (((List.range n).map fun i => (c i, l i)).map (·.1)) := by
    refine (h0.map _).trans (List.Perm.of_eq ?_)
    unfold singles
    rw [List.map_map, List.map_map]
    exact List.map_congr_left (fun i _ => by simp [load])
  have hP : ∀ j, Ord ((Q (j + 1)).map (load c)) ∧ ((Q (j + 1)).map (load c)).Perm ((Q 0).map (load c) ++ pairs ((Q j).map (load c))) := fun j => ⟨ho _, by
    refine ((hQ j).map _).trans ?_
    rw [List.map_append, cat_load]
    exact (h0.symm.map _).append_right _⟩
  have hpre : cost ((List.range n).map fun i => (c i, l i)) ≤ pre ((Q D).map (load c)) (2 * (n - 1)) := by
    unfold pre
    rw [hcost, ← List.map_take, flat_load, count_load c n _ w2]
    exact Nat.le_of_eq (upto_congr n (fun i hi => by rw [hl i hi]))
  have := best ((Q 0).map (load c)) (fun j => (Q j).map (load c)) D ((List.range n).map fun i => (c i, l i)) (ho 0) rfl hP hA
    (fun x hx => by
      obtain ⟨i, hi, rfl⟩ := List.mem_map.1 hx
      have hi := List.mem_range.1 hi
      exact ⟨hc i hi, hlow i hi, hup i hi⟩) (by rw [hkr]; exact hK) (by rw [hLs]; omega) (by rw [hLs]; exact hpre) (by rw [hcost]; exact hb)
  rw [hkr, hLs, hcost] at this
  exact ⟨fun i hi => ⟨hlow i hi, hup i hi⟩, this.1, this.2⟩
/-- In order there is but one list of the same numbers. -/
theorem ord_unique (A B : List Nat) (hA : Ord A) (hB : Ord B) (h : A.Perm B) : A = B := by
  induction A generalizing B with
  | nil => exact (List.Perm.nil_eq h)
  | cons a A ih =>
    cases B with
    | nil => exact absurd h.length_eq (by simp)
    | cons b B =>
      have h1 : a ∈ b :: B := h.subset (by simp)
      have h2 : b ∈ a :: A := h.symm.subset (by simp)
      have e1 : a ≤ b := by
        rcases List.mem_cons.1 h2 with e | e
        · omega
        · exact ord_head hA b e
      have e2 : b ≤ a := by
        rcases List.mem_cons.1 h1 with e | e
        · omega
        · exact ord_head hB a e
      have e : a = b := by omega
      subst e
      rw [ih B (ord_tail hA) (ord_tail hB) ((List.perm_cons a).1 h)]
end Go.Proofs.YtfeljhikeddodadGreatDoor.Pm
