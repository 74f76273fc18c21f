/- Plain facts: parts in order, merged in place by turning neighbours round, are in order, and those of one rank stay in theirs. -/
import Derived.Sort.LotA
namespace Go.Proofs.YtpfobocdbmiagaaDoor.St
open Go.Sort
variable {α : Type} [Inhabited α]

/-! ### Exchanges -/
/-- The n places from a on, exchanged with those from b on. -/
def SwR (d d' : Array α) (a b n : Nat) : Prop :=
  (∀ s, a ≤ s → s < a + n → d'[s]! = d[s + (b - a)]!) ∧ (∀ s, b ≤ s → s < b + n → d'[s]! = d[s - (b - a)]!) ∧ ∀ s, (s < a ∨ (a + n ≤ s ∧ s < b) ∨ b + n ≤ s) → d'[s]! = d[s]!

theorem SwR.zero (d : Array α) (a b : Nat) : SwR d d a b 0 := ⟨fun s h1 h2 => by omega, fun s h1 h2 => by omega, fun _ _ => rfl⟩

theorem at_eq (d : Array α) {i j : Nat} (h : i = j) : d[i]! = d[j]! := by rw [h]

theorem SwR.step {d d' : Array α} {a b n : Nat} (h : SwR d d' a b n) (hab : a + n < b) (ha : a + n < d'.size) (hb : b + n < d'.size) : SwR d (swp d' (a + n) (b + n)) a b (n + 1) := by
  have g := swp_get d' ha hb
  refine ⟨fun s h1 h2 => ?_, fun s h1 h2 => ?_, fun s h1 => ?_⟩
  · rw [g]
    by_cases e : s = a + n
    · rw [if_neg (by omega), if_pos e, h.2.2 (b + n) (by omega)]; exact at_eq d (by omega)
    · rw [if_neg (by omega), if_neg e]; exact h.1 s h1 (by omega)
  · rw [g]
    by_cases e : s = b + n
    · rw [if_pos e, h.2.2 (a + n) (by omega)]; exact at_eq d (by omega)
    · rw [if_neg e, if_neg (by omega)]; exact h.2.1 s h1 (by omega)
  · rw [g, if_neg (by omega), if_neg (by omega)]; exact h.2.2 s (by omega)

/-- Turned round: [m, e) stands ahead of [s, m). -/
def rt (f : Nat → α) (s m e t : Nat) : α := if t < s then f t else if t < s + (e - m) then f (t + (m - s)) else if t < e then f (t - (e - m)) else f t
def Rot (d d' : Array α) (s m e : Nat) : Prop := ∀ t, d'[t]! = rt (fun i => d[i]!) s m e t

theorem Rot.left (d : Array α) (s m : Nat) : Rot d d s m m := fun t => by
  unfold rt
  by_cases h1 : t < s
  · rw [if_pos h1]
  · rw [if_neg h1, if_neg (by omega)]
    by_cases h2 : t < m
    · rw [if_pos h2]; exact at_eq d (by omega)
    · rw [if_neg h2]
theorem Rot.right (d : Array α) (m e : Nat) (h : m ≤ e) : Rot d d m m e := fun t => by
  unfold rt
  by_cases h1 : t < m
  · rw [if_pos h1]
  · rw [if_neg h1]
    by_cases h2 : t < m + (e - m)
    · rw [if_pos h2]; exact at_eq d (by omega)
    · rw [if_neg h2, if_neg (by omega)]

/-- One exchange of a turn: the greater part is on the left. -/
theorem rt_left {d d' : Array α} {m i j : Nat} (hi : i ≤ m) (hj : j < i) (h : SwR d d' (m - i) m j) (t : Nat) : rt (fun i => d[i]!) (m - i) m (m + j) t = rt (fun i => d'[i]!) (m - (i - j)) m (m + j) t := by
  unfold rt
  simp only
  by_cases h1 : t < m - i
  · rw [if_pos h1, if_pos (by omega), h.2.2 t (by omega)]
  rw [if_neg h1]
  by_cases h2 : t < m - i + (m + j - m)
  · rw [if_pos h2, if_pos (by omega), h.1 t (by omega) (by omega)]
  rw [if_neg h2]
  by_cases h3 : t < m + j
  · rw [if_pos h3, if_neg (by omega)]
    by_cases h4 : t < m - (i - j) + (m + j - m)
    · rw [if_pos h4, h.2.1 _ (by omega) (by omega)]; exact at_eq d (by omega)
    · rw [if_neg h4, if_pos h3, h.2.2 _ (by omega)]
  · rw [if_neg h3, if_neg (by omega), if_neg (by omega), if_neg h3, h.2.2 t (by omega)]

theorem rt_right {d d' : Array α} {m i j : Nat} (hi : i ≤ m) (hj : i < j) (h : SwR d d' (m - i) (m + j - i) i) (t : Nat) : rt (fun i => d[i]!) (m - i) m (m + j) t = rt (fun i => d'[i]!) (m - i) m (m + (j - i)) t := by
  unfold rt
  simp only
  by_cases h1 : t < m - i
  · rw [if_pos h1, if_pos (by omega), h.2.2 t (by omega)]
  rw [if_neg h1, if_neg h1]
  by_cases h2 : t < m - i + (m + j - m)
  · rw [if_pos h2]
    by_cases h3 : t < m - i + (m + (j - i) - m)
    · rw [if_pos h3, h.2.2 _ (by omega)]
    · rw [if_neg h3, if_pos (by omega), h.1 _ (by omega) (by omega)]; exact at_eq d (by omega)
  rw [if_neg h2]
  by_cases h3 : t < m + j
  · rw [if_pos h3, if_neg (by omega), if_neg (by omega), h.2.1 _ (by omega) (by omega)]; exact at_eq d (by omega)
  · rw [if_neg h3, if_neg (by omega), if_neg (by omega), h.2.2 t (by omega)]

theorem rt_same {d d' : Array α} {m i : Nat} (hi : i ≤ m) (h : SwR d d' (m - i) m i) (t : Nat) : rt (fun i => d[i]!) (m - i) m (m + i) t = d'[t]! := by
  unfold rt
  simp only
  by_cases h1 : t < m - i
  · rw [if_pos h1, h.2.2 t (by omega)]
  rw [if_neg h1]
  by_cases h2 : t < m - i + (m + i - m)
  · rw [if_pos h2, h.1 t (by omega) (by omega)]
  rw [if_neg h2]
  by_cases h3 : t < m + i
  · rw [if_pos h3, h.2.1 _ (by omega) (by omega)]; exact at_eq d (by omega)
  · rw [if_neg h3, h.2.2 t (by omega)]

/-- One goes right by one place more. -/
theorem Rot.onR {d d' : Array α} {a k : Nat} (hk : a ≤ k) (hs : k + 1 < d'.size) (h : Rot d d' a (a + 1) (k + 1)) : Rot d (swp d' k (k + 1)) a (a + 1) (k + 2) := fun t => by
  rw [swp_get d' (by omega) hs]
  have h0 := h (k + 1)
  have h1 := h k
  have h2 := h t
  unfold rt at h0 h1 h2 ⊢
  simp only at h0 h1 h2 ⊢
  by_cases e1 : t = k + 1
  · subst e1
    rw [if_pos rfl, if_neg (by omega), if_neg (by omega), if_pos (by omega), h1, if_neg (by omega), if_neg (by omega), if_pos (by omega)]
    exact at_eq d (by omega)
  rw [if_neg e1]
  by_cases e2 : t = k
  · subst e2
    rw [if_pos rfl, if_neg (by omega), if_pos (by omega), h0, if_neg (by omega), if_neg (by omega), if_neg (by omega)]
    exact at_eq d (by omega)
  rw [if_neg e2, h2]
  by_cases e3 : t < a
  · rw [if_pos e3, if_pos e3]
  rw [if_neg e3, if_neg e3]
  by_cases e4 : t < k
  · rw [if_pos (by omega), if_pos (by omega)]
  · rw [if_neg (by omega), if_neg (by omega), if_neg (by omega), if_neg (by omega)]

/-- One goes left by one place more. -/
theorem Rot.onL {d d' : Array α} {m k : Nat} (hk : k < m) (hs : m < d'.size) (h : Rot d d' (k + 1) m (m + 1)) : Rot d (swp d' (k + 1) k) k m (m + 1) := fun t => by
  rw [swp_get d' (by omega) (by omega)]
  have h0 := h (k + 1)
  have h1 := h k
  have h2 := h t
  unfold rt at h0 h1 h2 ⊢
  simp only at h0 h1 h2 ⊢
  by_cases e1 : t = k
  · subst e1
    rw [if_pos rfl, if_neg (by omega), if_pos (by omega), h0, if_neg (by omega), if_pos (by omega)]
    exact at_eq d (by omega)
  rw [if_neg e1]
  by_cases e2 : t = k + 1
  · subst e2
    rw [if_pos rfl, if_neg (by omega), if_neg (by omega), if_pos (by omega), h1, if_pos (by omega)]
    exact at_eq d (by omega)
  rw [if_neg e2, h2]
  by_cases e3 : t < k
  · rw [if_pos (by omega), if_pos e3]
  rw [if_neg (show ¬ t < k + 1 by omega), if_neg (show ¬ t < k + 1 + (m + 1 - m) by omega), if_neg e3, if_neg (show ¬ t < k + (m + 1 - m) by omega)]

/-! ### Merging -/
/-- x may be ahead of y, and the test that is made tells what is asked. -/
def G (lt lt' : α → α → Bool) (x y : α) : Prop := lt y x = lt' y x
variable {lt lt' : α → α → Bool}

theorem leq (hS : SWO lt') {d : Array α} {a b : Nat} (s : SortedIn lt' a b d) {i j : Nat} (h1 : a ≤ i) (h2 : i ≤ j) (h3 : j < b) : lt' d[j]! d[i]! = false := by
  by_cases e : i = j
  · subst e; exact hS.irrefl _
  · exact s i j h1 (by omega) h3

/-- x ≤ y < z. -/
theorem lt_of {β : Type} {lt' : β → β → Bool} (hS : SWO lt') {x y z : β} (h1 : lt' y x = false) (h2 : lt' y z = true) : lt' x z = true := by
  cases h : lt' x z with
  | true => rfl
  | false => rw [hS.ntrans y x z h1 h] at h2; cases h2
theorem lt_of' {β : Type} {lt' : β → β → Bool} (hS : SWO lt') {x y z : β} (h1 : lt' x y = true) (h2 : lt' z y = false) : lt' x z = true := by
  cases h : lt' x z with
  | true => rfl
  | false => rw [hS.ntrans x z y h h2] at h1; cases h1

/-- The single one on the left, put in its place. -/
theorem place_left (hS : SWO lt') {d d' : Array α} {a b i : Nat} (hai : a + 1 ≤ i) (hib : i ≤ b) (sR : SortedIn lt' (a + 1) b d)
    (h1 : a + 1 < i → lt' d[i - 1]! d[a]! = true) (h2 : i < b → lt' d[i]! d[a]! = false) (hR : Rot d d' a (a + 1) i) : SortedIn lt' a b d' := by
  intro p q hp hpq hq
  have hP := hR p
  have hQ := hR q
  unfold rt at hP hQ
  simp only at hP hQ
  rw [if_neg (by omega)] at hP hQ
  rw [hP, hQ]
  by_cases e1 : q < i - 1
  · rw [if_pos (by omega), if_pos (by omega)]; exact leq hS sR (by omega) (by omega) (by omega)
  by_cases e2 : q = i - 1
  · rw [if_neg (by omega), if_pos (by omega), if_pos (by omega)]
    have := lt_of hS (leq hS sR (i := p + (a + 1 - a)) (j := i - 1) (by omega) (by omega) (by omega)) (h1 (by omega))
    rw [at_eq d (show q - (i - (a + 1)) = a by omega)]
    exact hS.asymmA this
  rw [if_neg (by omega), if_neg (by omega)]
  by_cases e3 : p < i - 1
  · rw [if_pos (by omega)]; exact leq hS sR (by omega) (by omega) (by omega)
  by_cases e4 : p = i - 1
  · rw [if_neg (by omega), if_pos (by omega), at_eq d (show p - (i - (a + 1)) = a by omega)]
    exact hS.ntrans _ _ _ (leq hS sR (i := i) (j := q) (by omega) (by omega) (by omega)) (h2 (by omega))
  · rw [if_neg (by omega), if_neg (by omega)]; exact leq hS sR (by omega) (by omega) (by omega)

/-- The single one on the right, put in its place. -/
theorem place_right (hS : SWO lt') {d d' : Array α} {a m i : Nat} (hai : a ≤ i) (him : i ≤ m) (sL : SortedIn lt' a m d)
    (h1 : a < i → lt' d[m]! d[i - 1]! = false) (h2 : i < m → lt' d[m]! d[i]! = true) (hR : Rot d d' i m (m + 1)) : SortedIn lt' a (m + 1) d' := by
  intro p q hp hpq hq
  have hP := hR p
  have hQ := hR q
  unfold rt at hP hQ
  simp only at hP hQ
  rw [hP, hQ]
  by_cases e1 : q < i
  · rw [if_pos e1, if_pos (by omega)]; exact leq hS sL (by omega) (by omega) (by omega)
  rw [if_neg e1]
  by_cases e2 : q = i
  · rw [if_pos (by omega), if_pos (by omega), at_eq d (show q + (m - i) = m by omega)]
    exact hS.ntrans _ _ _ (h1 (by omega)) (leq hS sL (i := p) (j := i - 1) (by omega) (by omega) (by omega))
  rw [if_neg (by omega), if_pos (by omega)]
  by_cases e3 : p < i
  · rw [if_pos e3]; exact leq hS sL (by omega) (by omega) (by omega)
  rw [if_neg e3]
  by_cases e4 : p = i
  · rw [if_pos (by omega), at_eq d (show p + (m - i) = m by omega)]
    exact hS.asymmA (lt_of' hS (h2 (by omega)) (leq hS sL (i := i) (j := q - (m + 1 - m)) (by omega) (by omega) (by omega)))
  · rw [if_neg (by omega), if_pos (by omega)]; exact leq hS sL (by omega) (by omega) (by omega)

/-- Two parts, parted at mid: what is ahead of mid is not greater than what is behind it; all four quarters are in order. -/
theorem split (hS : SWO lt') {d d' : Array α} {a m b mid s e lo hi : Nat} (ham : a < m) (hmb : m < b) (hmid : a + b = 2 * mid ∨ a + b = 2 * mid + 1) (he : e + s = mid + m)
    (hlo : (mid < m ∧ lo + b = mid + m ∧ hi = mid) ∨ (m ≤ mid ∧ lo = a ∧ hi = m)) (hls : lo ≤ s) (hsh : s ≤ hi)
    (h1 : lo < s → lt d[e]! d[s - 1]! = false) (h2 : s < hi → lt d[e - 1]! d[s]! = true)
    (sL : SortedIn lt' a m d) (sR : SortedIn lt' m b d) (g : ∀ i j, a ≤ i → i < m → m ≤ j → j < b → G lt lt' d[i]! d[j]!) (hR : Rot d d' s m e) :
    SortedIn lt' a s d' ∧ SortedIn lt' s mid d' ∧ SortedIn lt' mid e d' ∧ SortedIn lt' e b d' ∧ (∀ i j, a ≤ i → i < s → s ≤ j → j < mid → G lt lt' d'[i]! d'[j]!) ∧
    (∀ i j, mid ≤ i → i < e → e ≤ j → j < b → G lt lt' d'[i]! d'[j]!) ∧ (∀ i j, a ≤ i → i < mid → mid ≤ j → j < b → lt' d'[j]! d'[i]! = false) := by
  have c1 : ∀ t, t < s → d'[t]! = d[t]! := fun t h => by have := hR t; unfold rt at this; simp only at this; rw [this, if_pos h]
  have c2 : ∀ t, s ≤ t → t < mid → d'[t]! = d[t + (m - s)]! := fun t h h' => by have := hR t; unfold rt at this; simp only at this; rw [this, if_neg (by omega), if_pos (by omega)]
  have c3 : ∀ t, mid ≤ t → t < e → d'[t]! = d[t - (e - m)]! := fun t h h' => by have := hR t; unfold rt at this; simp only at this; rw [this, if_neg (by omega), if_neg (by omega), if_pos (by omega)]
  have c4 : ∀ t, e ≤ t → d'[t]! = d[t]! := fun t h => by have := hR t; unfold rt at this; simp only at this; rw [this, if_neg (by omega), if_neg (by omega), if_neg (by omega)]
  refine ⟨fun p q hp hpq hq => ?_, fun p q hp hpq hq => ?_, fun p q hp hpq hq => ?_, fun p q hp hpq hq => ?_, fun i j hi1 hi2 hj1 hj2 => ?_, fun i j hi1 hi2 hj1 hj2 => ?_, fun i j hi1 hi2 hj1 hj2 => ?_⟩
  · rw [c1 p (by omega), c1 q (by omega)]; exact sL p q hp hpq (by omega)
  · rw [c2 p (by omega) (by omega), c2 q (by omega) (by omega)]; exact sR _ _ (by omega) (by omega) (by omega)
  · rw [c3 p (by omega) (by omega), c3 q (by omega) (by omega)]; exact sL _ _ (by omega) (by omega) (by omega)
  · rw [c4 p (by omega), c4 q (by omega)]; exact sR _ _ (by omega) (by omega) (by omega)
  · rw [c1 i (by omega), c2 j (by omega) (by omega)]; exact g _ _ (by omega) (by omega) (by omega) (by omega)
  · rw [c3 i (by omega) (by omega), c4 j (by omega)]; exact g _ _ (by omega) (by omega) (by omega) (by omega)
  · by_cases i1 : i < s
    · rw [c1 i i1]
      by_cases j1 : j < e
      · rw [c3 j (by omega) j1]; exact leq hS sL (by omega) (by omega) (by omega)
      · rw [c4 j (by omega)]
        have h := h1 (by omega)
        have hg : lt d[e]! d[s - 1]! = lt' d[e]! d[s - 1]! := g (s - 1) e (by omega) (by omega) (by omega) (by omega)
        rw [hg] at h
        exact hS.ntrans _ _ _ (leq hS sR (i := e) (j := j) (by omega) (by omega) hj2) (hS.ntrans _ _ _ h (leq hS sL (i := i) (j := s - 1) (by omega) (by omega) (by omega)))
    · rw [c2 i (by omega) hi2]
      by_cases j1 : j < e
      · rw [c3 j (by omega) j1]
        have h := h2 (by omega)
        have hg : lt d[e - 1]! d[s]! = lt' d[e - 1]! d[s]! := g s (e - 1) (by omega) (by omega) (by omega) (by omega)
        rw [hg] at h
        refine hS.asymmA (lt_of hS (leq hS sR (i := i + (m - s)) (j := e - 1) (by omega) (by omega) (by omega)) (lt_of' hS h (leq hS sL (i := s) (j := j - (e - m)) (by omega) (by omega) (by omega))))
      · rw [c4 j (by omega)]; exact leq hS sR (by omega) (by omega) (by omega)

/-- A part that was permuted within itself, held against what lies elsewhere. -/
theorem cross_perm {d d' : Array α} {x y : Nat} (Q : α → α → Prop) (hy : y ≤ d.size) (h : PermIn x y d d') {p q p' q' : Nat} (hpq : (q ≤ x ∨ y ≤ p) ∨ (p ≤ x ∧ y ≤ q)) (hpq' : (q' ≤ x ∨ y ≤ p') ∨ (p' ≤ x ∧ y ≤ q'))
    (hd : ∀ i j, p ≤ i → i < q → p' ≤ j → j < q' → Q d[i]! d[j]!) : ∀ i j, p ≤ i → i < q → p' ≤ j → j < q' → Q d'[i]! d'[j]! := by
  have step : ∀ j, p' ≤ j → j < q' → ∀ i, p ≤ i → i < q → Q d'[i]! d[j]! := by
    intro j hj1 hj2 i hi1 hi2
    by_cases hin : x ≤ i ∧ i < y
    · exact permIn_all d d' x y (fun v => Q v d[j]!) hy h (fun i' h1 h2 => hd i' j (by omega) (by omega) hj1 hj2) i hin.1 hin.2
    · rw [h.2.1 i (by omega)]; exact hd i j hi1 hi2 hj1 hj2
  intro i j hi1 hi2 hj1 hj2
  by_cases hin : x ≤ j ∧ j < y
  · exact permIn_all d d' x y (fun v => Q d'[i]! v) hy h (fun j' h1 h2 => step j' (by omega) (by omega) i hi1 hi2) j hin.1 hin.2
  · rw [h.2.1 j (by omega)]; exact step j hj1 hj2 i hi1 hi2

theorem sorted_apart {d d' : Array α} {x y p q : Nat} (h : PermIn x y d d') (hpq : q ≤ x ∨ y ≤ p) (s : SortedIn lt' p q d) : SortedIn lt' p q d' := fun i j h1 h2 h3 => by
  rw [h.2.1 i (by omega), h.2.1 j (by omega)]; exact s i j h1 h2 h3

/-- Both halves merged: the whole. -/
theorem joined {d : Array α} {a mid b : Nat} (s1 : SortedIn lt' a mid d) (s2 : SortedIn lt' mid b d) (hx : ∀ i j, a ≤ i → i < mid → mid ≤ j → j < b → lt' d[j]! d[i]! = false) : SortedIn lt' a b d := fun i j h1 h2 h3 => by
  by_cases e1 : j < mid
  · exact s1 i j h1 h2 e1
  by_cases e2 : mid ≤ i
  · exact s2 i j e2 h2 h3
  · exact hx i j h1 (by omega) (by omega) h3

/-- The right half, behind a merge of the left one. -/
theorem right_ready {d d' : Array α} {a mid e b : Nat} (hm : mid ≤ d.size) (hme : mid ≤ e) (h : PermIn a mid d d') (s3 : SortedIn lt' mid e d) (s4 : SortedIn lt' e b d) (g : ∀ i j, mid ≤ i → i < e → e ≤ j → j < b → G lt lt' d[i]! d[j]!) :
    SortedIn lt' mid e d' ∧ SortedIn lt' e b d' ∧ ∀ i j, mid ≤ i → i < e → e ≤ j → j < b → G lt lt' d'[i]! d'[j]! :=
  ⟨sorted_apart h (by omega) s3, sorted_apart h (by omega) s4, cross_perm (G lt lt') hm h (by omega) (by omega) g⟩

theorem fin {d d1 d2 d3 : Array α} {a mid b : Nat} (ham : a ≤ mid) (hmb : mid ≤ b) (hb : b ≤ d.size) (h1 : PermIn a b d d1) (h2 : PermIn a mid d1 d2) (s2 : SortedIn lt' a mid d2) (h3 : PermIn mid b d2 d3) (s3 : SortedIn lt' mid b d3)
    (hx : ∀ i j, a ≤ i → i < mid → mid ≤ j → j < b → lt' d1[j]! d1[i]! = false) : PermIn a b d d3 ∧ SortedIn lt' a b d3 := by
  have z1 := h1.1
  have z2 := h2.1
  have x2 := cross_perm (fun x y => lt' y x = false) (by omega) h2 (.inr ⟨by omega, by omega⟩) (.inl (.inr (by omega))) hx
  have x3 := cross_perm (fun x y => lt' y x = false) (by omega) h3 (.inl (.inl (by omega))) (.inr ⟨by omega, by omega⟩) x2
  exact ⟨permIn_trans _ _ _ _ _ h1 (permIn_trans _ _ _ _ _ (permIn_mono _ _ a mid a b (by omega) hmb (by omega) h2) (permIn_mono _ _ mid b a b ham (by omega) (by omega) h3)), joined (sorted_apart h3 (.inl (by omega)) s2) s3 x3⟩

/-! ### Insertion -/
theorem insInner_eq (a : Nat) : ∀ (j : Nat) (d : Array α), j < d.size → (∀ t, a ≤ t → t < j → G lt lt' d[t]! d[j]!) → insInner lt a j d = insInner lt' a j d
  | 0, d, _, _ => rfl
  | j + 1, d, hs, h => by
    unfold insInner
    by_cases ha : j + 1 > a
    · have e : lt d[j + 1]! d[j]! = lt' d[j + 1]! d[j]! := h j (by omega) (by omega)
      rw [e]
      by_cases hc : (decide (j + 1 > a) && lt' d[j + 1]! d[j]!) = true
      · rw [if_pos hc, if_pos hc]
        refine insInner_eq a j _ (by rw [size_swp]; omega) (fun t h1 h2 => ?_)
        rw [swp_other d _ _ t (by omega) (by omega), swp_right d _ _ (by omega)]
        exact h t h1 (by omega)
      · rw [if_neg hc, if_neg hc]
    · rw [if_neg (by simp; omega), if_neg (by simp; omega)]

theorem insOuter_eq (hS : SWO lt') (a b : Nat) : ∀ (n i : Nat) (d : Array α), n = b - i → a < i → b ≤ d.size → (∀ s t, a ≤ s → s < t → i ≤ t → t < b → G lt lt' d[s]! d[t]!) → insOuter lt a b i d = insOuter lt' a b i d
  | 0, i, d, hn, _, _, _ => by
    rw [insOuter, if_neg (by omega), insOuter, if_neg (by omega)]
  | n + 1, i, d, hn, hai, hb, h => by
    conv => lhs; rw [insOuter, if_pos (by omega)]
    conv => rhs; rw [insOuter, if_pos (by omega)]
    rw [insInner_eq a i d (by omega) (fun t h1 h2 => h t i h1 h2 (Nat.le_refl _) (by omega))]
    have hP : PermIn a (i + 1) d (insInner lt' a i d) := by
      have : ∀ (j : Nat) (d : Array α), j < i + 1 → i + 1 ≤ d.size → PermIn a (i + 1) d (insInner lt' a j d) := by
        intro j
        induction j with
        | zero => intro d _ _; exact permIn_refl _ _ _
        | succ j ih =>
          intro d hj hd
          unfold insInner
          by_cases hc : (decide (j + 1 > a) && lt' d[j + 1]! d[j]!) = true
          · rw [if_pos hc]
            have ha : j + 1 > a := by simp only [Bool.and_eq_true, decide_eq_true_eq] at hc; exact hc.1
            exact permIn_trans _ _ _ _ _ (swp_permIn d a (i + 1) (j + 1) j (by omega) (by omega) (by omega) (by omega) hd) (ih _ (by omega) (by rw [size_swp]; exact hd))
          · rw [if_neg hc]; exact permIn_refl _ _ _
      exact this i d (by omega) (by omega)
    refine insOuter_eq hS a b n (i + 1) _ (by omega) (by omega) (by rw [hP.1]; exact hb) (fun s t h1 h2 h3 h4 => ?_)
    rw [hP.2.1 t (by omega)]
    by_cases e : s < i + 1
    · exact permIn_all d _ a (i + 1) (fun v => G lt lt' v d[t]!) (by omega) hP (fun s' h1 h2 => h s' t h1 (by omega) (by omega) h4) s h1 e
    · rw [hP.2.1 s (by omega)]; exact h s t h1 h2 (by omega) h4

/-- The shelf's insertion, told by the finer order. -/
theorem insertion (hS : SWO lt') (d : Array α) (a b : Nat) (hab : a ≤ b) (hb : b ≤ d.size) (h : ∀ s t, a ≤ s → s < t → t < b → G lt lt' d[s]! d[t]!) : PermIn a b d (insertionSort lt d a b) ∧ SortedIn lt' a b (insertionSort lt d a b) := by
  have e : insertionSort lt d a b = insertionSort lt' d a b := insOuter_eq hS a b _ (a + 1) d rfl (by omega) hb (fun s t h1 h2 _ h4 => h s t h1 h2 h4)
  rw [e]
  exact insertionSort_holds hS d a b hab hb

/-! ### Blocks -/
def CutAt (lt lt' : α → α → Bool) (n : Nat) (d : Array α) (c : Nat) : Prop := ∀ s t, 0 ≤ s → s < c → c ≤ t → t < n → G lt lt' d[s]! d[t]!

theorem cut_perm {n : Nat} {d d' : Array α} {x y c : Nat} (hy : y ≤ d.size) (hyn : y ≤ n) (h : PermIn x y d d') (hc : c ≤ x ∨ y ≤ c) (hd : CutAt lt lt' n d c) : CutAt lt lt' n d' c :=
  cross_perm (G lt lt') hy h (by omega) (by omega) hd

theorem gap {q x y : Nat} (hx : q ∣ x) (hy : q ∣ y) (h : x < y) : x + q ≤ y := by
  have := Nat.le_of_dvd (by omega) (Nat.dvd_sub hy hx)
  omega

/-- Blocks of 20, those below a in order. -/
structure P1 (lt lt' : α → α → Bool) (n : Nat) (d0 d : Array α) (a : Nat) : Prop where
  dvd : 20 ∣ a
  perm : PermIn 0 n d0 d
  cut : ∀ c, (20 ∣ c ∨ a ≤ c) → CutAt lt lt' n d c
  run : ∀ x, 20 ∣ x → x + 20 ≤ a → SortedIn lt' x (x + 20) d

theorem P1.start {n : Nat} {d : Array α} (h : ∀ s t, s < t → t < n → G lt lt' d[s]! d[t]!) : P1 lt lt' n d d 0 :=
  ⟨⟨0, rfl⟩, permIn_refl _ _ _, fun c _ s t _ h1 h2 h3 => h s t (by omega) h3, fun x _ h2 => by omega⟩

theorem P1.pairs {n : Nat} {d0 d : Array α} {a : Nat} (h : P1 lt lt' n d0 d a) : ∀ s t, a ≤ s → s < t → t < n → G lt lt' d[s]! d[t]! := fun s t h1 h2 h3 => h.cut t (.inr (by omega)) s t (by omega) h2 (Nat.le_refl _) h3

theorem P1.next (hS : SWO lt') {n : Nat} {d0 d : Array α} {a : Nat} (hn : n ≤ d0.size) (h : P1 lt lt' n d0 d a) (hb : a + 20 ≤ n) : P1 lt lt' n d0 (insertionSort lt d a (a + 20)) (a + 20) := by
  have hsz := h.perm.1
  obtain ⟨h1, h2⟩ := insertion hS d a (a + 20) (by omega) (by omega) (fun s t q1 q2 q3 => h.pairs s t q1 q2 (by omega))
  refine ⟨Nat.dvd_add h.dvd ⟨1, rfl⟩, permIn_trans _ _ _ _ _ h.perm (permIn_mono _ _ a (a + 20) 0 n (by omega) hb (by omega) h1), fun c hc => ?_, fun x hx hxa => ?_⟩
  · have hca : c ≤ a ∨ a + 20 ≤ c := by
      rcases hc with hc | hc
      · by_cases e : c ≤ a
        · exact .inl e
        · exact .inr (gap h.dvd hc (by omega))
      · exact .inr hc
    refine cut_perm (by omega) hb h1 hca (h.cut c ?_)
    rcases hc with hc | hc
    · exact .inl hc
    · exact .inr (by omega)
  · by_cases e : x < a
    · exact sorted_apart h1 (.inl (gap hx h.dvd e)) (h.run x hx (gap hx h.dvd e))
    · obtain rfl : x = a := by omega
      exact h2

/-- Blocks of q, those below a by twos merged. -/
structure P2 (lt lt' : α → α → Bool) (n q : Nat) (d0 d : Array α) (a : Nat) : Prop where
  pos : 0 < q
  dvd : 2 * q ∣ a
  perm : PermIn 0 n d0 d
  cut : ∀ c, (2 * q ∣ c ∨ (a ≤ c ∧ q ∣ c)) → CutAt lt lt' n d c
  run : ∀ x, 2 * q ∣ x → x + 2 * q ≤ a → SortedIn lt' x (x + 2 * q) d
  rest : ∀ x, q ∣ x → a ≤ x → SortedIn lt' x (min (x + q) n) d

theorem P1.last (hS : SWO lt') {n : Nat} {d0 d : Array α} {a : Nat} (hn : n ≤ d0.size) (h : P1 lt lt' n d0 d a) (ha : a ≤ n) (hb : n < a + 20) : P2 lt lt' n 20 d0 (insertionSort lt d a n) 0 := by
  have hsz := h.perm.1
  obtain ⟨h1, h2⟩ := insertion hS d a n ha (by omega) (fun s t q1 q2 q3 => h.pairs s t q1 q2 q3)
  refine ⟨by omega, ⟨0, rfl⟩, permIn_trans _ _ _ _ _ h.perm (permIn_mono _ _ a n 0 n (by omega) (by omega) (by omega) h1), fun c hc => ?_, fun x _ hx => by omega, fun x hx _ => ?_⟩
  · have h20 : 20 ∣ c := by
      rcases hc with hc | hc
      · exact Nat.dvd_trans ⟨2, rfl⟩ hc
      · exact hc.2
    have hca : c ≤ a ∨ n ≤ c := by
      by_cases e : c ≤ a
      · exact .inl e
      · have := gap h.dvd h20 (by omega); omega
    exact cut_perm (by omega) (by omega) h1 hca (h.cut c (.inl h20))
  · by_cases e : x < a
    · have hg := gap hx h.dvd e
      rw [Nat.min_eq_left (by omega)]
      exact sorted_apart h1 (.inl hg) (h.run x hx hg)
    · by_cases e2 : x = a
      · subst e2; rw [Nat.min_eq_right (by omega)]; exact h2
      · intro i j q1 q2 q3
        have := gap h.dvd hx (by omega)
        omega

/-- What a merge at a is told. -/
theorem P2.ready {n q : Nat} {d0 d : Array α} {a b : Nat} (h : P2 lt lt' n q d0 d a) (hq : a + q < b) (hb : b ≤ n) (hb2 : b ≤ a + 2 * q) (hb3 : b = n ∨ b = a + 2 * q) :
    SortedIn lt' a (a + q) d ∧ SortedIn lt' (a + q) b d ∧ ∀ i j, a ≤ i → i < a + q → a + q ≤ j → j < b → G lt lt' d[i]! d[j]! := by
  have hqa : q ∣ a := Nat.dvd_trans ⟨2, by omega⟩ h.dvd
  have s1 := h.rest a hqa (Nat.le_refl _)
  have s2 := h.rest (a + q) (Nat.dvd_add hqa (Nat.dvd_refl _)) (by omega)
  rw [Nat.min_eq_left (by omega)] at s1
  rw [show min (a + q + q) n = b by omega] at s2
  exact ⟨s1, s2, fun i j h1 h2 h3 h4 => h.cut (a + q) (.inr ⟨by omega, Nat.dvd_add hqa (Nat.dvd_refl _)⟩) i j (by omega) h2 h3 (by omega)⟩

theorem P2.next {n q : Nat} {d0 d d' : Array α} {a : Nat} (hn : n ≤ d0.size) (h : P2 lt lt' n q d0 d a) (hb : a + 2 * q ≤ n) (h1 : PermIn a (a + 2 * q) d d') (h2 : SortedIn lt' a (a + 2 * q) d') : P2 lt lt' n q d0 d' (a + 2 * q) := by
  have hsz := h.perm.1
  have hq := h.pos
  have hqa : q ∣ a := Nat.dvd_trans ⟨2, by omega⟩ h.dvd
  refine ⟨hq, Nat.dvd_add h.dvd (Nat.dvd_refl _), permIn_trans _ _ _ _ _ h.perm (permIn_mono _ _ a (a + 2 * q) 0 n (by omega) hb (by omega) h1), fun c hc => ?_, fun x hx hxa => ?_, fun x hx hxa => ?_⟩
  · have hca : c ≤ a ∨ a + 2 * q ≤ c := by
      rcases hc with hc | hc
      · by_cases e : c ≤ a
        · exact .inl e
        · exact .inr (gap h.dvd hc (by omega))
      · exact .inr hc.1
    refine cut_perm (by omega) hb h1 hca (h.cut c ?_)
    rcases hc with hc | hc
    · exact .inl hc
    · exact .inr ⟨by omega, hc.2⟩
  · by_cases e : x < a
    · have hg := gap hx h.dvd e
      exact sorted_apart h1 (.inl hg) (h.run x hx hg)
    · obtain rfl : x = a := by omega
      exact h2
  · exact sorted_apart h1 (.inr hxa) (h.rest x hx (by omega))

/-- Twice as long blocks: the last one was merged, or needs no merging. -/
theorem P2.double {n q : Nat} {d0 d d' : Array α} {a : Nat} (hn : n ≤ d0.size) (h : P2 lt lt' n q d0 d a) (ha : a ≤ n) (hb : n < a + 2 * q) (h1 : PermIn a n d d') (h2 : SortedIn lt' a n d') : P2 lt lt' n (2 * q) d0 d' 0 := by
  have hsz := h.perm.1
  have hq := h.pos
  refine ⟨by omega, ⟨0, rfl⟩, permIn_trans _ _ _ _ _ h.perm (permIn_mono _ _ a n 0 n (by omega) (by omega) (by omega) h1), fun c hc => ?_, fun x _ hxa => by omega, fun x hx hxa => ?_⟩
  · have h2c : 2 * q ∣ c := by
      rcases hc with hc | hc
      · exact Nat.dvd_trans ⟨2, by omega⟩ hc
      · exact hc.2
    have hca : c ≤ a ∨ n ≤ c := by
      by_cases e : c ≤ a
      · exact .inl e
      · have := gap h.dvd h2c (by omega); omega
    exact cut_perm (by omega) (by omega) h1 hca (h.cut c (.inl h2c))
  · by_cases e : x < a
    · have hg := gap hx h.dvd e
      rw [Nat.min_eq_left (by omega)]
      exact sorted_apart h1 (.inl hg) (h.run x hx hg)
    · by_cases e2 : x = a
      · subst e2; rw [Nat.min_eq_right (by omega)]; exact h2
      · intro i j q1 q2 q3
        have := gap h.dvd hx (by omega)
        omega

theorem P2.whole {n q : Nat} {d0 d : Array α} {a : Nat} (h : P2 lt lt' n q d0 d a) (hq : n ≤ a + q) : SortedIn lt' a n d := by
  have := h.rest a (Nat.dvd_trans ⟨2, by omega⟩ h.dvd) (Nat.le_refl _)
  rwa [Nat.min_eq_right hq] at this

end Go.Proofs.YtpfobocdbmiagaaDoor.St
