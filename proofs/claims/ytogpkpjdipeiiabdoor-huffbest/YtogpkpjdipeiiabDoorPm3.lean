/- Plain facts: a code that costs as little as merged packages do is whole, and the trying finds just its cost. -/
import Derived.Test.YtogpkpjdipeiiabDoorPm2
namespace Go.Proofs.YtogpkpjdipeiiabDoor.Pm

theorem bst_le_cost (A : List Nat) (D : Nat) (L : List (Nat × Nat)) (hA : Ord A) (hp : A.Perm (L.map (·.1))) (h : ∀ x ∈ L, 1 ≤ x.2 ∧ x.2 ≤ D + 1) (hK : kraft (D + 1) L = 2 ^ (D + 1)) (hc : cost L < never) :
    bst A L.length (D + 1) 0 2 ≤ cost L := by
  have hall : those (D + 1) L D = L := by
    unfold those
    rw [List.filter_eq_self]
    intro x hx
    have := h x hx
    exact decide_eq_true (by omega)
  have hm : many (D + 1) L D = L.length := by unfold many; rw [hall]
  have hw := way_level A (D + 1) L D 2 (by rw [hall, hK, Nat.pow_succ, Nat.mul_comm])
  rw [hm, Nat.sub_self] at hw
  have h1 := cost_weigh A (D + 1) L hA hp (fun x hx => (h x hx).2)
  have h2 := bst_le hw (by omega)
  omega

theorem longest (L : List (Nat × Nat)) (h : 0 < L.length) : ∃ x ∈ L, ∀ y ∈ L, y.2 ≤ x.2 := by
  induction L with
  | nil => simp at h
  | cons a L ih =>
    by_cases e : L.length = 0
    · have : L = [] := List.length_eq_zero_iff.1 e
      subst this
      exact ⟨a, by simp, by simp⟩
    · obtain ⟨x, hx, hy⟩ := ih (by omega)
      by_cases hax : a.2 ≤ x.2
      · refine ⟨x, by simp [hx], fun y h => ?_⟩
        rcases List.mem_cons.1 h with rfl | h
        · exact hax
        · exact hy y h
      · refine ⟨a, by simp, fun y h => ?_⟩
        rcases List.mem_cons.1 h with rfl | h
        · exact Nat.le_refl _
        · have := hy y h; omega

theorem dvd_kraft (M l : Nat) (L : List (Nat × Nat)) (h : ∀ y ∈ L, y.2 ≤ l) : 2 ^ (M - l) ∣ kraft M L := by
  induction L with
  | nil => exact Nat.dvd_zero _
  | cons x L ih =>
    rw [kraft_cons]
    exact Nat.dvd_add (Nat.pow_dvd_pow 2 (by have := h x (by simp); omega)) (ih (fun y hy => h y (by simp [hy])))

theorem kraft_perm (M : Nat) {L L' : List (Nat × Nat)} (h : L.Perm L') : kraft M L = kraft M L' := (h.map _).sum_nat
theorem cost_perm {L L' : List (Nat × Nat)} (h : L.Perm L') : cost L = cost L' := (h.map _).sum_nat

/-- What costs the least is whole. -/
theorem tight (A : List Nat) (P : Nat → List Nat) (D : Nat) (L : List (Nat × Nat)) (hA : Ord A) (h0 : P 0 = A) (hP : ∀ j, Ord (P (j + 1)) ∧ (P (j + 1)).Perm (A ++ pairs (P j)))
    (hp : A.Perm (L.map (·.1))) (h : ∀ x ∈ L, 1 ≤ x.1 ∧ 1 ≤ x.2 ∧ x.2 ≤ D + 1) (hK : kraft (D + 1) L ≤ 2 ^ (D + 1)) (hn : 0 < L.length) (hc : cost L ≤ pre (P D) (2 * (L.length - 1))) : kraft (D + 1) L = 2 ^ (D + 1) := by
  rcases Nat.lt_or_ge (kraft (D + 1) L) (2 ^ (D + 1)) with hlt | hge
  · exfalso
    obtain ⟨x, hx, hmax⟩ := longest L hn
    have hpm := List.perm_cons_erase hx
    obtain ⟨c, l⟩ := x
    obtain ⟨hc1, hl1, hl2⟩ := h _ hx
    simp only at hc1 hl1 hl2 hmax
    have hd := dvd_kraft (D + 1) l L hmax
    have hd2 : 2 ^ (D + 1 - l) ∣ 2 ^ (D + 1) := Nat.pow_dvd_pow 2 (by omega)
    have hroom : kraft (D + 1) L + 2 ^ (D + 1 - l) ≤ 2 ^ (D + 1) := by
      obtain ⟨a, ha⟩ := hd
      obtain ⟨b, hb⟩ := hd2
      rw [ha, hb] at hlt ⊢
      have hab : a < b := Nat.lt_of_mul_lt_mul_left hlt
      have := Nat.mul_le_mul_left (2 ^ (D + 1 - l)) (show a + 1 ≤ b by omega)
      rw [Nat.mul_add, Nat.mul_one] at this
      exact this
    have hk := kraft_perm (D + 1) hpm
    have hcs := cost_perm hpm
    have hk2 : kraft (D + 1) ((c, l - 1) :: L.erase (c, l)) = 2 ^ (D + 1 - l) + 2 ^ (D + 1 - l) + kraft (D + 1) (L.erase (c, l)) := by
      rw [kraft_cons]
      show 2 ^ (D + 1 - (l - 1)) + _ = _
      rw [show D + 1 - (l - 1) = D + 1 - l + 1 from by omega, Nat.pow_succ, Nat.mul_two]
    rw [kraft_cons] at hk
    simp only at hk
    have hl := hpm.length_eq
    simp only [List.length_cons] at hl
    have h2 := least A P D ((c, l - 1) :: L.erase (c, l)) hA h0 hP (hp.trans (by simpa using hpm.map (·.1)))
      (fun y hy => by
        rcases List.mem_cons.1 hy with rfl | hy
        · show l - 1 ≤ D + 1; omega
        · exact (h y (List.mem_of_mem_erase hy)).2.2)
      (by rw [hk2]; omega) (by simp)
    simp only [List.length_cons] at h2
    rw [← hl] at h2
    have e1 : cost ((c, l - 1) :: L.erase (c, l)) = c * (l - 1) + cost (L.erase (c, l)) := rfl
    have e2 : cost ((c, l) :: L.erase (c, l)) = c * l + cost (L.erase (c, l)) := rfl
    rw [e1] at h2
    rw [e2] at hcs
    have e3 : c * l = c * (l - 1) + c := by
      obtain ⟨m, rfl⟩ : ∃ m, l = m + 1 := ⟨l - 1, by omega⟩
      rw [Nat.add_sub_cancel, Nat.mul_add, Nat.mul_one]
    omega
  · omega

/-- ALL OF IT: such a code is whole, and what is tried depth by depth is what it costs. -/
theorem best (A : List Nat) (P : Nat → List Nat) (D : Nat) (L : List (Nat × Nat)) (hA : Ord A) (h0 : P 0 = A) (hP : ∀ j, Ord (P (j + 1)) ∧ (P (j + 1)).Perm (A ++ pairs (P j)))
    (hp : A.Perm (L.map (·.1))) (h : ∀ x ∈ L, 1 ≤ x.1 ∧ 1 ≤ x.2 ∧ x.2 ≤ D + 1) (hK : kraft (D + 1) L ≤ 2 ^ (D + 1)) (hn : 0 < L.length) (hc : cost L ≤ pre (P D) (2 * (L.length - 1))) (hb : cost L < never) :
    kraft (D + 1) L = 2 ^ (D + 1) ∧ bst A L.length (D + 1) 0 2 = cost L := by
  have h1 := tight A P D L hA h0 hP hp h hK hn hc
  have h2 := bst_le_cost A D L hA hp (fun x hx => (h x hx).2) h1 hb
  have h3 := bst_ge A P D L.length h0 hP (by simpa using hp.length_eq) hn (by omega)
  exact ⟨h1, by omega⟩

end Go.Proofs.YtogpkpjdipeiiabDoor.Pm
