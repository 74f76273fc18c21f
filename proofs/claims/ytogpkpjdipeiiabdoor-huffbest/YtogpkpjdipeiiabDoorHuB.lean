/- Plain facts on the program's best lengths: how often a symbol is met in the first packages. -/
import Derived.Test.YtogpkpjdipeiiabDoorCh
import Derived.Test.YtogpkpjdipeiiabDoorHL2
import Derived.Test.YtogpkpjdipeiiabDoorHuC
namespace Go.Proofs.YtogpkpjdipeiiabDoor
open Pm Cn

/-- What is asked of lengths: right, as short as they must be, for those alone that count; and none cost less. -/
structure GoodL (z y : Nat → Int) (len most : Nat) : Prop where
  low : ∀ i, i < len → 0 ≤ y i ∧ y i ≤ most
  same : ∀ i, i < len → (0 < y i ↔ 0 < z i)
  right : Right (nat y) len
  least : ∀ A : List Nat, Ord A → A.Perm (posOf (nat z) len) → (if A.length = 0 then 0 else if A.length = 1 then A.sum else bst A A.length most 0 2) = upto (fun i => nat y i * nat z i) len

theorem getD_at {F : List Nat} {i : Nat} (h : i < F.length) : F.getD i 0 = F[i] := by simp [List.getElem?_eq_getElem h]

theorem list_upto (g : Nat → Nat) : ∀ F : List Nat, (F.map g).sum = upto (fun i => g (F.getD i 0)) F.length := fun F => by
  rw [← range_upto]
  congr 1
  apply List.ext_getElem
  · simp
  · intro i h1 h2
    have h1 : i < F.length := by simpa using h1
    simp [List.getElem?_eq_getElem h1]

theorem syms_sum (z : Nat → Int) (len : Nat) (g : Nat → Nat) : upto (fun j => if 0 < z j then g j else 0) len = upto (fun i => g ((syms z len).getD i 0)) (syms z len).length := by
  rw [← list_upto, syms, ← sum_filter]
  exact upto_congr len (fun j _ => by by_cases h : 0 < z j <;> simp [h])

theorem syms_at (z : Nat → Int) (len i : Nat) (h : i < (syms z len).length) : (syms z len).getD i 0 < len ∧ 0 < z ((syms z len).getD i 0) := by
  rw [getD_at h]
  exact (syms_mem z len _).1 (List.getElem_mem h)

theorem syms_inj (z : Nat → Int) (len i j : Nat) (hi : i < (syms z len).length) (hj : j < (syms z len).length) (h : (syms z len).getD i 0 = (syms z len).getD j 0) : i = j := by
  rw [getD_at hi, getD_at hj] at h
  have hs := List.pairwise_iff_getElem.1 (syms_sorted z len)
  rcases Nat.lt_trichotomy i j with c | c | c
  · have := hs i j hi hj c; omega
  · exact c
  · have := hs j i hj hi c; omega

theorem syms_of (z : Nat → Int) (len x : Nat) (h : x < len) (hz : 0 < z x) : ∃ i, i < (syms z len).length ∧ (syms z len).getD i 0 = x := by
  obtain ⟨i, hi, e⟩ := List.getElem_of_mem ((syms_mem z len x).2 ⟨h, hz⟩)
  exact ⟨i, hi, by rw [getD_at hi]; exact e⟩

theorem posOf_syms (z : Nat → Int) (len : Nat) : posOf (nat z) len = (syms z len).map (nat z) := by
  unfold posOf syms
  rw [List.filter_map]
  congr 1
  refine List.filter_congr (fun x _ => ?_)
  have : 0 < nat z x ↔ 0 < z x := by unfold nat; omega
  simp [this]

/-- Sums over all are sums over those that count. -/
theorem sums (z y : Nat → Int) (len : Nat) (hs : ∀ i, i < len → (0 < y i ↔ 0 < z i)) (hz : ∀ i, i < len → 0 ≤ z i) :
    cnt (nat y) len = (syms z len).length ∧ all (nat y) len = upto (fun i => 2 ^ (15 - nat y ((syms z len).getD i 0))) (syms z len).length ∧
    upto (fun i => nat y i * nat z i) len = upto (fun i => nat z ((syms z len).getD i 0) * nat y ((syms z len).getD i 0)) (syms z len).length := by
  have e1 : ∀ j, j < len → (0 < nat y j ↔ 0 < z j) := fun j hj => by rw [← hs j hj]; unfold nat; omega
  refine ⟨?_, ?_, ?_⟩
  · have h := syms_sum z len (fun _ => 1)
    have h1 : ∀ m, upto (fun _ => 1) m = m := fun m => by
      induction m with
      | zero => rfl
      | succ m ih => simp only [upto]; omega
    rw [h1] at h
    rw [← h]
    unfold cnt
    exact upto_congr len (fun j hj => by simp only [e1 j hj])
  · rw [← syms_sum z len (fun j => 2 ^ (15 - nat y j))]
    unfold all
    exact upto_congr len (fun j hj => by simp only [e1 j hj])
  · rw [← syms_sum z len (fun j => nat z j * nat y j)]
    refine upto_congr len (fun j hj => ?_)
    by_cases h : 0 < z j
    · simp only [if_pos h]; exact Nat.mul_comm _ _
    · have := hz j hj
      simp only [if_neg h]
      have e : nat z j = 0 := by unfold nat; omega
      rw [e, Nat.mul_zero]

theorem count_map (sg : Nat → Nat) (F : List Nat) (i : Nat) (h : ∀ a ∈ F, sg a = sg i → a = i) : (F.map sg).count (sg i) = F.count i := by
  unfold List.count
  rw [List.countP_map]
  refine List.countP_congr (fun a ha => ?_)
  simp only [Function.comp_apply, beq_iff_eq]
  exact ⟨h a ha, fun e => by rw [e]⟩

theorem good_many (z : Nat → Int) (len D : Nat) (L : Nat → List (List Nat)) (hz : ∀ i, i < len → 0 ≤ z i ∧ z i ≤ 1048576) (hlen : len ≤ 300) (h2 : 2 ≤ (syms z len).length) (hD : D ≤ 14) (hn : (syms z len).length ≤ 2 ^ (D + 1))
    (hc : Chain (fun i => nat z ((syms z len).getD i 0)) (syms z len).length (D + 1) L) (y : Nat → Int)
    (hy : ∀ x, x < len → y x = (((((L (D + 1)).take (2 * ((syms z len).length - 1))).flatten.map fun i => (syms z len).getD i 0).count x : Nat) : Int)) : GoodL z y len (D + 1) := by
  have hcz : ∀ i, i < (syms z len).length → 1 ≤ nat z ((syms z len).getD i 0) ∧ nat z ((syms z len).getD i 0) ≤ 1048576 := fun i hi => by
    obtain ⟨a1, a2⟩ := syms_at z len i hi
    have := hz _ a1
    unfold nat; omega
  have hsm := (hc.small (fun i hi => (hcz i hi).2) (D + 1) (Nat.le_refl _)).2
  obtain ⟨Q, q1, q2, q3, q4⟩ := hc.whole
  have hsl := syms_length z len
  have hF : ∀ x ∈ ((L (D + 1)).take (2 * ((syms z len).length - 1))).flatten, x < (syms z len).length := fun x hx => by
    obtain ⟨F, hF1, hF2⟩ := List.mem_flatten.1 hx
    exact (hsm F (List.mem_of_mem_take hF1)).2.1 x hF2
  have hyl : ∀ i, i < (syms z len).length → nat y ((syms z len).getD i 0) = ((L (D + 1)).take (2 * ((syms z len).length - 1))).flatten.count i := fun i hi => by
    unfold nat
    rw [hy _ (syms_at z len i hi).1, count_map (fun i => (syms z len).getD i 0) _ i (fun a ha e => syms_inj z len a i (hF a ha) hi e)]
    omega
  have hmb := merged_best (fun i => nat z ((syms z len).getD i 0)) (syms z len).length D Q q2 q3 q4 (fun i hi => (hcz i hi).1) h2 hn (fun i => nat y ((syms z len).getD i 0)) (fun i hi => by rw [hyl i hi, q1])
  have hlw : ∀ i, i < (syms z len).length → nat y ((syms z len).getD i 0) ≤ D + 1 := fun i hi => by
    have hperm : (Q D).Perm ((Q D).take (2 * ((syms z len).length - 1)) ++ (Q D).drop (2 * ((syms z len).length - 1))) := by rw [List.take_append_drop]
    have := (width (syms z len).length Q q2 q3 D _ _ hperm).1 i
    rw [hyl i hi, ← q1]
    first | exact this | exact this hi | omega
  have hb : upto (fun i => nat z ((syms z len).getD i 0) * nat y ((syms z len).getD i 0)) (syms z len).length < never := by
    have h1 : ∀ m, m ≤ (syms z len).length → upto (fun i => nat z ((syms z len).getD i 0) * nat y ((syms z len).getD i 0)) m ≤ m * 15728640 := by
      intro m
      induction m with
      | zero => intro _; simp [upto]
      | succ m ih =>
        intro hm
        have i1 := ih (by omega)
        have i2 := (hcz m (by omega)).2
        have i3 := hlw m (by omega)
        have i4 : nat z ((syms z len).getD m 0) * nat y ((syms z len).getD m 0) ≤ 1048576 * 15 := Nat.mul_le_mul i2 (by omega)
        simp only [upto]
        omega
    have := h1 _ (Nat.le_refl _)
    unfold never
    omega
  obtain ⟨m1, m2, m3⟩ := hmb hb
  have hlow : ∀ i, i < len → 0 ≤ y i ∧ y i ≤ ((D + 1 : Nat) : Int) ∧ (0 < y i ↔ 0 < z i) := fun x hx => by
    by_cases h : 0 < z x
    · obtain ⟨i, hi, rfl⟩ := syms_of z len x hx h
      have a := m1 i hi
      have b : 0 ≤ y ((syms z len).getD i 0) := by rw [hy _ hx]; omega
      unfold nat at a
      omega
    · have e : y x = 0 := by
        rw [hy x hx]
        have : x ∉ ((L (D + 1)).take (2 * ((syms z len).length - 1))).flatten.map fun i => (syms z len).getD i 0 := fun hm => by
          obtain ⟨i, hi, rfl⟩ := List.mem_map.1 hm
          exact h (syms_at z len i (hF i hi)).2
        rw [List.count_eq_zero_of_not_mem this]
        rfl
      omega
  obtain ⟨s1, s2, s3⟩ := sums z y len (fun i hi => (hlow i hi).2.2) (fun i hi => (hz i hi).1)
  refine ⟨fun i hi => ⟨(hlow i hi).1, (hlow i hi).2.1⟩, fun i hi => (hlow i hi).2.2, .inr (.inr ?_), fun A hA hp => ?_⟩
  · rw [s2]
    have e : upto (fun i => 2 ^ (15 - nat y ((syms z len).getD i 0))) (syms z len).length = upto (fun i => 2 ^ (D + 1 - nat y ((syms z len).getD i 0)) * 2 ^ (14 - D)) (syms z len).length := upto_congr _ (fun i hi => by
      have := (m1 i hi).2
      rw [← Nat.pow_add]
      congr 1
      omega)
    rw [e, upto_mul, m2, ← Nat.pow_add, show D + 1 + (14 - D) = 15 by omega]
  · have hl : A.length = (syms z len).length := by rw [hp.length_eq, posOf_syms, List.length_map]
    rw [if_neg (by omega), if_neg (by omega), s3, ← m3, hl]
    congr 1
    refine ord_unique _ _ hA (q4 0) (hp.trans ?_)
    rw [posOf_syms]
    refine List.Perm.trans ?_ (q2.map _).symm
    have e : (Pm.singles (syms z len).length).map (Pm.load fun i => nat z ((syms z len).getD i 0)) = (List.range (syms z len).length).map fun i => nat z ((syms z len).getD i 0) := by
      unfold Pm.singles
      rw [List.map_map]
      refine List.map_congr_left (fun i _ => ?_)
      simp [Pm.load]
    rw [e]
    refine List.Perm.of_eq ?_
    apply List.ext_getElem
    · simp
    · intro i h1 h2
      have h1 : i < (syms z len).length := by simpa using h1
      simp [List.getElem?_eq_getElem h1]

theorem good_none (z : Nat → Int) (len most : Nat) (hz : ∀ i, i < len → 0 ≤ z i) (h : (syms z len).length = 0) : GoodL z (fun _ => 0) len most := by
  have hs : ∀ i, i < len → ((0 : Int) < 0 ↔ 0 < z i) := fun x hx => by
    refine ⟨fun h => by omega, fun h' => ?_⟩
    obtain ⟨i, hi, _⟩ := syms_of z len x hx h'
    omega
  obtain ⟨s1, s2, s3⟩ := sums z (fun _ => 0) len hs hz
  refine ⟨fun i _ => ⟨by omega, by omega⟩, hs, .inl (by rw [s1, h]), fun A hA hp => ?_⟩
  have hl : A.length = (syms z len).length := by rw [hp.length_eq, posOf_syms, List.length_map]
  rw [if_pos (by omega), s3, h]
  rfl

theorem good_one (z : Nat → Int) (len most : Nat) (hz : ∀ i, i < len → 0 ≤ z i) (h : (syms z len).length = 1) (hm : 1 ≤ most) : GoodL z (fun j => if j = (syms z len).getD 0 0 then 1 else 0) len most := by
  obtain ⟨a1, a2⟩ := syms_at z len 0 (by omega)
  have hs : ∀ i, i < len → ((0 : Int) < (if i = (syms z len).getD 0 0 then 1 else 0) ↔ 0 < z i) := fun x hx => by
    by_cases e : x = (syms z len).getD 0 0
    · rw [if_pos e, e]; omega
    · rw [if_neg e]
      refine ⟨fun h => by omega, fun h' => ?_⟩
      obtain ⟨i, hi, e2⟩ := syms_of z len x hx h'
      have : i = 0 := by omega
      subst this
      exact absurd e2.symm e
  obtain ⟨s1, s2, s3⟩ := sums z _ len hs hz
  have hones : ones (nat fun j => if j = (syms z len).getD 0 0 then 1 else 0) len = 1 := by
    rw [h] at s1
    rw [← s1]
    unfold ones cnt
    refine upto_congr len (fun j _ => ?_)
    by_cases e : j = (syms z len).getD 0 0
    · simp only [nat, if_pos e]; rfl
    · simp only [nat, if_neg e]; rfl
  refine ⟨fun i _ => by split <;> omega, hs, .inr (.inl ⟨by rw [s1, h], hones⟩), fun A hA hp => ?_⟩
  have hl : A.length = (syms z len).length := by rw [hp.length_eq, posOf_syms, List.length_map]
  rw [if_neg (by omega), if_pos (by omega), s3, hp.sum_nat, posOf_syms, list_upto, h]
  simp [upto, nat]
end Go.Proofs.YtogpkpjdipeiiabDoor
