/- Walk of the program's cheapest packages. -/
import Derived.Test.YtogpkpjdipeiiabDoorSg
import Derived.Deep.RegionWith
namespace Go.Proofs.YtogpkpjdipeiiabDoor
open Go.Shelf Go.RowKit Go.Lib Go.Sort St Pm
variable {Bq : Nat}

theorem mem_cat : ∀ (Q : List (List Nat)) (F : List Nat), F ∈ cat Q → ∃ A B, A ∈ Q ∧ B ∈ Q ∧ F = A ++ B
  | a :: b :: r, F, h => by
    simp only [cat, List.mem_cons] at h
    rcases h with rfl | h
    · exact ⟨a, b, by simp, by simp, rfl⟩
    · obtain ⟨A, B, h1, h2, h3⟩ := mem_cat r F h
      exact ⟨A, B, by simp [h1], by simp [h2], h3⟩
  | [_], F, h => by simp [cat] at h
  | [], F, h => by simp [cat] at h

/-- So far as the program goes: k lists, one behind the other. -/
structure Chain (c : Nat → Nat) (n k : Nat) (L : Nat → List (List Nat)) : Prop where
  none : L 0 = []
  perm : ∀ j, j < k → (L (j + 1)).Perm (Pm.singles n ++ cat (L j))
  ord : ∀ j, j < k → Pm.Ord ((L (j + 1)).map (Pm.load c))

theorem Chain.small {c : Nat → Nat} {n k : Nat} {L : Nat → List (List Nat)} (h : Chain c n k L) (hc : ∀ i, i < n → c i ≤ 1048576) : ∀ j, j ≤ k → (L j).length ≤ 2 * n ∧ ∀ F ∈ L j, F.length ≤ 2 ^ j ∧ (∀ x ∈ F, x < n) ∧ Pm.load c F ≤ 2 ^ j * 1048576 := by
  intro j
  induction j with
  | zero => intro _; rw [h.none]; exact ⟨by simp, fun F hF => by cases hF⟩
  | succ j ih =>
    intro hj
    obtain ⟨i1, i2⟩ := ih (by omega)
    have hp := h.perm j (by omega)
    refine ⟨?_, fun F hF => ?_⟩
    · rw [hp.length_eq, List.length_append, cat_length, show (Pm.singles n).length = n by simp [Pm.singles]]
      omega
    · have hp2 := Nat.two_pow_pos j
      rcases List.mem_append.1 (hp.subset hF) with hF | hF
      · unfold Pm.singles at hF
        obtain ⟨i, hi, rfl⟩ := List.mem_map.1 hF
        have hi := List.mem_range.1 hi
        have := hc i hi
        refine ⟨by rw [Nat.pow_succ]; simp; omega, by simpa using hi, ?_⟩
        rw [Nat.pow_succ]
        simp [Pm.load]
        omega
      · obtain ⟨A, B, hA, hB, rfl⟩ := mem_cat _ _ hF
        obtain ⟨a1, a2, a3⟩ := i2 A hA
        obtain ⟨b1, b2, b3⟩ := i2 B hB
        have el : Pm.load c (A ++ B) = Pm.load c A + Pm.load c B := by simp [Pm.load]
        refine ⟨by rw [List.length_append, Nat.pow_succ]; omega, fun x hx => ?_, by rw [el, Nat.pow_succ]; omega⟩
        rcases List.mem_append.1 hx with hx | hx
        · exact a2 x hx
        · exact b2 x hx

/-- The lists beyond. -/
def beyond (c : Nat → Nat) (n : Nat) (L : List (List Nat)) : Nat → List (List Nat)
  | 0 => L
  | j + 1 => (Pm.singles n ++ cat (beyond c n L j)).mergeSort (fun a b => decide (Pm.load c a ≤ Pm.load c b))

theorem beyond_ord (c : Nat → Nat) (n : Nat) (L : List (List Nat)) (j : Nat) : Pm.Ord ((beyond c n L (j + 1)).map (Pm.load c)) := by
  unfold beyond
  have h := List.pairwise_mergeSort (le := fun a b => decide (Pm.load c a ≤ Pm.load c b)) (fun a b d h1 h2 => by simp only [decide_eq_true_eq] at *; omega) (fun a b => by simp only [Bool.or_eq_true, decide_eq_true_eq]; omega) (Pm.singles n ++ cat (beyond c n L j))
  unfold Pm.Ord
  rw [List.pairwise_map]
  exact h.imp (fun h => by simpa using h)

theorem Chain.whole {c : Nat → Nat} {n k : Nat} {L : Nat → List (List Nat)} (h : Chain c n (k + 1) L) : ∃ Q : Nat → List (List Nat), Q k = L (k + 1) ∧ (Q 0).Perm (Pm.singles n) ∧ (∀ j, (Q (j + 1)).Perm (Pm.singles n ++ cat (Q j))) ∧ ∀ j, Pm.Ord ((Q j).map (Pm.load c)) := by
  have h0 : (L 1).Perm (Pm.singles n) := by
    have := h.perm 0 (by omega)
    rw [h.none] at this
    simpa [cat] using this
  refine ⟨fun j => if j ≤ k then L (j + 1) else beyond c n (L (k + 1)) (j - k), by simp, by simpa using h0, fun j => ?_, fun j => ?_⟩
  · by_cases c1 : j + 1 ≤ k
    · simp only [if_pos c1, if_pos (show j ≤ k by omega)]
      exact h.perm (j + 1) (by omega)
    · simp only [if_neg c1]
      by_cases c2 : j ≤ k
      · have : j = k := by omega
        subst this
        simp only [if_pos c2, show j + 1 - j = 0 + 1 by omega]
        exact List.mergeSort_perm _ _
      · simp only [if_neg c2, show j + 1 - k = (j - k) + 1 by omega]
        exact List.mergeSort_perm _ _
  · by_cases c1 : j ≤ k
    · simp only [if_pos c1]; exact h.ord j (by omega)
    · simp only [if_neg c1]
      obtain ⟨m, hm⟩ : ∃ m, j - k = m + 1 := ⟨j - k - 1, by omega⟩
      rw [hm]
      exact beyond_ord c n _ m

theorem IsInts.of_below {w w' : World} {a : Option Addr} {len : Nat} {z : Nat → Int} {B : Nat} (h : IsInts w a len z) (hb : Below B w w') (hB : w.heap.size ≤ B) : IsInts w' a len z := h.below (hb.mono hB)

set_option maxHeartbeats 2000000 in
set_option maxRecDepth 100000 in
theorem cheapest_any (ao bo : Option Addr) (len n ca cb most : Nat) (z : Nat → Int) (sg c : Nat → Nat) (w : World) (hC : IsInts w ao len z) (hS : IsInts w bo n (fun i => (sg i : Int))) (hsg : ∀ i, i < n → sg i < len) (hc : ∀ i, i < n → z (sg i) = (c i : Int)) (hc2 : ∀ i, i < n → c i ≤ 1048576) (hn : n ≤ 300) (h0 : 2 ≤ n) (hm1 : 1 ≤ most) (hm : most ≤ 15) (hnm : n ≤ 2 ^ most) (hq : Bq ≤ w.heap.size) :
    Calls Tryd.prog 43 #[.slice ao len ca, .slice bo n cb, .int .i64 (most : Int)] w fun e w' => ∃ v L, e = .returned v ∧ Chain c n most L ∧ IsPk Bq w' sg c v ((L most).take (2 * (n - 1))) ∧ Below w.heap.size w w' := by
  have d0 : ((n : Int) == 0) = false := by simp; omega
  have HC := hide hC
  have HS := hide hS
  have Hsg := hide hsg
  have Hc := hide hc
  have Hc2 := hide hc2
  have Hnm := hide hnm
  clear hC hS hsg hc hc2 hnm
  go_enter Tryd.func43, Tryd.ntmps43
  go_wp2
  go_loopw [7, 12] (fun v i wr => ∃ (k : Nat) (L : Nat → List (List Nat)), k ≤ most ∧ i = .int .i64 k ∧ Hid (Chain c n k L) ∧ Hid (IsPk Bq wr sg c v (L k)) ∧ Below w.heap.size w wr) (fun _ i _ => most - (intOf i).toNat)
  case atStart => exact ⟨0, fun _ => [], by omega, rfl, (⟨rfl, fun j hj => by omega, fun j hj => by omega⟩ : Chain c n 0 _), .inl ⟨rfl, rfl⟩, Below.refl _ _⟩
  case round =>
    obtain ⟨k, L, hk, rfl, HCh, HV, hbr⟩ := hrel
    by_cases hlt : k < most
    · have d1 : decide ((k : Int) < (most : Int)) = true := by simp; omega
      have hz00 := hbr.size
      have HSI := hide (singles_any (Bq := Bq) ao bo len n ca cb z sg c wr ((unhide HC).below hbr) ((unhide HS).below hbr) (unhide Hsg) (unhide Hc) hn (by omega) (by omega))
      go_wp2_with fail
      refine (unhide HSI).mono ?_; rintro e w1 ⟨v1, rfl, hv1, hb1⟩
      have HV1 := hide hv1
      have hsm := (unhide HCh).small (unhide Hc2) k (Nat.le_refl _)
      have hp15 : 2 ^ k ≤ 32768 := Nat.pow_le_pow_right (n := 2) (j := 15) (by omega) (by omega)
      have HPA := hide (pairs_any sg c u7 (L k) w1 ((unhide HV).below hb1) (by omega) (fun F hF => ⟨by have := (hsm.2 F hF).1; omega, by have := (hsm.2 F hF).2.2; omega⟩) (by have := hb1.size; omega))
      clear hv1 hsm HSI
      go_wp2_with fail
      refine (unhide HPA).mono ?_; rintro e w2 ⟨v2, rfl, hv2, hb2⟩
      have hz1 := hb1.size
      have hsm := (unhide HCh).small (unhide Hc2) k (Nat.le_refl _)
      have hs1 : (Pm.singles n).length = n := by simp [Pm.singles]
      have HME := hide (merged_any sg c v1 v2 (Pm.singles n) (cat (L k)) w2 ((unhide HV1).below hb2) hv2 (by rw [hs1]; omega) (by rw [cat_length]; omega) (by rw [hs1]; omega) (by have := hb2.size; omega))
      clear hv2 hsm HPA hs1
      go_wp2_with fail
      refine (unhide HME).mono ?_; rintro e w3 ⟨v3, Q3, rfl, hv3, hp3, ho3, hb3⟩
      have hz2 := hb2.size
      have hz0 := hbr.size
      have hb : Below w.heap.size w w3 := ((hbr.trans (hb1.mono (by omega))).trans (hb2.mono (by omega))).trans (hb3.mono (by omega))
      have HN : Hid (∃ L', Chain c n (k + 1) L' ∧ L' (k + 1) = Q3) := by
        have hch := unhide HCh
        refine ⟨fun j => if j ≤ k then L j else Q3, ⟨by simp [hch.none], fun j hj => ?_, fun j hj => ?_⟩, if_neg (by omega)⟩
        · by_cases e : j = k
          · subst e; simp only [if_neg (show ¬ j + 1 ≤ j by omega), if_pos (Nat.le_refl j)]; exact hp3
          · simp only [if_pos (show j ≤ k by omega), if_pos (show j + 1 ≤ k by omega)]; exact hch.perm j (by omega)
        · by_cases e : j = k
          · subst e; simp only [if_neg (show ¬ j + 1 ≤ j by omega)]; exact ho3
          · simp only [if_pos (show j + 1 ≤ k by omega)]; exact hch.ord j (by omega)
      have HV3 := hide hv3
      clear hv3 hp3 ho3 HME
      go_wp2
      go_roundw
      case rel =>
        obtain ⟨L', h1, h2⟩ := unhide HN
        exact ⟨k + 1, L', by omega, by go_num, h1, by rw [h2]; exact HV3, hb⟩
      case measure => simp [intOf]; omega
    · have hk2 : k = most := by omega
      subst hk2
      have d1 : decide ((k : Int) < (k : Int)) = false := by simp
      obtain ⟨D, rfl⟩ : ∃ D, k = D + 1 := ⟨k - 1, by omega⟩
      obtain ⟨Q, hQ1, hQ2, hQ3, _⟩ := (unhide HCh).whole
      have hen := enough_top n Q hQ2 hQ3 D (unhide Hnm) (by omega)
      rw [hQ1] at hen
      obtain ⟨m, hmm⟩ : ∃ m, m = 2 * (n - 1) := ⟨_, rfl⟩
      have zm : 2 * (n : Int) - 2 = (m : Int) := by omega
      obtain ⟨g, cap, xs, e, hgq, hcap, ha, hx⟩ : ∃ g cap xs, u7 = .slice (some ⟨g, 0, none⟩) xs.length cap ∧ Bq ≤ g ∧ xs.length ≤ cap ∧ AllP Bq wr sg c xs (L (D + 1)) ∧ ∀ i, (h : i < xs.length) → wr.cell? ⟨g, i * 2, none⟩ = some (.int .i64 xs[i].1) ∧ wr.cell? ⟨g, i * 2 + 1, none⟩ = some (.slice xs[i].2.1 xs[i].2.2.1 xs[i].2.2.2) := by
        rcases unhide HV with ⟨_, h⟩ | h
        · rw [h] at hen; simp at hen; omega
        · exact h
      subst e
      have hxl := ha.length
      have hmx : m ≤ xs.length := by omega
      have hmc : (m : Int) ≤ (cap : Int) := by omega
      have hmc2 : m ≤ cap := by omega
      have Hmm := hide hmm
      have HA := hide ha
      have HX := hide hx
      clear hQ1 hQ2 hQ3 hen hmm ha hx hxl HV
      go_wp2
      go_ret
      refine ⟨_, L, rfl, unhide HCh, ?_, hbr⟩
      rw [← unhide Hmm]
      refine .inr ⟨g, cap, xs.take m, ?_, hgq, by rw [List.length_take]; omega, (unhide HA).take m, fun i hi => ?_⟩
      · rw [List.length_take, Nat.min_eq_left hmx]
        try rfl
      · have hi' : i < xs.length := by rw [List.length_take] at hi; omega
        rw [List.getElem_take]
        exact unhide HX i hi'
end Go.Proofs.YtogpkpjdipeiiabDoor
