/- The statement that one over the other covers as much, whichever is on top: the walk. -/
import Derived.Test.YtaghndongffafagDoorOv5
namespace Go.Proofs.YtaghndongffafagDoor
open Go.RowKit

theorem two_boxed (w : World) (t u : Px) : QP ((w.alloc (pxO t)).alloc (pxO u)) w.heap.size t ∧ QP ((w.alloc (pxO t)).alloc (pxO u)) (w.heap.size + 1) u ∧ ((w.alloc (pxO t)).alloc (pxO u)).heap.size = w.heap.size + 2 ∧ Below w.heap.size w ((w.alloc (pxO t)).alloc (pxO u)) := by
  have e : (w.alloc (pxO t)).heap.size = w.heap.size + 1 := by simp
  have h := pxO_new (w.alloc (pxO t)) u
  rw [e] at h
  exact ⟨(pxO_new w t).alloc _, h, by simp, ((Below.refl _ _).alloc (Nat.le_refl _) _).alloc (by simp) _⟩

set_option maxHeartbeats 4000000 in
set_option maxRecDepth 100000 in
theorem pixelCovers_all (m o : Int) (a b : Px) (w : World) :
    Calls Tryd.prog 5 #[.int .i64 m, .int .i64 o, a.val, b.val] w fun e w' => e = .returned (.bool true) ∧ Below w.heap.size w w' := by
  have H2 := hide (two_boxed w a b)
  have HH := hide (half_any)
  by_cases hmo : (0 ≤ m ∧ m ≤ 5) ∧ (0 ≤ o ∧ o ≤ 5)
  rotate_left
  · have d : decide (m < 0) = true ∨ (decide (m < 0) = false ∧ decide (m > 5) = true) ∨ (decide (m < 0) = false ∧ decide (m > 5) = false ∧ decide (o < 0) = true) ∨ (decide (m < 0) = false ∧ decide (m > 5) = false ∧ decide (o < 0) = false ∧ decide (o > 5) = true) := by
      simp only [decide_eq_true_eq, decide_eq_false_iff_not]
      omega
    clear hmo H2
    unfold Px.val
    have hb2 : ∀ x y t, Below w.heap.size w ((w.alloc (.cells x t)).alloc (.cells y t)) := fun x y t => ((Below.refl _ _).alloc (Nat.le_refl _) _).alloc (by simp) _
    have HB2 := hide hb2
    clear hb2
    rcases d with d1 | ⟨d1, d2⟩ | ⟨d1, d2, d3⟩ | ⟨d1, d2, d3, d4⟩
    all_goals
      go_enter Tryd.func5, Tryd.ntmps5
      go_wp2_with fail
      refine (unhide HH _).mono ?_
      rintro e w3 ⟨rfl, hb3⟩
      have HB3 := hide ((unhide HB2 _ _ _).trans (hb3.mono (by simp; omega)))
      clear hb3
      go_wp2
      go_ret
      exact ⟨rfl, unhide HB3⟩
  obtain ⟨⟨m0, m5⟩, o0, o5⟩ := hmo
  obtain ⟨mn, rfl⟩ := Int.eq_ofNat_of_zero_le m0
  obtain ⟨on, rfl⟩ := Int.eq_ofNat_of_zero_le o0
  have d1 : decide ((mn : Int) < 0) = false := decide_eq_false (by omega)
  have d2 : decide ((mn : Int) > 5) = false := decide_eq_false (by omega)
  have d2' : decide ((5 : Int) < (mn : Int)) = false := d2
  have d3 : decide ((on : Int) < 0) = false := decide_eq_false (by omega)
  have d4 : decide ((on : Int) > 5) = false := decide_eq_false (by omega)
  have d4' : decide ((5 : Int) < (on : Int)) = false := d4
  have HV1 := hide (fun w => over_any mn a b w (by omega))
  have HV2 := hide (fun w => over_any on b a w (by omega))
  have la := u8_le a.a
  have lb := u8_le b.a
  have ea : (overP mn a b).a.toNat = Ov.rnd (Ov.cov a.a.toNat b.a.toNat) 255 := by rw [over_a, u8_of (Ov.covers_le _ _ la lb)]
  have eb : (overP on b a).a.toNat = Ov.rnd (Ov.cov a.a.toNat b.a.toNat) 255 := by rw [over_a, u8_of (Ov.covers_le _ _ lb la), Ov.cov_comm _ _ lb la]
  have g1 : a.a.toNat ≤ Ov.rnd (Ov.cov a.a.toNat b.a.toNat) 255 := Ov.rnd_ge (Ov.cov_ge _ _) (by omega)
  have g2 : b.a.toNat ≤ Ov.rnd (Ov.cov a.a.toNat b.a.toNat) 255 := Ov.rnd_ge (Ov.cov_ge2 _ _ la lb) (by omega)
  generalize Ov.rnd (Ov.cov a.a.toNat b.a.toNat) 255 = R at *
  generalize overP mn a b = x at *
  generalize overP on b a = y at *
  unfold Px.val at *
  rw [ea] at HV1
  rw [eb] at HV2
  unfold pxO QP at H2
  generalize a.r.toNat = ar at *
  generalize a.g.toNat = ag at *
  generalize a.b.toNat = ab at *
  generalize a.a.toNat = aa at *
  generalize b.r.toNat = br at *
  generalize b.g.toNat = bg at *
  generalize b.b.toNat = bb at *
  generalize b.a.toNat = ba at *
  have e1 : ((R : Int) == (R : Int)) = true := by simp
  have e2 : decide ((R : Int) ≥ (aa : Int)) = true := decide_eq_true (by omega)
  have e2' : decide ((aa : Int) ≤ (R : Int)) = true := e2
  have e2n : decide (aa ≤ R) = true := decide_eq_true g1
  have e3 : decide ((R : Int) ≥ (ba : Int)) = true := decide_eq_true (by omega)
  have e3' : decide ((ba : Int) ≤ (R : Int)) = true := e3
  have e3n : decide (ba ≤ R) = true := decide_eq_true g2
  clear m0 m5 o0 o5 la lb ea eb g1 g2
  go_enter Tryd.func5, Tryd.ntmps5
  go_wp2_with fail
  refine (unhide HH _).mono ?_
  obtain ⟨B, hB⟩ : ∃ B, B = w.heap.size := ⟨_, rfl⟩
  rw [← hB] at H2 ⊢
  generalize (w.alloc (.cells #[.int .u8 (ar : Int), .int .u8 (ag : Int), .int .u8 (ab : Int), .int .u8 (aa : Int)] 23)).alloc (.cells #[.int .u8 (br : Int), .int .u8 (bg : Int), .int .u8 (bb : Int), .int .u8 (ba : Int)] 23) = w2 at *
  rintro e w3 ⟨rfl, hb3⟩
  obtain ⟨qa, qb, hsz, hb2⟩ := unhide H2
  have HBE := hide hB
  have HB3 := hide (hb2.trans (hb3.mono (by omega)))
  have n1 : B + 1 < w3.heap.size := by have := hb3.size; omega
  have ra := qa.below hb3 (by omega)
  have rb := qb.below hb3 (by omega)
  obtain ⟨a1, a2, a3, a4⟩ := ra
  obtain ⟨b1, b2, b3, b4⟩ := rb
  have HA := hide (qa.below hb3 (by omega))
  have HBb := hide (qb.below hb3 (by omega))
  clear H2 hb3 hb2 qa qb hsz hB
  go_wp2_with fail
  refine (unhide HV1 _).mono ?_
  rintro e w4 ⟨rfl, hb4⟩
  have HB4 := hide ((unhide HB3).trans (hb4.mono (by omega)))
  have n2 : B + 1 < w4.heap.size := by have := hb4.size; omega
  have n2b : B < w4.heap.size := by omega
  obtain ⟨a1', a2', a3', a4'⟩ := (unhide HA).below hb4 (by omega)
  obtain ⟨b1', b2', b3', b4'⟩ := (unhide HBb).below hb4 (by omega)
  clear hb4 a1 a2 a3 a4 b1 b2 b3 b4 HA HBb
  go_wp2_with fail
  refine (unhide HV2 _).mono ?_
  rintro e w5 ⟨rfl, hb5⟩
  have h4 := (unhide HB4).size
  have HB5 := hide (((unhide HB4).alloc (o := .cells #[.int .u8 (x.r.toNat : Int), .int .u8 (x.g.toNat : Int), .int .u8 (x.b.toNat : Int), .int .u8 (R : Int)] 23) (by omega)).trans (hb5.mono (by simp; omega)))
  have n3 : B + 1 < w5.heap.size := by have := hb5.size; simp at this; omega
  have n3b : B < w5.heap.size := by omega
  have r4 : w5.cell? ⟨w4.heap.size, 3, none⟩ = some (.int .u8 (R : Int)) := (hb5.cell (p := ⟨w4.heap.size, 3, none⟩) (by simp)).trans (by simp)
  have r5 : w4.heap.size < w5.heap.size := by have := hb5.size; simp at this; omega
  have c4 := (hb5.cell (p := ⟨B, 3, none⟩) (by simp; omega)).trans ((World.cell?_alloc_lt _ _ ⟨B, 3, none⟩ (by simp only; omega)).trans a4')
  have d4 := (hb5.cell (p := ⟨B + 1, 3, none⟩) (by simp; omega)).trans ((World.cell?_alloc_lt _ _ ⟨B + 1, 3, none⟩ (by simp only; omega)).trans b4')
  clear hb5 h4 a1' a2' a3' a4' b1' b2' b3' b4'
  go_wp2
  go_ret
  exact ⟨rfl, by rw [← unhide HBE]; exact (unhide HB5).alloc (by omega) _⟩

theorem pixelCovers_any (m o : Int) (a b : Px) (w : World) (_a : Nat → Addr) (_e : w.cell? ⟨0, 0, none⟩ = some (.iface 95 (.pointer (some (_a 1))))) :
    Calls Tryd.prog 5 #[.int .i64 m, .int .i64 o, a.val, b.val] w fun e w' => e = .returned (.bool true) ∧ Below w.heap.size w w' := pixelCovers_all m o a b w
end Go.Proofs.YtaghndongffafagDoor
