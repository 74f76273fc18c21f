/- The statement that over nothing, and under nothing, a pixel is as it is: the walk. -/
import Derived.Test.YtaghndongffafagDoorPixelCovers
namespace Go.Proofs.YtaghndongffafagDoor
open Go.RowKit

/-- A pixel laid, and a call behind it. -/
theorem laid_call {B : Nat} {w wa wx : World} {o : Obj} (hB : Below B w wa) (hz : B ≤ wa.heap.size) (hx : Below (wa.alloc o).heap.size (wa.alloc o) wx) : Below B w wx ∧ wa.heap.size < wx.heap.size ∧ Below wa.heap.size wa wx := by
  have h1 : Below wa.heap.size wa (wa.alloc o) := (Below.refl _ _).alloc (Nat.le_refl _) _
  have h2 : Below wa.heap.size wa wx := h1.trans (hx.mono (by simp))
  exact ⟨hB.trans (h2.mono hz), by have := hx.size; simp at this; omega, h2⟩
theorem zero_val : (⟨0, 0, 0, 0⟩ : Px).val = .agg #[.int .u8 0, .int .u8 0, .int .u8 0, .int .u8 0] := rfl
theorem three_boxed (w : World) (r g b a r1 g1 b1 a1 r2 g2 b2 a2 : Nat) : Q4 (((w.alloc (q4Obj r g b a)).alloc (q4Obj r1 g1 b1 a1)).alloc (q4Obj r2 g2 b2 a2)) w.heap.size r g b a ∧ Q4 (((w.alloc (q4Obj r g b a)).alloc (q4Obj r1 g1 b1 a1)).alloc (q4Obj r2 g2 b2 a2)) (w.heap.size + 1) r1 g1 b1 a1 ∧ Q4 (((w.alloc (q4Obj r g b a)).alloc (q4Obj r1 g1 b1 a1)).alloc (q4Obj r2 g2 b2 a2)) (w.heap.size + 1 + 1) r2 g2 b2 a2 ∧ (((w.alloc (q4Obj r g b a)).alloc (q4Obj r1 g1 b1 a1)).alloc (q4Obj r2 g2 b2 a2)).heap.size = w.heap.size + 3 ∧ Below w.heap.size w (((w.alloc (q4Obj r g b a)).alloc (q4Obj r1 g1 b1 a1)).alloc (q4Obj r2 g2 b2 a2)) := by
  have e1 : (w.alloc (q4Obj r g b a)).heap.size = w.heap.size + 1 := by simp
  have e2 : ((w.alloc (q4Obj r g b a)).alloc (q4Obj r1 g1 b1 a1)).heap.size = w.heap.size + 1 + 1 := by simp
  have h1 := q4_new (w.alloc (q4Obj r g b a)) r1 g1 b1 a1
  have h2 := q4_new ((w.alloc (q4Obj r g b a)).alloc (q4Obj r1 g1 b1 a1)) r2 g2 b2 a2
  rw [e1] at h1
  rw [e2] at h2
  exact ⟨((q4_new w r g b a).alloc _).alloc _, h1.alloc _, h2, by simp, (((Below.refl _ _).alloc (Nat.le_refl _) _).alloc (by simp) _).alloc (by simp; omega) _⟩

theorem O2.start (w : World) (tr tg tb ta ur ug ub ua : Nat) : Q4 ((w.alloc (q4Obj tr tg tb ta)).alloc (q4Obj ur ug ub ua)) w.heap.size tr tg tb ta ∧ Q4 ((w.alloc (q4Obj tr tg tb ta)).alloc (q4Obj ur ug ub ua)) (w.heap.size + 1) ur ug ub ua ∧ ((w.alloc (q4Obj tr tg tb ta)).alloc (q4Obj ur ug ub ua)).heap.size = w.heap.size + 2 ∧ Below w.heap.size w ((w.alloc (q4Obj tr tg tb ta)).alloc (q4Obj ur ug ub ua)) := by
  have e1 : (w.alloc (q4Obj tr tg tb ta)).heap.size = w.heap.size + 1 := by simp
  have h1 := q4_new (w.alloc (q4Obj tr tg tb ta)) ur ug ub ua
  rw [e1] at h1
  exact ⟨(q4_new w tr tg tb ta).alloc _, h1, by simp, ((Below.refl _ _).alloc (Nat.le_refl _) _).alloc (by simp) _⟩

set_option maxHeartbeats 8000000 in
set_option maxRecDepth 100000 in
theorem still_zm (mn ar ag ab aa br bg bb ba : Nat) (w : World) (d1 : decide ((mn : Int) < 0) = false) (d2 : decide ((mn : Int) > 5) = false) (e0 : ((aa : Int) == 0) = true) (em : ((mn : Int) == 0) = true) (HH : Hid (∀ w, Calls Tryd.prog 7 #[] w fun e w' => e = .returned (.bool true) ∧ Below w.heap.size w w'))
    (H1 : Hid (∀ w, Calls Tryd.prog 8 #[.int .i64 (mn : Int), .agg #[.int .u8 (ar : Int), .int .u8 (ag : Int), .int .u8 (ab : Int), .int .u8 (aa : Int)], .agg #[.int .u8 0, .int .u8 0, .int .u8 0, .int .u8 0]] w fun e w' => e = .returned (.tuple #[.agg #[.int .u8 0, .int .u8 0, .int .u8 0, .int .u8 0], .nilIface]) ∧ Below w.heap.size w w'))
    (H2 : Hid (∀ w, Calls Tryd.prog 8 #[.int .i64 (mn : Int), .agg #[.int .u8 0, .int .u8 0, .int .u8 0, .int .u8 0], .agg #[.int .u8 (ar : Int), .int .u8 (ag : Int), .int .u8 (ab : Int), .int .u8 (aa : Int)]] w fun e w' => e = .returned (.tuple #[.agg #[.int .u8 0, .int .u8 0, .int .u8 0, .int .u8 0], .nilIface]) ∧ Below w.heap.size w w'))
    (H3 : Hid (∀ w, Calls Tryd.prog 8 #[.int .i64 0, .agg #[.int .u8 (ar : Int), .int .u8 (ag : Int), .int .u8 (ab : Int), .int .u8 255], .agg #[.int .u8 (br : Int), .int .u8 (bg : Int), .int .u8 (bb : Int), .int .u8 (ba : Int)]] w fun e w' => e = .returned (.tuple #[.agg #[.int .u8 (ar : Int), .int .u8 (ag : Int), .int .u8 (ab : Int), .int .u8 255], .nilIface]) ∧ Below w.heap.size w w'))
    : Calls Tryd.prog 4 #[.int .i64 (mn : Int), .agg #[.int .u8 (ar : Int), .int .u8 (ag : Int), .int .u8 (ab : Int), .int .u8 (aa : Int)], .agg #[.int .u8 (br : Int), .int .u8 (bg : Int), .int .u8 (bb : Int), .int .u8 (ba : Int)]] w fun e w' => e = .returned (.bool true) ∧ Below w.heap.size w w' := by
  have d2' : decide ((5 : Int) < (mn : Int)) = false := d2
  have hz0 : ((0 : Nat) : Int) = 0 := rfl
  have h255 : ((255 : Nat) : Int) = 255 := rfl
  obtain ⟨B, hB⟩ : ∃ B, B = w.heap.size := ⟨_, rfl⟩
  have T2 := hide (O2.start w ar ag ab aa br bg bb ba)
  unfold q4Obj at T2
  go_enter Tryd.func4, Tryd.ntmps4
  go_wp2_with fail
  refine (unhide HH _).mono ?_
  rw [← hB] at T2 ⊢
  generalize (w.alloc (.cells #[.int .u8 (ar : Int), .int .u8 (ag : Int), .int .u8 (ab : Int), .int .u8 (aa : Int)] 23)).alloc (.cells #[.int .u8 (br : Int), .int .u8 (bg : Int), .int .u8 (bb : Int), .int .u8 (ba : Int)] 23) = w2 at *
  rintro e w3 ⟨rfl, hb⟩
  have HBE := hide hB
  obtain ⟨QA, QB, hsz, hb2⟩ := unhide T2
  have QA := hide (QA.below hb QA.lt)
  have QB := hide (QB.below hb QB.lt)
  have HB := hide (hb2.trans (hb.mono (by omega)))
  have hz : B ≤ w3.heap.size := by have := hb.size; omega
  clear T2 hb hb2 hsz hB
  obtain ⟨c0_0, c0_1, c0_2, c0_3⟩ := unhide QA
  have l0 := (unhide QA).lt
  obtain ⟨c1_0, c1_1, c1_2, c1_3⟩ := unhide QB
  have l1 := (unhide QB).lt
  go_wp2_with fail
  refine (unhide H1 _).mono ?_
  rintro e w4 ⟨rfl, hb⟩
  clear c0_0 c0_1 c0_2 c0_3 l0
  clear c1_0 c1_1 c1_2 c1_3 l1
  have QA := hide ((unhide QA).below hb (unhide QA).lt)
  have QB := hide ((unhide QB).below hb (unhide QB).lt)
  have HB := hide ((unhide HB).trans (hb.mono hz))
  have hz : B ≤ w4.heap.size := by have := hb.size; omega
  clear hb
  obtain ⟨c0_0, c0_1, c0_2, c0_3⟩ := unhide QA
  have l0 := (unhide QA).lt
  obtain ⟨c1_0, c1_1, c1_2, c1_3⟩ := unhide QB
  have l1 := (unhide QB).lt
  go_wp2_with fail
  refine (unhide H2 _).mono ?_
  rintro e w5 ⟨rfl, hb⟩
  clear c0_0 c0_1 c0_2 c0_3 l0
  clear c1_0 c1_1 c1_2 c1_3 l1
  obtain ⟨hB1, hn, hk⟩ := laid_call (unhide HB) hz hb
  have QA := hide ((unhide QA).below hk (unhide QA).lt)
  have QB := hide ((unhide QB).below hk (unhide QB).lt)
  have QX : Hid (Q4 w5 w4.heap.size 0 0 0 0) := (q4_new w4 0 0 0 0).below hb (by simp)
  have HB := hide hB1
  have hz : B ≤ w5.heap.size := by omega
  clear hB1 hb hk hn
  obtain ⟨c0_0, c0_1, c0_2, c0_3⟩ := unhide QA
  have l0 := (unhide QA).lt
  obtain ⟨c1_0, c1_1, c1_2, c1_3⟩ := unhide QB
  have l1 := (unhide QB).lt
  obtain ⟨c2_0, c2_1, c2_2, c2_3⟩ := unhide QX
  have l2 := (unhide QX).lt
  go_wp2_with fail
  refine (unhide H3 _).mono ?_
  rintro e w6 ⟨rfl, hb⟩
  clear c0_0 c0_1 c0_2 c0_3 l0
  clear c1_0 c1_1 c1_2 c1_3 l1
  clear c2_0 c2_1 c2_2 c2_3 l2
  have T3 := three_boxed w5 0 0 0 0 0 0 0 0 ar ag ab 255
  unfold q4Obj at T3
  simp only [hz0, h255] at T3
  generalize ((w5.alloc (.cells #[.int .u8 0, .int .u8 0, .int .u8 0, .int .u8 0] 23)).alloc (.cells #[.int .u8 0, .int .u8 0, .int .u8 0, .int .u8 0] 23)).alloc (.cells #[.int .u8 (ar : Int), .int .u8 (ag : Int), .int .u8 (ab : Int), .int .u8 255] 23) = w5' at *
  obtain ⟨t1, t2, t3, t4, t5⟩ := T3
  have hk : Below w5.heap.size w5 w6 := t5.trans (hb.mono (by omega))
  have QA := hide ((unhide QA).below hk (unhide QA).lt)
  have QB := hide ((unhide QB).below hk (unhide QB).lt)
  have QX := hide ((unhide QX).below hk (unhide QX).lt)
  have QY := hide (t1.below hb t1.lt)
  have QW := hide (t2.below hb t2.lt)
  have QF := hide (t3.below hb t3.lt)
  have HB := hide ((unhide HB).trans (hk.mono hz))
  have hz : B ≤ w6.heap.size := by have := hk.size; omega
  clear hb hk t1 t2 t3 t4 t5
  obtain ⟨c0_0, c0_1, c0_2, c0_3⟩ := unhide QA
  have l0 := (unhide QA).lt
  obtain ⟨c1_0, c1_1, c1_2, c1_3⟩ := unhide QB
  have l1 := (unhide QB).lt
  obtain ⟨c2_0, c2_1, c2_2, c2_3⟩ := unhide QX
  have l2 := (unhide QX).lt
  obtain ⟨c3_0, c3_1, c3_2, c3_3⟩ := unhide QY
  have l3 := (unhide QY).lt
  obtain ⟨c4_0, c4_1, c4_2, c4_3⟩ := unhide QW
  have l4 := (unhide QW).lt
  obtain ⟨c5_0, c5_1, c5_2, c5_3⟩ := unhide QF
  have l5 := (unhide QF).lt
  go_wp2
  go_ret
  exact ⟨rfl, by rw [← unhide HBE]; exact (unhide HB).alloc hz _⟩

set_option maxHeartbeats 8000000 in
set_option maxRecDepth 100000 in
theorem still_zn (mn ar ag ab aa br bg bb ba : Nat) (w : World) (d1 : decide ((mn : Int) < 0) = false) (d2 : decide ((mn : Int) > 5) = false) (e0 : ((aa : Int) == 0) = true) (em : ((mn : Int) == 0) = false) (en : ((aa : Int) == (ba : Int)) = false) (HH : Hid (∀ w, Calls Tryd.prog 7 #[] w fun e w' => e = .returned (.bool true) ∧ Below w.heap.size w w'))
    (H1 : Hid (∀ w, Calls Tryd.prog 8 #[.int .i64 (mn : Int), .agg #[.int .u8 (ar : Int), .int .u8 (ag : Int), .int .u8 (ab : Int), .int .u8 (aa : Int)], .agg #[.int .u8 0, .int .u8 0, .int .u8 0, .int .u8 0]] w fun e w' => e = .returned (.tuple #[.agg #[.int .u8 0, .int .u8 0, .int .u8 0, .int .u8 0], .nilIface]) ∧ Below w.heap.size w w'))
    (H2 : Hid (∀ w, Calls Tryd.prog 8 #[.int .i64 (mn : Int), .agg #[.int .u8 0, .int .u8 0, .int .u8 0, .int .u8 0], .agg #[.int .u8 (ar : Int), .int .u8 (ag : Int), .int .u8 (ab : Int), .int .u8 (aa : Int)]] w fun e w' => e = .returned (.tuple #[.agg #[.int .u8 0, .int .u8 0, .int .u8 0, .int .u8 0], .nilIface]) ∧ Below w.heap.size w w'))
    (H3 : Hid (∀ w, Calls Tryd.prog 8 #[.int .i64 0, .agg #[.int .u8 (ar : Int), .int .u8 (ag : Int), .int .u8 (ab : Int), .int .u8 255], .agg #[.int .u8 (br : Int), .int .u8 (bg : Int), .int .u8 (bb : Int), .int .u8 (ba : Int)]] w fun e w' => e = .returned (.tuple #[.agg #[.int .u8 (ar : Int), .int .u8 (ag : Int), .int .u8 (ab : Int), .int .u8 255], .nilIface]) ∧ Below w.heap.size w w'))
    : Calls Tryd.prog 4 #[.int .i64 (mn : Int), .agg #[.int .u8 (ar : Int), .int .u8 (ag : Int), .int .u8 (ab : Int), .int .u8 (aa : Int)], .agg #[.int .u8 (br : Int), .int .u8 (bg : Int), .int .u8 (bb : Int), .int .u8 (ba : Int)]] w fun e w' => e = .returned (.bool true) ∧ Below w.heap.size w w' := by
  have d2' : decide ((5 : Int) < (mn : Int)) = false := d2
  have hz0 : ((0 : Nat) : Int) = 0 := rfl
  have h255 : ((255 : Nat) : Int) = 255 := rfl
  obtain ⟨B, hB⟩ : ∃ B, B = w.heap.size := ⟨_, rfl⟩
  have T2 := hide (O2.start w ar ag ab aa br bg bb ba)
  unfold q4Obj at T2
  go_enter Tryd.func4, Tryd.ntmps4
  go_wp2_with fail
  refine (unhide HH _).mono ?_
  rw [← hB] at T2 ⊢
  generalize (w.alloc (.cells #[.int .u8 (ar : Int), .int .u8 (ag : Int), .int .u8 (ab : Int), .int .u8 (aa : Int)] 23)).alloc (.cells #[.int .u8 (br : Int), .int .u8 (bg : Int), .int .u8 (bb : Int), .int .u8 (ba : Int)] 23) = w2 at *
  rintro e w3 ⟨rfl, hb⟩
  have HBE := hide hB
  obtain ⟨QA, QB, hsz, hb2⟩ := unhide T2
  have QA := hide (QA.below hb QA.lt)
  have QB := hide (QB.below hb QB.lt)
  have HB := hide (hb2.trans (hb.mono (by omega)))
  have hz : B ≤ w3.heap.size := by have := hb.size; omega
  clear T2 hb hb2 hsz hB
  obtain ⟨c0_0, c0_1, c0_2, c0_3⟩ := unhide QA
  have l0 := (unhide QA).lt
  obtain ⟨c1_0, c1_1, c1_2, c1_3⟩ := unhide QB
  have l1 := (unhide QB).lt
  go_wp2_with fail
  refine (unhide H1 _).mono ?_
  rintro e w4 ⟨rfl, hb⟩
  clear c0_0 c0_1 c0_2 c0_3 l0
  clear c1_0 c1_1 c1_2 c1_3 l1
  have QA := hide ((unhide QA).below hb (unhide QA).lt)
  have QB := hide ((unhide QB).below hb (unhide QB).lt)
  have HB := hide ((unhide HB).trans (hb.mono hz))
  have hz : B ≤ w4.heap.size := by have := hb.size; omega
  clear hb
  obtain ⟨c0_0, c0_1, c0_2, c0_3⟩ := unhide QA
  have l0 := (unhide QA).lt
  obtain ⟨c1_0, c1_1, c1_2, c1_3⟩ := unhide QB
  have l1 := (unhide QB).lt
  go_wp2_with fail
  refine (unhide H2 _).mono ?_
  rintro e w5 ⟨rfl, hb⟩
  clear c0_0 c0_1 c0_2 c0_3 l0
  clear c1_0 c1_1 c1_2 c1_3 l1
  obtain ⟨hB1, hn, hk⟩ := laid_call (unhide HB) hz hb
  have QA := hide ((unhide QA).below hk (unhide QA).lt)
  have QB := hide ((unhide QB).below hk (unhide QB).lt)
  have QX : Hid (Q4 w5 w4.heap.size 0 0 0 0) := (q4_new w4 0 0 0 0).below hb (by simp)
  have HB := hide hB1
  have hz : B ≤ w5.heap.size := by omega
  clear hB1 hb hk hn
  obtain ⟨c0_0, c0_1, c0_2, c0_3⟩ := unhide QA
  have l0 := (unhide QA).lt
  obtain ⟨c1_0, c1_1, c1_2, c1_3⟩ := unhide QB
  have l1 := (unhide QB).lt
  obtain ⟨c2_0, c2_1, c2_2, c2_3⟩ := unhide QX
  have l2 := (unhide QX).lt
  go_wp2_with fail
  refine (unhide H3 _).mono ?_
  rintro e w6 ⟨rfl, hb⟩
  clear c0_0 c0_1 c0_2 c0_3 l0
  clear c1_0 c1_1 c1_2 c1_3 l1
  clear c2_0 c2_1 c2_2 c2_3 l2
  have T3 := three_boxed w5 0 0 0 0 0 0 0 0 ar ag ab 255
  unfold q4Obj at T3
  simp only [hz0, h255] at T3
  generalize ((w5.alloc (.cells #[.int .u8 0, .int .u8 0, .int .u8 0, .int .u8 0] 23)).alloc (.cells #[.int .u8 0, .int .u8 0, .int .u8 0, .int .u8 0] 23)).alloc (.cells #[.int .u8 (ar : Int), .int .u8 (ag : Int), .int .u8 (ab : Int), .int .u8 255] 23) = w5' at *
  obtain ⟨t1, t2, t3, t4, t5⟩ := T3
  have hk : Below w5.heap.size w5 w6 := t5.trans (hb.mono (by omega))
  have QA := hide ((unhide QA).below hk (unhide QA).lt)
  have QB := hide ((unhide QB).below hk (unhide QB).lt)
  have QX := hide ((unhide QX).below hk (unhide QX).lt)
  have QY := hide (t1.below hb t1.lt)
  have QW := hide (t2.below hb t2.lt)
  have QF := hide (t3.below hb t3.lt)
  have HB := hide ((unhide HB).trans (hk.mono hz))
  have hz : B ≤ w6.heap.size := by have := hk.size; omega
  clear hb hk t1 t2 t3 t4 t5
  obtain ⟨c0_0, c0_1, c0_2, c0_3⟩ := unhide QA
  have l0 := (unhide QA).lt
  obtain ⟨c1_0, c1_1, c1_2, c1_3⟩ := unhide QB
  have l1 := (unhide QB).lt
  obtain ⟨c2_0, c2_1, c2_2, c2_3⟩ := unhide QX
  have l2 := (unhide QX).lt
  obtain ⟨c3_0, c3_1, c3_2, c3_3⟩ := unhide QY
  have l3 := (unhide QY).lt
  obtain ⟨c4_0, c4_1, c4_2, c4_3⟩ := unhide QW
  have l4 := (unhide QW).lt
  obtain ⟨c5_0, c5_1, c5_2, c5_3⟩ := unhide QF
  have l5 := (unhide QF).lt
  go_wp2
  go_ret
  exact ⟨rfl, by rw [← unhide HBE]; exact (unhide HB).alloc hz _⟩

set_option maxHeartbeats 8000000 in
set_option maxRecDepth 100000 in
theorem still_zg (mn ar ag ab aa br bg bb ba pr pg pb pa : Nat) (w : World) (d1 : decide ((mn : Int) < 0) = false) (d2 : decide ((mn : Int) > 5) = false) (e0 : ((aa : Int) == 0) = true) (em : ((mn : Int) == 0) = false) (en : ((aa : Int) == (ba : Int)) = true) (HH : Hid (∀ w, Calls Tryd.prog 7 #[] w fun e w' => e = .returned (.bool true) ∧ Below w.heap.size w w'))
    (H1 : Hid (∀ w, Calls Tryd.prog 8 #[.int .i64 (mn : Int), .agg #[.int .u8 (ar : Int), .int .u8 (ag : Int), .int .u8 (ab : Int), .int .u8 (aa : Int)], .agg #[.int .u8 0, .int .u8 0, .int .u8 0, .int .u8 0]] w fun e w' => e = .returned (.tuple #[.agg #[.int .u8 0, .int .u8 0, .int .u8 0, .int .u8 0], .nilIface]) ∧ Below w.heap.size w w'))
    (H2 : Hid (∀ w, Calls Tryd.prog 8 #[.int .i64 (mn : Int), .agg #[.int .u8 0, .int .u8 0, .int .u8 0, .int .u8 0], .agg #[.int .u8 (ar : Int), .int .u8 (ag : Int), .int .u8 (ab : Int), .int .u8 (aa : Int)]] w fun e w' => e = .returned (.tuple #[.agg #[.int .u8 0, .int .u8 0, .int .u8 0, .int .u8 0], .nilIface]) ∧ Below w.heap.size w w'))
    (H3 : Hid (∀ w, Calls Tryd.prog 8 #[.int .i64 0, .agg #[.int .u8 (ar : Int), .int .u8 (ag : Int), .int .u8 (ab : Int), .int .u8 255], .agg #[.int .u8 (br : Int), .int .u8 (bg : Int), .int .u8 (bb : Int), .int .u8 (ba : Int)]] w fun e w' => e = .returned (.tuple #[.agg #[.int .u8 (ar : Int), .int .u8 (ag : Int), .int .u8 (ab : Int), .int .u8 255], .nilIface]) ∧ Below w.heap.size w w'))
    (H4 : Hid (∀ w, Calls Tryd.prog 8 #[.int .i64 (mn : Int), .agg #[.int .u8 (ar : Int), .int .u8 (ag : Int), .int .u8 (ab : Int), .int .u8 (aa : Int)], .agg #[.int .u8 (br : Int), .int .u8 (bg : Int), .int .u8 (bb : Int), .int .u8 (ba : Int)]] w fun e w' => e = .returned (.tuple #[.agg #[.int .u8 (pr : Int), .int .u8 (pg : Int), .int .u8 (pb : Int), .int .u8 (pa : Int)], .nilIface]) ∧ Below w.heap.size w w'))
    (H5 : Hid (∀ w, Calls Tryd.prog 8 #[.int .i64 (mn : Int), .agg #[.int .u8 (br : Int), .int .u8 (bg : Int), .int .u8 (bb : Int), .int .u8 (ba : Int)], .agg #[.int .u8 (ar : Int), .int .u8 (ag : Int), .int .u8 (ab : Int), .int .u8 (aa : Int)]] w fun e w' => e = .returned (.tuple #[.agg #[.int .u8 (pr : Int), .int .u8 (pg : Int), .int .u8 (pb : Int), .int .u8 (pa : Int)], .nilIface]) ∧ Below w.heap.size w w'))
    : Calls Tryd.prog 4 #[.int .i64 (mn : Int), .agg #[.int .u8 (ar : Int), .int .u8 (ag : Int), .int .u8 (ab : Int), .int .u8 (aa : Int)], .agg #[.int .u8 (br : Int), .int .u8 (bg : Int), .int .u8 (bb : Int), .int .u8 (ba : Int)]] w fun e w' => e = .returned (.bool true) ∧ Below w.heap.size w w' := by
  have d2' : decide ((5 : Int) < (mn : Int)) = false := d2
  have hz0 : ((0 : Nat) : Int) = 0 := rfl
  have h255 : ((255 : Nat) : Int) = 255 := rfl
  obtain ⟨B, hB⟩ : ∃ B, B = w.heap.size := ⟨_, rfl⟩
  have T2 := hide (O2.start w ar ag ab aa br bg bb ba)
  unfold q4Obj at T2
  go_enter Tryd.func4, Tryd.ntmps4
  go_wp2_with fail
  refine (unhide HH _).mono ?_
  rw [← hB] at T2 ⊢
  generalize (w.alloc (.cells #[.int .u8 (ar : Int), .int .u8 (ag : Int), .int .u8 (ab : Int), .int .u8 (aa : Int)] 23)).alloc (.cells #[.int .u8 (br : Int), .int .u8 (bg : Int), .int .u8 (bb : Int), .int .u8 (ba : Int)] 23) = w2 at *
  rintro e w3 ⟨rfl, hb⟩
  have HBE := hide hB
  obtain ⟨QA, QB, hsz, hb2⟩ := unhide T2
  have QA := hide (QA.below hb QA.lt)
  have QB := hide (QB.below hb QB.lt)
  have HB := hide (hb2.trans (hb.mono (by omega)))
  have hz : B ≤ w3.heap.size := by have := hb.size; omega
  clear T2 hb hb2 hsz hB
  obtain ⟨c0_0, c0_1, c0_2, c0_3⟩ := unhide QA
  have l0 := (unhide QA).lt
  obtain ⟨c1_0, c1_1, c1_2, c1_3⟩ := unhide QB
  have l1 := (unhide QB).lt
  go_wp2_with fail
  refine (unhide H1 _).mono ?_
  rintro e w4 ⟨rfl, hb⟩
  clear c0_0 c0_1 c0_2 c0_3 l0
  clear c1_0 c1_1 c1_2 c1_3 l1
  have QA := hide ((unhide QA).below hb (unhide QA).lt)
  have QB := hide ((unhide QB).below hb (unhide QB).lt)
  have HB := hide ((unhide HB).trans (hb.mono hz))
  have hz : B ≤ w4.heap.size := by have := hb.size; omega
  clear hb
  obtain ⟨c0_0, c0_1, c0_2, c0_3⟩ := unhide QA
  have l0 := (unhide QA).lt
  obtain ⟨c1_0, c1_1, c1_2, c1_3⟩ := unhide QB
  have l1 := (unhide QB).lt
  go_wp2_with fail
  refine (unhide H2 _).mono ?_
  rintro e w5 ⟨rfl, hb⟩
  clear c0_0 c0_1 c0_2 c0_3 l0
  clear c1_0 c1_1 c1_2 c1_3 l1
  obtain ⟨hB1, hn, hk⟩ := laid_call (unhide HB) hz hb
  have QA := hide ((unhide QA).below hk (unhide QA).lt)
  have QB := hide ((unhide QB).below hk (unhide QB).lt)
  have QX : Hid (Q4 w5 w4.heap.size 0 0 0 0) := (q4_new w4 0 0 0 0).below hb (by simp)
  have HB := hide hB1
  have hz : B ≤ w5.heap.size := by omega
  clear hB1 hb hk hn
  obtain ⟨c0_0, c0_1, c0_2, c0_3⟩ := unhide QA
  have l0 := (unhide QA).lt
  obtain ⟨c1_0, c1_1, c1_2, c1_3⟩ := unhide QB
  have l1 := (unhide QB).lt
  obtain ⟨c2_0, c2_1, c2_2, c2_3⟩ := unhide QX
  have l2 := (unhide QX).lt
  go_wp2_with fail
  refine (unhide H3 _).mono ?_
  rintro e w6 ⟨rfl, hb⟩
  clear c0_0 c0_1 c0_2 c0_3 l0
  clear c1_0 c1_1 c1_2 c1_3 l1
  clear c2_0 c2_1 c2_2 c2_3 l2
  have T3 := three_boxed w5 0 0 0 0 0 0 0 0 ar ag ab 255
  unfold q4Obj at T3
  simp only [hz0, h255] at T3
  generalize ((w5.alloc (.cells #[.int .u8 0, .int .u8 0, .int .u8 0, .int .u8 0] 23)).alloc (.cells #[.int .u8 0, .int .u8 0, .int .u8 0, .int .u8 0] 23)).alloc (.cells #[.int .u8 (ar : Int), .int .u8 (ag : Int), .int .u8 (ab : Int), .int .u8 255] 23) = w5' at *
  obtain ⟨t1, t2, t3, t4, t5⟩ := T3
  have hk : Below w5.heap.size w5 w6 := t5.trans (hb.mono (by omega))
  have QA := hide ((unhide QA).below hk (unhide QA).lt)
  have QB := hide ((unhide QB).below hk (unhide QB).lt)
  have QX := hide ((unhide QX).below hk (unhide QX).lt)
  have QY := hide (t1.below hb t1.lt)
  have QW := hide (t2.below hb t2.lt)
  have QF := hide (t3.below hb t3.lt)
  have HB := hide ((unhide HB).trans (hk.mono hz))
  have hz : B ≤ w6.heap.size := by have := hk.size; omega
  clear hb hk t1 t2 t3 t4 t5
  obtain ⟨c0_0, c0_1, c0_2, c0_3⟩ := unhide QA
  have l0 := (unhide QA).lt
  obtain ⟨c1_0, c1_1, c1_2, c1_3⟩ := unhide QB
  have l1 := (unhide QB).lt
  obtain ⟨c2_0, c2_1, c2_2, c2_3⟩ := unhide QX
  have l2 := (unhide QX).lt
  obtain ⟨c3_0, c3_1, c3_2, c3_3⟩ := unhide QY
  have l3 := (unhide QY).lt
  obtain ⟨c4_0, c4_1, c4_2, c4_3⟩ := unhide QW
  have l4 := (unhide QW).lt
  obtain ⟨c5_0, c5_1, c5_2, c5_3⟩ := unhide QF
  have l5 := (unhide QF).lt
  go_wp2_with fail
  refine (unhide H4 _).mono ?_
  rintro e w7 ⟨rfl, hb⟩
  clear c0_0 c0_1 c0_2 c0_3 l0
  clear c1_0 c1_1 c1_2 c1_3 l1
  clear c2_0 c2_1 c2_2 c2_3 l2
  clear c3_0 c3_1 c3_2 c3_3 l3
  clear c4_0 c4_1 c4_2 c4_3 l4
  clear c5_0 c5_1 c5_2 c5_3 l5
  obtain ⟨hB1, hn, hk⟩ := laid_call (unhide HB) hz hb
  have QA := hide ((unhide QA).below hk (unhide QA).lt)
  have QB := hide ((unhide QB).below hk (unhide QB).lt)
  have QX := hide ((unhide QX).below hk (unhide QX).lt)
  have QY := hide ((unhide QY).below hk (unhide QY).lt)
  have QW := hide ((unhide QW).below hk (unhide QW).lt)
  have QF := hide ((unhide QF).below hk (unhide QF).lt)
  have QZ : Hid (Q4 w7 w6.heap.size ar ag ab 255) := (q4_new w6 ar ag ab 255).below hb (by simp)
  have HB := hide hB1
  have hz : B ≤ w7.heap.size := by omega
  clear hB1 hb hk hn
  obtain ⟨c0_0, c0_1, c0_2, c0_3⟩ := unhide QA
  have l0 := (unhide QA).lt
  obtain ⟨c1_0, c1_1, c1_2, c1_3⟩ := unhide QB
  have l1 := (unhide QB).lt
  obtain ⟨c2_0, c2_1, c2_2, c2_3⟩ := unhide QX
  have l2 := (unhide QX).lt
  obtain ⟨c3_0, c3_1, c3_2, c3_3⟩ := unhide QY
  have l3 := (unhide QY).lt
  obtain ⟨c4_0, c4_1, c4_2, c4_3⟩ := unhide QW
  have l4 := (unhide QW).lt
  obtain ⟨c5_0, c5_1, c5_2, c5_3⟩ := unhide QF
  have l5 := (unhide QF).lt
  obtain ⟨c6_0, c6_1, c6_2, c6_3⟩ := unhide QZ
  have l6 := (unhide QZ).lt
  go_wp2_with fail
  refine (unhide H5 _).mono ?_
  rintro e w8 ⟨rfl, hb⟩
  clear c0_0 c0_1 c0_2 c0_3 l0
  clear c1_0 c1_1 c1_2 c1_3 l1
  clear c2_0 c2_1 c2_2 c2_3 l2
  clear c3_0 c3_1 c3_2 c3_3 l3
  clear c4_0 c4_1 c4_2 c4_3 l4
  clear c5_0 c5_1 c5_2 c5_3 l5
  clear c6_0 c6_1 c6_2 c6_3 l6
  obtain ⟨hB1, hn, hk⟩ := laid_call (unhide HB) hz hb
  have QA := hide ((unhide QA).below hk (unhide QA).lt)
  have QB := hide ((unhide QB).below hk (unhide QB).lt)
  have QX := hide ((unhide QX).below hk (unhide QX).lt)
  have QY := hide ((unhide QY).below hk (unhide QY).lt)
  have QW := hide ((unhide QW).below hk (unhide QW).lt)
  have QF := hide ((unhide QF).below hk (unhide QF).lt)
  have QZ := hide ((unhide QZ).below hk (unhide QZ).lt)
  have QP1 : Hid (Q4 w8 w7.heap.size pr pg pb pa) := (q4_new w7 pr pg pb pa).below hb (by simp)
  have HB := hide hB1
  have hz : B ≤ w8.heap.size := by omega
  clear hB1 hb hk hn
  obtain ⟨c0_0, c0_1, c0_2, c0_3⟩ := unhide QA
  have l0 := (unhide QA).lt
  obtain ⟨c1_0, c1_1, c1_2, c1_3⟩ := unhide QB
  have l1 := (unhide QB).lt
  obtain ⟨c2_0, c2_1, c2_2, c2_3⟩ := unhide QX
  have l2 := (unhide QX).lt
  obtain ⟨c3_0, c3_1, c3_2, c3_3⟩ := unhide QY
  have l3 := (unhide QY).lt
  obtain ⟨c4_0, c4_1, c4_2, c4_3⟩ := unhide QW
  have l4 := (unhide QW).lt
  obtain ⟨c5_0, c5_1, c5_2, c5_3⟩ := unhide QF
  have l5 := (unhide QF).lt
  obtain ⟨c6_0, c6_1, c6_2, c6_3⟩ := unhide QZ
  have l6 := (unhide QZ).lt
  obtain ⟨c7_0, c7_1, c7_2, c7_3⟩ := unhide QP1
  have l7 := (unhide QP1).lt
  go_wp2
  go_ret
  exact ⟨rfl, by rw [← unhide HBE]; exact (unhide HB).alloc hz _⟩

set_option maxHeartbeats 8000000 in
set_option maxRecDepth 100000 in
theorem still_am (mn ar ag ab aa br bg bb ba : Nat) (w : World) (d1 : decide ((mn : Int) < 0) = false) (d2 : decide ((mn : Int) > 5) = false) (e0 : ((aa : Int) == 0) = false) (em : ((mn : Int) == 0) = true) (HH : Hid (∀ w, Calls Tryd.prog 7 #[] w fun e w' => e = .returned (.bool true) ∧ Below w.heap.size w w'))
    (H1 : Hid (∀ w, Calls Tryd.prog 8 #[.int .i64 (mn : Int), .agg #[.int .u8 (ar : Int), .int .u8 (ag : Int), .int .u8 (ab : Int), .int .u8 (aa : Int)], .agg #[.int .u8 0, .int .u8 0, .int .u8 0, .int .u8 0]] w fun e w' => e = .returned (.tuple #[.agg #[.int .u8 (ar : Int), .int .u8 (ag : Int), .int .u8 (ab : Int), .int .u8 (aa : Int)], .nilIface]) ∧ Below w.heap.size w w'))
    (H2 : Hid (∀ w, Calls Tryd.prog 8 #[.int .i64 (mn : Int), .agg #[.int .u8 0, .int .u8 0, .int .u8 0, .int .u8 0], .agg #[.int .u8 (ar : Int), .int .u8 (ag : Int), .int .u8 (ab : Int), .int .u8 (aa : Int)]] w fun e w' => e = .returned (.tuple #[.agg #[.int .u8 (ar : Int), .int .u8 (ag : Int), .int .u8 (ab : Int), .int .u8 (aa : Int)], .nilIface]) ∧ Below w.heap.size w w'))
    (H3 : Hid (∀ w, Calls Tryd.prog 8 #[.int .i64 0, .agg #[.int .u8 (ar : Int), .int .u8 (ag : Int), .int .u8 (ab : Int), .int .u8 255], .agg #[.int .u8 (br : Int), .int .u8 (bg : Int), .int .u8 (bb : Int), .int .u8 (ba : Int)]] w fun e w' => e = .returned (.tuple #[.agg #[.int .u8 (ar : Int), .int .u8 (ag : Int), .int .u8 (ab : Int), .int .u8 255], .nilIface]) ∧ Below w.heap.size w w'))
    : Calls Tryd.prog 4 #[.int .i64 (mn : Int), .agg #[.int .u8 (ar : Int), .int .u8 (ag : Int), .int .u8 (ab : Int), .int .u8 (aa : Int)], .agg #[.int .u8 (br : Int), .int .u8 (bg : Int), .int .u8 (bb : Int), .int .u8 (ba : Int)]] w fun e w' => e = .returned (.bool true) ∧ Below w.heap.size w w' := by
  have d2' : decide ((5 : Int) < (mn : Int)) = false := d2
  have h255 : ((255 : Nat) : Int) = 255 := rfl
  obtain ⟨B, hB⟩ : ∃ B, B = w.heap.size := ⟨_, rfl⟩
  have T2 := hide (O2.start w ar ag ab aa br bg bb ba)
  unfold q4Obj at T2
  go_enter Tryd.func4, Tryd.ntmps4
  go_wp2_with fail
  refine (unhide HH _).mono ?_
  rw [← hB] at T2 ⊢
  generalize (w.alloc (.cells #[.int .u8 (ar : Int), .int .u8 (ag : Int), .int .u8 (ab : Int), .int .u8 (aa : Int)] 23)).alloc (.cells #[.int .u8 (br : Int), .int .u8 (bg : Int), .int .u8 (bb : Int), .int .u8 (ba : Int)] 23) = w2 at *
  rintro e w3 ⟨rfl, hb⟩
  have HBE := hide hB
  obtain ⟨QA, QB, hsz, hb2⟩ := unhide T2
  have QA := hide (QA.below hb QA.lt)
  have QB := hide (QB.below hb QB.lt)
  have HB := hide (hb2.trans (hb.mono (by omega)))
  have hz : B ≤ w3.heap.size := by have := hb.size; omega
  clear T2 hb hb2 hsz hB
  obtain ⟨c0_0, c0_1, c0_2, c0_3⟩ := unhide QA
  have l0 := (unhide QA).lt
  obtain ⟨c1_0, c1_1, c1_2, c1_3⟩ := unhide QB
  have l1 := (unhide QB).lt
  go_wp2_with fail
  refine (unhide H1 _).mono ?_
  rintro e w4 ⟨rfl, hb⟩
  clear c0_0 c0_1 c0_2 c0_3 l0
  clear c1_0 c1_1 c1_2 c1_3 l1
  have QA := hide ((unhide QA).below hb (unhide QA).lt)
  have QB := hide ((unhide QB).below hb (unhide QB).lt)
  have HB := hide ((unhide HB).trans (hb.mono hz))
  have hz : B ≤ w4.heap.size := by have := hb.size; omega
  clear hb
  obtain ⟨c0_0, c0_1, c0_2, c0_3⟩ := unhide QA
  have l0 := (unhide QA).lt
  obtain ⟨c1_0, c1_1, c1_2, c1_3⟩ := unhide QB
  have l1 := (unhide QB).lt
  go_wp2_with fail
  refine (unhide H2 _).mono ?_
  rintro e w5 ⟨rfl, hb⟩
  clear c0_0 c0_1 c0_2 c0_3 l0
  clear c1_0 c1_1 c1_2 c1_3 l1
  obtain ⟨hB1, hn, hk⟩ := laid_call (unhide HB) hz hb
  have QA := hide ((unhide QA).below hk (unhide QA).lt)
  have QB := hide ((unhide QB).below hk (unhide QB).lt)
  have QX : Hid (Q4 w5 w4.heap.size ar ag ab aa) := (q4_new w4 ar ag ab aa).below hb (by simp)
  have HB := hide hB1
  have hz : B ≤ w5.heap.size := by omega
  clear hB1 hb hk hn
  obtain ⟨c0_0, c0_1, c0_2, c0_3⟩ := unhide QA
  have l0 := (unhide QA).lt
  obtain ⟨c1_0, c1_1, c1_2, c1_3⟩ := unhide QB
  have l1 := (unhide QB).lt
  obtain ⟨c2_0, c2_1, c2_2, c2_3⟩ := unhide QX
  have l2 := (unhide QX).lt
  go_wp2_with fail
  refine (unhide H3 _).mono ?_
  rintro e w6 ⟨rfl, hb⟩
  clear c0_0 c0_1 c0_2 c0_3 l0
  clear c1_0 c1_1 c1_2 c1_3 l1
  clear c2_0 c2_1 c2_2 c2_3 l2
  have T3 := three_boxed w5 ar ag ab aa ar ag ab aa ar ag ab 255
  unfold q4Obj at T3
  simp only [h255] at T3
  generalize ((w5.alloc (.cells #[.int .u8 (ar : Int), .int .u8 (ag : Int), .int .u8 (ab : Int), .int .u8 (aa : Int)] 23)).alloc (.cells #[.int .u8 (ar : Int), .int .u8 (ag : Int), .int .u8 (ab : Int), .int .u8 (aa : Int)] 23)).alloc (.cells #[.int .u8 (ar : Int), .int .u8 (ag : Int), .int .u8 (ab : Int), .int .u8 255] 23) = w5' at *
  obtain ⟨t1, t2, t3, t4, t5⟩ := T3
  have hk : Below w5.heap.size w5 w6 := t5.trans (hb.mono (by omega))
  have QA := hide ((unhide QA).below hk (unhide QA).lt)
  have QB := hide ((unhide QB).below hk (unhide QB).lt)
  have QX := hide ((unhide QX).below hk (unhide QX).lt)
  have QY := hide (t1.below hb t1.lt)
  have QW := hide (t2.below hb t2.lt)
  have QF := hide (t3.below hb t3.lt)
  have HB := hide ((unhide HB).trans (hk.mono hz))
  have hz : B ≤ w6.heap.size := by have := hk.size; omega
  clear hb hk t1 t2 t3 t4 t5
  obtain ⟨c0_0, c0_1, c0_2, c0_3⟩ := unhide QA
  have l0 := (unhide QA).lt
  obtain ⟨c1_0, c1_1, c1_2, c1_3⟩ := unhide QB
  have l1 := (unhide QB).lt
  obtain ⟨c2_0, c2_1, c2_2, c2_3⟩ := unhide QX
  have l2 := (unhide QX).lt
  obtain ⟨c3_0, c3_1, c3_2, c3_3⟩ := unhide QY
  have l3 := (unhide QY).lt
  obtain ⟨c4_0, c4_1, c4_2, c4_3⟩ := unhide QW
  have l4 := (unhide QW).lt
  obtain ⟨c5_0, c5_1, c5_2, c5_3⟩ := unhide QF
  have l5 := (unhide QF).lt
  go_wp2
  go_ret
  exact ⟨rfl, by rw [← unhide HBE]; exact (unhide HB).alloc hz _⟩

set_option maxHeartbeats 8000000 in
set_option maxRecDepth 100000 in
theorem still_an (mn ar ag ab aa br bg bb ba : Nat) (w : World) (d1 : decide ((mn : Int) < 0) = false) (d2 : decide ((mn : Int) > 5) = false) (e0 : ((aa : Int) == 0) = false) (em : ((mn : Int) == 0) = false) (en : ((aa : Int) == (ba : Int)) = false) (HH : Hid (∀ w, Calls Tryd.prog 7 #[] w fun e w' => e = .returned (.bool true) ∧ Below w.heap.size w w'))
    (H1 : Hid (∀ w, Calls Tryd.prog 8 #[.int .i64 (mn : Int), .agg #[.int .u8 (ar : Int), .int .u8 (ag : Int), .int .u8 (ab : Int), .int .u8 (aa : Int)], .agg #[.int .u8 0, .int .u8 0, .int .u8 0, .int .u8 0]] w fun e w' => e = .returned (.tuple #[.agg #[.int .u8 (ar : Int), .int .u8 (ag : Int), .int .u8 (ab : Int), .int .u8 (aa : Int)], .nilIface]) ∧ Below w.heap.size w w'))
    (H2 : Hid (∀ w, Calls Tryd.prog 8 #[.int .i64 (mn : Int), .agg #[.int .u8 0, .int .u8 0, .int .u8 0, .int .u8 0], .agg #[.int .u8 (ar : Int), .int .u8 (ag : Int), .int .u8 (ab : Int), .int .u8 (aa : Int)]] w fun e w' => e = .returned (.tuple #[.agg #[.int .u8 (ar : Int), .int .u8 (ag : Int), .int .u8 (ab : Int), .int .u8 (aa : Int)], .nilIface]) ∧ Below w.heap.size w w'))
    (H3 : Hid (∀ w, Calls Tryd.prog 8 #[.int .i64 0, .agg #[.int .u8 (ar : Int), .int .u8 (ag : Int), .int .u8 (ab : Int), .int .u8 255], .agg #[.int .u8 (br : Int), .int .u8 (bg : Int), .int .u8 (bb : Int), .int .u8 (ba : Int)]] w fun e w' => e = .returned (.tuple #[.agg #[.int .u8 (ar : Int), .int .u8 (ag : Int), .int .u8 (ab : Int), .int .u8 255], .nilIface]) ∧ Below w.heap.size w w'))
    : Calls Tryd.prog 4 #[.int .i64 (mn : Int), .agg #[.int .u8 (ar : Int), .int .u8 (ag : Int), .int .u8 (ab : Int), .int .u8 (aa : Int)], .agg #[.int .u8 (br : Int), .int .u8 (bg : Int), .int .u8 (bb : Int), .int .u8 (ba : Int)]] w fun e w' => e = .returned (.bool true) ∧ Below w.heap.size w w' := by
  have d2' : decide ((5 : Int) < (mn : Int)) = false := d2
  have h255 : ((255 : Nat) : Int) = 255 := rfl
  obtain ⟨B, hB⟩ : ∃ B, B = w.heap.size := ⟨_, rfl⟩
  have T2 := hide (O2.start w ar ag ab aa br bg bb ba)
  unfold q4Obj at T2
  go_enter Tryd.func4, Tryd.ntmps4
  go_wp2_with fail
  refine (unhide HH _).mono ?_
  rw [← hB] at T2 ⊢
  generalize (w.alloc (.cells #[.int .u8 (ar : Int), .int .u8 (ag : Int), .int .u8 (ab : Int), .int .u8 (aa : Int)] 23)).alloc (.cells #[.int .u8 (br : Int), .int .u8 (bg : Int), .int .u8 (bb : Int), .int .u8 (ba : Int)] 23) = w2 at *
  rintro e w3 ⟨rfl, hb⟩
  have HBE := hide hB
  obtain ⟨QA, QB, hsz, hb2⟩ := unhide T2
  have QA := hide (QA.below hb QA.lt)
  have QB := hide (QB.below hb QB.lt)
  have HB := hide (hb2.trans (hb.mono (by omega)))
  have hz : B ≤ w3.heap.size := by have := hb.size; omega
  clear T2 hb hb2 hsz hB
  obtain ⟨c0_0, c0_1, c0_2, c0_3⟩ := unhide QA
  have l0 := (unhide QA).lt
  obtain ⟨c1_0, c1_1, c1_2, c1_3⟩ := unhide QB
  have l1 := (unhide QB).lt
  go_wp2_with fail
  refine (unhide H1 _).mono ?_
  rintro e w4 ⟨rfl, hb⟩
  clear c0_0 c0_1 c0_2 c0_3 l0
  clear c1_0 c1_1 c1_2 c1_3 l1
  have QA := hide ((unhide QA).below hb (unhide QA).lt)
  have QB := hide ((unhide QB).below hb (unhide QB).lt)
  have HB := hide ((unhide HB).trans (hb.mono hz))
  have hz : B ≤ w4.heap.size := by have := hb.size; omega
  clear hb
  obtain ⟨c0_0, c0_1, c0_2, c0_3⟩ := unhide QA
  have l0 := (unhide QA).lt
  obtain ⟨c1_0, c1_1, c1_2, c1_3⟩ := unhide QB
  have l1 := (unhide QB).lt
  go_wp2_with fail
  refine (unhide H2 _).mono ?_
  rintro e w5 ⟨rfl, hb⟩
  clear c0_0 c0_1 c0_2 c0_3 l0
  clear c1_0 c1_1 c1_2 c1_3 l1
  obtain ⟨hB1, hn, hk⟩ := laid_call (unhide HB) hz hb
  have QA := hide ((unhide QA).below hk (unhide QA).lt)
  have QB := hide ((unhide QB).below hk (unhide QB).lt)
  have QX : Hid (Q4 w5 w4.heap.size ar ag ab aa) := (q4_new w4 ar ag ab aa).below hb (by simp)
  have HB := hide hB1
  have hz : B ≤ w5.heap.size := by omega
  clear hB1 hb hk hn
  obtain ⟨c0_0, c0_1, c0_2, c0_3⟩ := unhide QA
  have l0 := (unhide QA).lt
  obtain ⟨c1_0, c1_1, c1_2, c1_3⟩ := unhide QB
  have l1 := (unhide QB).lt
  obtain ⟨c2_0, c2_1, c2_2, c2_3⟩ := unhide QX
  have l2 := (unhide QX).lt
  go_wp2_with fail
  refine (unhide H3 _).mono ?_
  rintro e w6 ⟨rfl, hb⟩
  clear c0_0 c0_1 c0_2 c0_3 l0
  clear c1_0 c1_1 c1_2 c1_3 l1
  clear c2_0 c2_1 c2_2 c2_3 l2
  have T3 := three_boxed w5 ar ag ab aa ar ag ab aa ar ag ab 255
  unfold q4Obj at T3
  simp only [h255] at T3
  generalize ((w5.alloc (.cells #[.int .u8 (ar : Int), .int .u8 (ag : Int), .int .u8 (ab : Int), .int .u8 (aa : Int)] 23)).alloc (.cells #[.int .u8 (ar : Int), .int .u8 (ag : Int), .int .u8 (ab : Int), .int .u8 (aa : Int)] 23)).alloc (.cells #[.int .u8 (ar : Int), .int .u8 (ag : Int), .int .u8 (ab : Int), .int .u8 255] 23) = w5' at *
  obtain ⟨t1, t2, t3, t4, t5⟩ := T3
  have hk : Below w5.heap.size w5 w6 := t5.trans (hb.mono (by omega))
  have QA := hide ((unhide QA).below hk (unhide QA).lt)
  have QB := hide ((unhide QB).below hk (unhide QB).lt)
  have QX := hide ((unhide QX).below hk (unhide QX).lt)
  have QY := hide (t1.below hb t1.lt)
  have QW := hide (t2.below hb t2.lt)
  have QF := hide (t3.below hb t3.lt)
  have HB := hide ((unhide HB).trans (hk.mono hz))
  have hz : B ≤ w6.heap.size := by have := hk.size; omega
  clear hb hk t1 t2 t3 t4 t5
  obtain ⟨c0_0, c0_1, c0_2, c0_3⟩ := unhide QA
  have l0 := (unhide QA).lt
  obtain ⟨c1_0, c1_1, c1_2, c1_3⟩ := unhide QB
  have l1 := (unhide QB).lt
  obtain ⟨c2_0, c2_1, c2_2, c2_3⟩ := unhide QX
  have l2 := (unhide QX).lt
  obtain ⟨c3_0, c3_1, c3_2, c3_3⟩ := unhide QY
  have l3 := (unhide QY).lt
  obtain ⟨c4_0, c4_1, c4_2, c4_3⟩ := unhide QW
  have l4 := (unhide QW).lt
  obtain ⟨c5_0, c5_1, c5_2, c5_3⟩ := unhide QF
  have l5 := (unhide QF).lt
  go_wp2
  go_ret
  exact ⟨rfl, by rw [← unhide HBE]; exact (unhide HB).alloc hz _⟩

set_option maxHeartbeats 8000000 in
set_option maxRecDepth 100000 in
theorem still_ag (mn ar ag ab aa br bg bb ba pr pg pb pa : Nat) (w : World) (d1 : decide ((mn : Int) < 0) = false) (d2 : decide ((mn : Int) > 5) = false) (e0 : ((aa : Int) == 0) = false) (em : ((mn : Int) == 0) = false) (en : ((aa : Int) == (ba : Int)) = true) (HH : Hid (∀ w, Calls Tryd.prog 7 #[] w fun e w' => e = .returned (.bool true) ∧ Below w.heap.size w w'))
    (H1 : Hid (∀ w, Calls Tryd.prog 8 #[.int .i64 (mn : Int), .agg #[.int .u8 (ar : Int), .int .u8 (ag : Int), .int .u8 (ab : Int), .int .u8 (aa : Int)], .agg #[.int .u8 0, .int .u8 0, .int .u8 0, .int .u8 0]] w fun e w' => e = .returned (.tuple #[.agg #[.int .u8 (ar : Int), .int .u8 (ag : Int), .int .u8 (ab : Int), .int .u8 (aa : Int)], .nilIface]) ∧ Below w.heap.size w w'))
    (H2 : Hid (∀ w, Calls Tryd.prog 8 #[.int .i64 (mn : Int), .agg #[.int .u8 0, .int .u8 0, .int .u8 0, .int .u8 0], .agg #[.int .u8 (ar : Int), .int .u8 (ag : Int), .int .u8 (ab : Int), .int .u8 (aa : Int)]] w fun e w' => e = .returned (.tuple #[.agg #[.int .u8 (ar : Int), .int .u8 (ag : Int), .int .u8 (ab : Int), .int .u8 (aa : Int)], .nilIface]) ∧ Below w.heap.size w w'))
    (H3 : Hid (∀ w, Calls Tryd.prog 8 #[.int .i64 0, .agg #[.int .u8 (ar : Int), .int .u8 (ag : Int), .int .u8 (ab : Int), .int .u8 255], .agg #[.int .u8 (br : Int), .int .u8 (bg : Int), .int .u8 (bb : Int), .int .u8 (ba : Int)]] w fun e w' => e = .returned (.tuple #[.agg #[.int .u8 (ar : Int), .int .u8 (ag : Int), .int .u8 (ab : Int), .int .u8 255], .nilIface]) ∧ Below w.heap.size w w'))
    (H4 : Hid (∀ w, Calls Tryd.prog 8 #[.int .i64 (mn : Int), .agg #[.int .u8 (ar : Int), .int .u8 (ag : Int), .int .u8 (ab : Int), .int .u8 (aa : Int)], .agg #[.int .u8 (br : Int), .int .u8 (bg : Int), .int .u8 (bb : Int), .int .u8 (ba : Int)]] w fun e w' => e = .returned (.tuple #[.agg #[.int .u8 (pr : Int), .int .u8 (pg : Int), .int .u8 (pb : Int), .int .u8 (pa : Int)], .nilIface]) ∧ Below w.heap.size w w'))
    (H5 : Hid (∀ w, Calls Tryd.prog 8 #[.int .i64 (mn : Int), .agg #[.int .u8 (br : Int), .int .u8 (bg : Int), .int .u8 (bb : Int), .int .u8 (ba : Int)], .agg #[.int .u8 (ar : Int), .int .u8 (ag : Int), .int .u8 (ab : Int), .int .u8 (aa : Int)]] w fun e w' => e = .returned (.tuple #[.agg #[.int .u8 (pr : Int), .int .u8 (pg : Int), .int .u8 (pb : Int), .int .u8 (pa : Int)], .nilIface]) ∧ Below w.heap.size w w'))
    : Calls Tryd.prog 4 #[.int .i64 (mn : Int), .agg #[.int .u8 (ar : Int), .int .u8 (ag : Int), .int .u8 (ab : Int), .int .u8 (aa : Int)], .agg #[.int .u8 (br : Int), .int .u8 (bg : Int), .int .u8 (bb : Int), .int .u8 (ba : Int)]] w fun e w' => e = .returned (.bool true) ∧ Below w.heap.size w w' := by
  have d2' : decide ((5 : Int) < (mn : Int)) = false := d2
  have h255 : ((255 : Nat) : Int) = 255 := rfl
  obtain ⟨B, hB⟩ : ∃ B, B = w.heap.size := ⟨_, rfl⟩
  have T2 := hide (O2.start w ar ag ab aa br bg bb ba)
  unfold q4Obj at T2
  go_enter Tryd.func4, Tryd.ntmps4
  go_wp2_with fail
  refine (unhide HH _).mono ?_
  rw [← hB] at T2 ⊢
  generalize (w.alloc (.cells #[.int .u8 (ar : Int), .int .u8 (ag : Int), .int .u8 (ab : Int), .int .u8 (aa : Int)] 23)).alloc (.cells #[.int .u8 (br : Int), .int .u8 (bg : Int), .int .u8 (bb : Int), .int .u8 (ba : Int)] 23) = w2 at *
  rintro e w3 ⟨rfl, hb⟩
  have HBE := hide hB
  obtain ⟨QA, QB, hsz, hb2⟩ := unhide T2
  have QA := hide (QA.below hb QA.lt)
  have QB := hide (QB.below hb QB.lt)
  have HB := hide (hb2.trans (hb.mono (by omega)))
  have hz : B ≤ w3.heap.size := by have := hb.size; omega
  clear T2 hb hb2 hsz hB
  obtain ⟨c0_0, c0_1, c0_2, c0_3⟩ := unhide QA
  have l0 := (unhide QA).lt
  obtain ⟨c1_0, c1_1, c1_2, c1_3⟩ := unhide QB
  have l1 := (unhide QB).lt
  go_wp2_with fail
  refine (unhide H1 _).mono ?_
  rintro e w4 ⟨rfl, hb⟩
  clear c0_0 c0_1 c0_2 c0_3 l0
  clear c1_0 c1_1 c1_2 c1_3 l1
  have QA := hide ((unhide QA).below hb (unhide QA).lt)
  have QB := hide ((unhide QB).below hb (unhide QB).lt)
  have HB := hide ((unhide HB).trans (hb.mono hz))
  have hz : B ≤ w4.heap.size := by have := hb.size; omega
  clear hb
  obtain ⟨c0_0, c0_1, c0_2, c0_3⟩ := unhide QA
  have l0 := (unhide QA).lt
  obtain ⟨c1_0, c1_1, c1_2, c1_3⟩ := unhide QB
  have l1 := (unhide QB).lt
  go_wp2_with fail
  refine (unhide H2 _).mono ?_
  rintro e w5 ⟨rfl, hb⟩
  clear c0_0 c0_1 c0_2 c0_3 l0
  clear c1_0 c1_1 c1_2 c1_3 l1
  obtain ⟨hB1, hn, hk⟩ := laid_call (unhide HB) hz hb
  have QA := hide ((unhide QA).below hk (unhide QA).lt)
  have QB := hide ((unhide QB).below hk (unhide QB).lt)
  have QX : Hid (Q4 w5 w4.heap.size ar ag ab aa) := (q4_new w4 ar ag ab aa).below hb (by simp)
  have HB := hide hB1
  have hz : B ≤ w5.heap.size := by omega
  clear hB1 hb hk hn
  obtain ⟨c0_0, c0_1, c0_2, c0_3⟩ := unhide QA
  have l0 := (unhide QA).lt
  obtain ⟨c1_0, c1_1, c1_2, c1_3⟩ := unhide QB
  have l1 := (unhide QB).lt
  obtain ⟨c2_0, c2_1, c2_2, c2_3⟩ := unhide QX
  have l2 := (unhide QX).lt
  go_wp2_with fail
  refine (unhide H3 _).mono ?_
  rintro e w6 ⟨rfl, hb⟩
  clear c0_0 c0_1 c0_2 c0_3 l0
  clear c1_0 c1_1 c1_2 c1_3 l1
  clear c2_0 c2_1 c2_2 c2_3 l2
  have T3 := three_boxed w5 ar ag ab aa ar ag ab aa ar ag ab 255
  unfold q4Obj at T3
  simp only [h255] at T3
  generalize ((w5.alloc (.cells #[.int .u8 (ar : Int), .int .u8 (ag : Int), .int .u8 (ab : Int), .int .u8 (aa : Int)] 23)).alloc (.cells #[.int .u8 (ar : Int), .int .u8 (ag : Int), .int .u8 (ab : Int), .int .u8 (aa : Int)] 23)).alloc (.cells #[.int .u8 (ar : Int), .int .u8 (ag : Int), .int .u8 (ab : Int), .int .u8 255] 23) = w5' at *
  obtain ⟨t1, t2, t3, t4, t5⟩ := T3
  have hk : Below w5.heap.size w5 w6 := t5.trans (hb.mono (by omega))
  have QA := hide ((unhide QA).below hk (unhide QA).lt)
  have QB := hide ((unhide QB).below hk (unhide QB).lt)
  have QX := hide ((unhide QX).below hk (unhide QX).lt)
  have QY := hide (t1.below hb t1.lt)
  have QW := hide (t2.below hb t2.lt)
  have QF := hide (t3.below hb t3.lt)
  have HB := hide ((unhide HB).trans (hk.mono hz))
  have hz : B ≤ w6.heap.size := by have := hk.size; omega
  clear hb hk t1 t2 t3 t4 t5
  obtain ⟨c0_0, c0_1, c0_2, c0_3⟩ := unhide QA
  have l0 := (unhide QA).lt
  obtain ⟨c1_0, c1_1, c1_2, c1_3⟩ := unhide QB
  have l1 := (unhide QB).lt
  obtain ⟨c2_0, c2_1, c2_2, c2_3⟩ := unhide QX
  have l2 := (unhide QX).lt
  obtain ⟨c3_0, c3_1, c3_2, c3_3⟩ := unhide QY
  have l3 := (unhide QY).lt
  obtain ⟨c4_0, c4_1, c4_2, c4_3⟩ := unhide QW
  have l4 := (unhide QW).lt
  obtain ⟨c5_0, c5_1, c5_2, c5_3⟩ := unhide QF
  have l5 := (unhide QF).lt
  go_wp2_with fail
  refine (unhide H4 _).mono ?_
  rintro e w7 ⟨rfl, hb⟩
  clear c0_0 c0_1 c0_2 c0_3 l0
  clear c1_0 c1_1 c1_2 c1_3 l1
  clear c2_0 c2_1 c2_2 c2_3 l2
  clear c3_0 c3_1 c3_2 c3_3 l3
  clear c4_0 c4_1 c4_2 c4_3 l4
  clear c5_0 c5_1 c5_2 c5_3 l5
  obtain ⟨hB1, hn, hk⟩ := laid_call (unhide HB) hz hb
  have QA := hide ((unhide QA).below hk (unhide QA).lt)
  have QB := hide ((unhide QB).below hk (unhide QB).lt)
  have QX := hide ((unhide QX).below hk (unhide QX).lt)
  have QY := hide ((unhide QY).below hk (unhide QY).lt)
  have QW := hide ((unhide QW).below hk (unhide QW).lt)
  have QF := hide ((unhide QF).below hk (unhide QF).lt)
  have QZ : Hid (Q4 w7 w6.heap.size ar ag ab 255) := (q4_new w6 ar ag ab 255).below hb (by simp)
  have HB := hide hB1
  have hz : B ≤ w7.heap.size := by omega
  clear hB1 hb hk hn
  obtain ⟨c0_0, c0_1, c0_2, c0_3⟩ := unhide QA
  have l0 := (unhide QA).lt
  obtain ⟨c1_0, c1_1, c1_2, c1_3⟩ := unhide QB
  have l1 := (unhide QB).lt
  obtain ⟨c2_0, c2_1, c2_2, c2_3⟩ := unhide QX
  have l2 := (unhide QX).lt
  obtain ⟨c3_0, c3_1, c3_2, c3_3⟩ := unhide QY
  have l3 := (unhide QY).lt
  obtain ⟨c4_0, c4_1, c4_2, c4_3⟩ := unhide QW
  have l4 := (unhide QW).lt
  obtain ⟨c5_0, c5_1, c5_2, c5_3⟩ := unhide QF
  have l5 := (unhide QF).lt
  obtain ⟨c6_0, c6_1, c6_2, c6_3⟩ := unhide QZ
  have l6 := (unhide QZ).lt
  go_wp2_with fail
  refine (unhide H5 _).mono ?_
  rintro e w8 ⟨rfl, hb⟩
  clear c0_0 c0_1 c0_2 c0_3 l0
  clear c1_0 c1_1 c1_2 c1_3 l1
  clear c2_0 c2_1 c2_2 c2_3 l2
  clear c3_0 c3_1 c3_2 c3_3 l3
  clear c4_0 c4_1 c4_2 c4_3 l4
  clear c5_0 c5_1 c5_2 c5_3 l5
  clear c6_0 c6_1 c6_2 c6_3 l6
  obtain ⟨hB1, hn, hk⟩ := laid_call (unhide HB) hz hb
  have QA := hide ((unhide QA).below hk (unhide QA).lt)
  have QB := hide ((unhide QB).below hk (unhide QB).lt)
  have QX := hide ((unhide QX).below hk (unhide QX).lt)
  have QY := hide ((unhide QY).below hk (unhide QY).lt)
  have QW := hide ((unhide QW).below hk (unhide QW).lt)
  have QF := hide ((unhide QF).below hk (unhide QF).lt)
  have QZ := hide ((unhide QZ).below hk (unhide QZ).lt)
  have QP1 : Hid (Q4 w8 w7.heap.size pr pg pb pa) := (q4_new w7 pr pg pb pa).below hb (by simp)
  have HB := hide hB1
  have hz : B ≤ w8.heap.size := by omega
  clear hB1 hb hk hn
  obtain ⟨c0_0, c0_1, c0_2, c0_3⟩ := unhide QA
  have l0 := (unhide QA).lt
  obtain ⟨c1_0, c1_1, c1_2, c1_3⟩ := unhide QB
  have l1 := (unhide QB).lt
  obtain ⟨c2_0, c2_1, c2_2, c2_3⟩ := unhide QX
  have l2 := (unhide QX).lt
  obtain ⟨c3_0, c3_1, c3_2, c3_3⟩ := unhide QY
  have l3 := (unhide QY).lt
  obtain ⟨c4_0, c4_1, c4_2, c4_3⟩ := unhide QW
  have l4 := (unhide QW).lt
  obtain ⟨c5_0, c5_1, c5_2, c5_3⟩ := unhide QF
  have l5 := (unhide QF).lt
  obtain ⟨c6_0, c6_1, c6_2, c6_3⟩ := unhide QZ
  have l6 := (unhide QZ).lt
  obtain ⟨c7_0, c7_1, c7_2, c7_3⟩ := unhide QP1
  have l7 := (unhide QP1).lt
  go_wp2
  go_ret
  exact ⟨rfl, by rw [← unhide HBE]; exact (unhide HB).alloc hz _⟩

set_option maxHeartbeats 4000000 in
set_option maxRecDepth 100000 in
theorem pixelStill_all (m : Int) (a b : Px) (w : World) :
    Calls Tryd.prog 4 #[.int .i64 m, a.val, b.val] w fun e w' => e = .returned (.bool true) ∧ Below w.heap.size w w' := by
  have HH : Hid (∀ w, Calls Tryd.prog 7 #[] w fun e w' => e = .returned (.bool true) ∧ Below w.heap.size w w') := half_any
  by_cases hm : 0 ≤ m ∧ m ≤ 5
  rotate_left
  · have d : decide (m < 0) = true ∨ (decide (m < 0) = false ∧ decide (m > 5) = true) := by
      simp only [decide_eq_true_eq, decide_eq_false_iff_not]
      omega
    clear hm
    unfold Px.val
    have hb2 : ∀ x y t, Below w.heap.size w ((w.alloc (.cells x t)).alloc (.cells y t)) := fun x y t => ((Below.refl _ _).alloc (Nat.le_refl _) _).alloc (by simp) _
    have HB2 := hide hb2
    clear hb2
    rcases d with d1 | ⟨d1, d2⟩
    all_goals
      go_enter Tryd.func4, Tryd.ntmps4
      go_wp2_with fail
      refine (unhide HH _).mono ?_
      rintro e w3 ⟨rfl, hb3⟩
      have HB3 := hide ((unhide HB2 _ _ _).trans (hb3.mono (by simp; omega)))
      clear hb3
      go_wp2
      go_ret
      exact ⟨rfl, unhide HB3⟩
  obtain ⟨m0, m5⟩ := hm
  obtain ⟨mn, rfl⟩ := Int.eq_ofNat_of_zero_le m0
  have d1 : decide ((mn : Int) < 0) = false := decide_eq_false (by omega)
  have d2 : decide ((mn : Int) > 5) = false := decide_eq_false (by omega)
  have h1 := fun w => over_any mn a ⟨0, 0, 0, 0⟩ w (by omega)
  have h2 := fun w => over_any mn ⟨0, 0, 0, 0⟩ a w (by omega)
  have h3 := fun w => over_any 0 ⟨a.r, a.g, a.b, 255⟩ b w (by omega)
  have h4 := fun w => over_any mn a b w (by omega)
  have h5 := fun w => over_any mn b a w (by omega)
  rw [over_nothing] at h1
  rw [under_nothing] at h2
  rw [over_full] at h3
  have n0 : a.a = 0 ↔ a.a.toNat = 0 := ⟨fun h => by rw [h]; rfl, fun h => UInt8.toNat_inj.1 (by simpa using h)⟩
  by_cases ha : a.a = 0
  · rw [if_pos ha] at h1 h2
    have e0 : ((a.a.toNat : Int) == 0) = true := by rw [n0.1 ha]; rfl
    by_cases hm0 : mn = 0
    · exact still_zm mn _ _ _ _ _ _ _ _ w d1 d2 e0 (by rw [hm0]; rfl) HH h1 h2 h3
    · have em : ((mn : Int) == 0) = false := beq_eq_false_iff_ne.2 (by omega)
      by_cases hab : a.a = b.a
      · rw [over_comm mn b a hm0 (by omega) hab.symm] at h5
        exact still_zg mn _ _ _ _ _ _ _ _ _ _ _ _ w d1 d2 e0 em (by rw [hab]; simp) HH h1 h2 h3 h4 h5
      · exact still_zn mn _ _ _ _ _ _ _ _ w d1 d2 e0 em (beq_eq_false_iff_ne.2 (fun h => hab (UInt8.toNat_inj.1 (by omega)))) HH h1 h2 h3
  · rw [if_neg ha] at h1 h2
    have e0 : ((a.a.toNat : Int) == 0) = false := beq_eq_false_iff_ne.2 (fun h => ha (n0.2 (by omega)))
    by_cases hm0 : mn = 0
    · exact still_am mn _ _ _ _ _ _ _ _ w d1 d2 e0 (by rw [hm0]; rfl) HH h1 h2 h3
    · have em : ((mn : Int) == 0) = false := beq_eq_false_iff_ne.2 (by omega)
      by_cases hab : a.a = b.a
      · rw [over_comm mn b a hm0 (by omega) hab.symm] at h5
        exact still_ag mn _ _ _ _ _ _ _ _ _ _ _ _ w d1 d2 e0 em (by rw [hab]; simp) HH h1 h2 h3 h4 h5
      · exact still_an mn _ _ _ _ _ _ _ _ w d1 d2 e0 em (beq_eq_false_iff_ne.2 (fun h => hab (UInt8.toNat_inj.1 (by omega)))) HH h1 h2 h3

theorem pixelStill_any (m : Int) (a b : Px) (w : World) (_a : Nat → Addr) (_e : w.cell? ⟨0, 0, none⟩ = some (.iface 95 (.pointer (some (_a 1))))) :
    Calls Tryd.prog 4 #[.int .i64 m, a.val, b.val] w fun e w' => e = .returned (.bool true) ∧ Below w.heap.size w w' := pixelStill_all m a b w

end Go.Proofs.YtaghndongffafagDoor
