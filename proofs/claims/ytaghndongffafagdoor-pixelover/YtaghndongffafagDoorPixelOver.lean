/- The statement on any pixel over any other one: the walk. -/
import Derived.Test.YtaghndongffafagDoorPixelCovers
import Derived.Test.YtaghndongffafagDoorOo3
import Derived.Test.YtaghndongffafagDoorCoded2
namespace Go.Proofs.YtaghndongffafagDoor
open Go.RowKit

theorem laid_call' {B : Nat} {w wa wx : World} {o : Obj} (hB : Below B w wa) (hz : B ≤ wa.heap.size) (hx : Below (wa.alloc o).heap.size (wa.alloc o) wx) : Below B w wx ∧ wa.heap.size < wx.heap.size ∧ Below wa.heap.size wa wx := by
  have h1 : Below wa.heap.size wa (wa.alloc o) := (Below.refl _ _).alloc (Nat.le_refl _) _
  have h2 : Below wa.heap.size wa wx := h1.trans (hx.mono (by simp))
  exact ⟨hB.trans (h2.mono hz), by have := hx.size; simp at this; omega, h2⟩

set_option maxHeartbeats 8000000 in
set_option maxRecDepth 100000 in
theorem pixelOver_any (m : Int) (t u : Px) (w : World) (a : Nat → Addr) (hS : Sent w a) :
    Calls Tryd.prog 3 #[.int .i64 m, t.val, u.val] w fun e w' => e = .returned (.bool true) ∧ Below w.heap.size w w' := by
  have H2 := hide (two_boxed w t u)
  have HH := hide half_any
  have HI := hide (fun w => isMode_any m w)
  obtain ⟨B, hB⟩ : ∃ B, B = w.heap.size := ⟨_, rfl⟩
  by_cases hm : 0 ≤ m ∧ m ≤ 5
  · obtain ⟨m0, m5⟩ := hm
    rw [decide_eq_true (⟨m0, m5⟩ : 0 ≤ m ∧ m ≤ 5)] at HI
    obtain ⟨mn, rfl⟩ := Int.eq_ofNat_of_zero_le m0
    have HV := hide (fun w => over_any mn t u w (by omega))
    have HO := hide (fun w => overOf_any mn t u w (by omega))
    generalize overP mn t u = x at *
    clear m0 m5 hS
    unfold Px.val at *
    unfold pxO QP at H2
    generalize t.r.toNat = tr at *
    generalize t.g.toNat = tg at *
    generalize t.b.toNat = tb at *
    generalize t.a.toNat = ta at *
    generalize u.r.toNat = ur at *
    generalize u.g.toNat = ug at *
    generalize u.b.toNat = ub at *
    generalize u.a.toNat = ua at *
    generalize x.r.toNat = xr at *
    generalize x.g.toNat = xg at *
    generalize x.b.toNat = xb at *
    generalize x.a.toNat = xa at *
    go_enter Tryd.func3, Tryd.ntmps3
    go_wp2_with fail
    refine (unhide HH _).mono ?_
    rw [← hB] at H2 ⊢
    generalize (w.alloc (.cells #[.int .u8 (tr : Int), .int .u8 (tg : Int), .int .u8 (tb : Int), .int .u8 (ta : Int)] 23)).alloc (.cells #[.int .u8 (ur : Int), .int .u8 (ug : Int), .int .u8 (ub : Int), .int .u8 (ua : Int)] 23) = w2 at *
    rintro e w3 ⟨rfl, hb3⟩
    obtain ⟨qt, qu, hsz, hb2⟩ := unhide H2
    have HBE := hide hB
    have HB3 := hide (hb2.trans (hb3.mono (by omega)))
    have n1 : B + 1 < w3.heap.size := by have := hb3.size; omega
    have n0 : B < w3.heap.size := by omega
    have HT := hide (qt.below hb3 (by omega))
    have HU := hide (qu.below hb3 (by omega))
    obtain ⟨t1, t2, t3, t4⟩ := unhide HT
    obtain ⟨u1, u2, u3, u4⟩ := unhide HU
    clear H2 hb3 hb2 qt qu hsz hB
    go_wp2_with fail
    refine (unhide HV _).mono ?_
    rintro e w4 ⟨rfl, hb4⟩
    have HB4 := hide ((unhide HB3).trans (hb4.mono (by omega)))
    have n2 : B + 1 < w4.heap.size := by have := hb4.size; omega
    have n2b : B < w4.heap.size := by omega
    obtain ⟨t1', t2', t3', t4'⟩ := (unhide HT).below hb4 (by omega)
    obtain ⟨u1', u2', u3', u4'⟩ := (unhide HU).below hb4 (by omega)
    clear hb4 t1 t2 t3 t4 u1 u2 u3 u4 HT HU HB3
    go_wp2_with (go_at_call 9; refine (unhide HI _).mono ?_; rintro e w7 ⟨rfl, rfl⟩)
    have hA : Below w4.heap.size w4 (w4.alloc (.cells #[.int .u8 (xr : Int), .int .u8 (xg : Int), .int .u8 (xb : Int), .int .u8 (xa : Int)] 23)) := (Below.refl _ _).alloc (Nat.le_refl _) _
    obtain ⟨x1, x2, x3, x4⟩ : Q4 (w4.alloc (.cells #[.int .u8 (xr : Int), .int .u8 (xg : Int), .int .u8 (xb : Int), .int .u8 (xa : Int)] 23)) w4.heap.size xr xg xb xa := q4_new w4 xr xg xb xa
    have hz5 : w4.heap.size < (w4.alloc (.cells #[.int .u8 (xr : Int), .int .u8 (xg : Int), .int .u8 (xb : Int), .int .u8 (xa : Int)] 23)).heap.size := by simp
    have rt1 := (hA.cell (p := ⟨B, 0, none⟩) (by simp only; omega)).trans t1'
    have rt2 := (hA.cell (p := ⟨B, 1, none⟩) (by simp only; omega)).trans t2'
    have rt3 := (hA.cell (p := ⟨B, 2, none⟩) (by simp only; omega)).trans t3'
    have rt4 := (hA.cell (p := ⟨B, 3, none⟩) (by simp only; omega)).trans t4'
    have ru1 := (hA.cell (p := ⟨B + 1, 0, none⟩) (by simp only; omega)).trans u1'
    have ru2 := (hA.cell (p := ⟨B + 1, 1, none⟩) (by simp only; omega)).trans u2'
    have ru3 := (hA.cell (p := ⟨B + 1, 2, none⟩) (by simp only; omega)).trans u3'
    have ru4 := (hA.cell (p := ⟨B + 1, 3, none⟩) (by simp only; omega)).trans u4'
    have HB5 := hide ((unhide HB4).trans (hA.mono (by omega)))
    clear hA HB4 t1' t2' t3' t4' u1' u2' u3' u4'
    generalize w4.alloc (.cells #[.int .u8 (xr : Int), .int .u8 (xg : Int), .int .u8 (xb : Int), .int .u8 (xa : Int)] 23) = w5 at *
    generalize w4.heap.size = kx at *
    have n5 : B + 1 < w5.heap.size := by omega
    have n5b : B < w5.heap.size := by omega
    have HO5 := hide (unhide HO w5.drew)
    go_region_held (fun w' => w'.cell? ⟨B, 0, none⟩ = some (.int .u8 (tr : Int)) ∧ w'.cell? ⟨B, 1, none⟩ = some (.int .u8 (tg : Int)) ∧ w'.cell? ⟨B, 2, none⟩ = some (.int .u8 (tb : Int)) ∧ w'.cell? ⟨B, 3, none⟩ = some (.int .u8 (ta : Int)) ∧ w'.cell? ⟨B + 1, 0, none⟩ = some (.int .u8 (ur : Int)) ∧ w'.cell? ⟨B + 1, 1, none⟩ = some (.int .u8 (ug : Int)) ∧ w'.cell? ⟨B + 1, 2, none⟩ = some (.int .u8 (ub : Int)) ∧ w'.cell? ⟨B + 1, 3, none⟩ = some (.int .u8 (ua : Int)) ∧ w'.cell? ⟨kx, 0, none⟩ = some (.int .u8 (xr : Int)) ∧ w'.cell? ⟨kx, 1, none⟩ = some (.int .u8 (xg : Int)) ∧ w'.cell? ⟨kx, 2, none⟩ = some (.int .u8 (xb : Int)) ∧ w'.cell? ⟨kx, 3, none⟩ = some (.int .u8 (xa : Int))) (first | (go_keep; done) | exact ⟨(hk (B) 0 (by omega)).trans rt1, (hk (B) 1 (by omega)).trans rt2, (hk (B) 2 (by omega)).trans rt3, (hk (B) 3 (by omega)).trans rt4, (hk (B + 1) 0 (by omega)).trans ru1, (hk (B + 1) 1 (by omega)).trans ru2, (hk (B + 1) 2 (by omega)).trans ru3, (hk (B + 1) 3 (by omega)).trans ru4, (hk (kx) 0 (by omega)).trans x1, (hk (kx) 1 (by omega)).trans x2, (hk (kx) 2 (by omega)).trans x3, (hk (kx) 3 (by omega)).trans x4⟩) (first | (go_at_call 11; refine (unhide HO5).mono ?_; rintro e w6 ⟨rfl, hb6⟩; have hk := fun (k o : Nat) (h : k < w5.heap.size) => hb6.cell (p := ⟨k, o, none⟩) h))
    have HB6 := hide ((unhide HB5).drew.trans (hb6.mono (by simp; omega)))
    go_wp2
    go_ret
    exact ⟨rfl, by rw [← unhide HBE]; exact unhide HB6⟩
  · rw [decide_eq_false hm] at HI
    have hz : m < 0 ∨ 6 ≤ m := by omega
    have HV : Hid (∀ w', Below w.heap.size w w' → Calls Tryd.prog 8 #[.int .i64 m, t.val, u.val] w' fun e w'' => e = .returned (.tuple #[.agg #[.int .u8 0, .int .u8 0, .int .u8 0, .int .u8 0], sentV a 1]) ∧ Below w'.heap.size w' w'') := fun w' hb => over_bad m t u w' _ _ hz ((hS.below hb).cell 1 (by omega))
    have HC : Hid (∀ w', Below w.heap.size w w' → Calls Tryd.prog 10 #[sentV a 1, .int .i64 2] w' fun e w'' => e = .returned (.bool true) ∧ Below w'.heap.size w' w'') := fun w' hb => coded2_sent 1 2 w' a (hS.below hb) (by omega) rfl
    generalize sentV a 1 = ev at *
    clear hm hz hS
    unfold Px.val at *
    unfold pxO QP at H2
    generalize t.r.toNat = tr at *
    generalize t.g.toNat = tg at *
    generalize t.b.toNat = tb at *
    generalize t.a.toNat = ta at *
    generalize u.r.toNat = ur at *
    generalize u.g.toNat = ug at *
    generalize u.b.toNat = ub at *
    generalize u.a.toNat = ua at *
    go_enter Tryd.func3, Tryd.ntmps3
    go_wp2_with fail
    refine (unhide HH _).mono ?_
    rw [← hB] at H2 HV HC ⊢
    generalize (w.alloc (.cells #[.int .u8 (tr : Int), .int .u8 (tg : Int), .int .u8 (tb : Int), .int .u8 (ta : Int)] 23)).alloc (.cells #[.int .u8 (ur : Int), .int .u8 (ug : Int), .int .u8 (ub : Int), .int .u8 (ua : Int)] 23) = w2 at *
    rintro e w3 ⟨rfl, hb3⟩
    obtain ⟨qt, qu, hsz, hb2⟩ := unhide H2
    have HBE := hide hB
    have HB3 := hide (hb2.trans (hb3.mono (by omega)))
    have n1 : B + 1 < w3.heap.size := by have := hb3.size; omega
    have n0 : B < w3.heap.size := by omega
    obtain ⟨t1, t2, t3, t4⟩ := qt.below hb3 (by omega)
    obtain ⟨u1, u2, u3, u4⟩ := qu.below hb3 (by omega)
    clear H2 hb3 hb2 qt qu hsz hB
    have HV3 := hide (unhide HV _ (unhide HB3))
    go_wp2_with fail
    refine (unhide HV3).mono ?_
    rintro e w4 ⟨rfl, hb4⟩
    have HB4 := hide ((unhide HB3).trans (hb4.mono (by omega)))
    have hz4 : B ≤ w4.heap.size := by have := hb4.size; omega
    have HC5 := hide (unhide HC _ ((unhide HB4).alloc hz4 (.cells #[.int .u8 0, .int .u8 0, .int .u8 0, .int .u8 0] 23)))
    clear hb4 t1 t2 t3 t4 u1 u2 u3 u4 HB3 HV HC HV3
    go_wp2_with (go_at_call 9; refine (unhide HI _).mono ?_; rintro e w7 ⟨rfl, rfl⟩)
    refine (unhide HC5).mono ?_
    rintro e w5 ⟨rfl, hb5⟩
    obtain ⟨hB1, hn, hk⟩ := laid_call' (unhide HB4) hz4 hb5
    have HB5 := hide hB1
    obtain ⟨z1, z2, z3, z4⟩ : Q4 w5 w4.heap.size 0 0 0 0 := (q4_new w4 0 0 0 0).below hb5 (by simp)
    clear hB1 hb5 hk
    go_wp2
    go_ret
    exact ⟨rfl, by rw [← unhide HBE]; exact unhide HB5⟩
end Go.Proofs.YtaghndongffafagDoor
