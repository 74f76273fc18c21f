/- GifTwice, walked. -/
import Derived.Test.YtjcoahahponabaaDoorMg25
import Derived.Test.YtjcoahahponabaaDoorMg23
import Derived.Test.YtjcoahahponabaaDoorGs2
namespace Go.Proofs.YtjcoahahponabaaDoor
open Go.RowKit Lz

theorem totF_all (V : Nat → FrV) (m : Nat) : ∀ n, (∀ j, j < n → (V j).f.n = m) → totF V n = m * n := fun n => by
  induction n with
  | zero => intro _; rfl
  | succ n ih =>
    intro h
    show totF V n + (V n).f.n = _
    rw [ih (fun j hj => h j (by omega)), h n (by omega), Nat.mul_succ]
theorem totF_congr {V U : Nat → FrV} : ∀ n, (∀ j, j < n → (U j).f = (V j).f) → totF U n = totF V n := fun n => by
  induction n with
  | zero => intro _; rfl
  | succ n ih =>
    intro h
    show totF U n + (U n).f.n = totF V n + (V n).f.n
    rw [ih (fun j hj => h j (by omega)), h n (by omega)]

theorem onceG {G0 : Prop} {G : World → Nat → Nat → Prop} (F : World → Prop) (h : (∀ w g c, F w → G w g c) → G0) (r : ∀ w g c, F w → G w g c) : G0 := h r

set_option maxHeartbeats 16000000 in
set_option maxRecDepth 100000 in
theorem gifTwice_core (s : Option Addr) (n c : Nat) (V : Nat → FrV) (loops : Int) (w : World) (aS : Nat → Addr) (hS : Told w [1, 2, 6] aS) {tE : TypeId} {xE : Value} (hG : GT w tE xE) (hn : 4 ≤ w.heap.size) (hF : IsFr w s n V) (hZ : n ≤ maxLen ∧ ∀ i, i < n → (V i).f.n ≤ 140737488355328) :
    Calls Tryd.prog 3 #[.slice s n c, .int .i64 loops] w fun e w' => e = .returned (.bool true) ∧ Below w.heap.size w w' := by
  have HBl := hide (blink_any w aS hS hG hn)
  have HSW := hide (fun wr (hb : Below w.heap.size w wr) => hS.below hb)
  have HGW := hide (fun wr (hb : Below w.heap.size w wr) => ((hb.cell (p := ⟨0, 0, none⟩) (World.block_lt_of_cell? _ _ hG)).trans hG : GT wr tE xE))
  have HRW := hide (fun wr (hb : Below w.heap.size w wr) => hF.1.below hb)
  have HVW := hide (fun wr (hb : Below w.heap.size w wr) i (hi : i < n) => (hF.2 i hi).below hb)
  have HSh := hide (fun wr (hb : Below w.heap.size w wr) => short_any s n c V wr (hF.1.below hb) hZ.1 hZ.2)
  clear hS hG hF hZ
  go_enter Tryd.func3, Tryd.ntmps3
  go_wp2_with fail
  refine (unhide HBl).mono ?_
  rintro e w1 ⟨rfl, hb1⟩
  have HB1 := hide hb1
  have hz1 := hb1.size
  have HSh := hide (unhide HSh w1 hb1)
  clear HBl hb1
  by_cases hP : shortP V n
  rotate_left
  · rw [decide_eq_false hP] at HSh
    clear HSW HGW HRW HVW hP
    go_wp2_with fail
    refine (unhide HSh).mono ?_
    rintro e w2 ⟨rfl, hb2⟩
    have HB2 := hide ((unhide HB1).trans (hb2.mono hz1))
    clear HSh hb2 HB1
    go_wp2
    go_ret
    exact ⟨rfl, unhide HB2⟩
  rw [decide_eq_true hP] at HSh
  go_wp2_with fail
  refine (unhide HSh).mono ?_
  rintro e w2 ⟨rfl, hb2⟩
  have HB2 := hide ((unhide HB1).trans (hb2.mono hz1))
  have hz2 : w.heap.size ≤ w2.heap.size := by have := hb2.size; omega
  have hsm : ∀ i, i < n → (V i).f.n ≤ 3000 := fun i hi => Nat.le_trans (totF_has V n i hi) hP.1
  have HFo := hide (framesOf_any s n c V w2 (unhide HRW w2 (unhide HB2)) (unhide HVW w2 (unhide HB2)) hP.2 hsm)
  clear HSh hb2 HB1 hz1
  go_wp2_with fail
  refine (unhide HFo).mono ?_
  rintro e w3 ⟨ta, tc, U, rfl, hown, hU, hb3⟩
  have HB3 := hide ((unhide HB2).trans (hb3.mono hz2))
  have hz3 : w.heap.size ≤ w3.heap.size := by have := hb3.size; omega
  have hUf : ∀ j, j < n → (U j).f = (V j).f := fun j hj => (hU j hj).eq
  have hn20 : n ≤ 20 := hP.2
  have HWr := hide (gwrite_any ta n tc loops U w3 aS (unhide HSW w3 (unhide HB3)) (own_rw hown (fun j => rfl) (by unfold maxLen; omega)) (fun j hj => (hU j hj).is))
  clear HFo hown hU hb3 HB2 hz2
  go_wp2_with fail
  refine (unhide HWr).mono ?_
  rintro e w4 ⟨hr, hb4⟩
  have HB4 := hide ((unhide HB3).trans (hb4.mono hz3))
  have hz4 : w.heap.size ≤ w4.heap.size := by have := hb4.size; omega
  clear HWr hb4 HB3 hz3
  rcases hr with ⟨_, rfl⟩ | ⟨_, i, hi, _, _, p, rfl, _⟩ | ⟨hL, he, rfl⟩
  · obtain ⟨t1, v1, e1⟩ : ∃ t v, sentV aS 1 = .iface t v := ⟨_, _, rfl⟩
    rw [e1]
    clear e1 HSW HGW HRW HVW hP hsm hUf
    go_wp2
    go_ret
    exact ⟨rfl, unhide HB4⟩
  · clear hi HSW HGW HRW HVW hP hsm hUf
    go_wp2
    go_ret
    exact ⟨rfl, unhide HB4⟩
  obtain ⟨lp, rfl⟩ := Int.eq_ofNat_of_zero_le hL.2.1
  have hn1 : 1 ≤ n ∧ n ≤ 16 := hL.1.1
  have hm : (U 0).f.n * n ≤ 24000 := by
    have h1 := totF_all U (U 0).f.n n (fun j hj => frE_same (he j hj) (he 0 (by omega)))
    rw [← h1, totF_congr n hUf]
    have := hP.1
    omega
  have HRd := hide (gback_any U n lp w4 aS (unhide HSW w4 (unhide HB4)) (unhide HGW w4 (unhide HB4)) (by omega) (by omega) hL.1 he hm)
  have hpos : ∀ i, i < n → 1 ≤ (V i).f.n := fun i hi => by rw [← hUf i hi]; exact (right_few (frE_right (he i hi))).2
  clear HSW HGW hm hP he hL
  rw [show ((lp : Int)).toNat = lp from rfl]
  generalize gifL (U 0).f.W.toNat (U 0).f.H.toNat (tfsF U n) lp = sl at *
  generalize (⟨sl.toArray⟩ : ByteArray) = st at *
  go_wp2_with fail
  refine (unhide HRd).mono ?_
  rintro e w5 ⟨tb, td, X, rfl, hRX, hX, hb5⟩
  have HB5 := hide ((unhide HB4).trans (hb5.mono hz4))
  have hz5 : w.heap.size ≤ w5.heap.size := by have := hb5.size; omega
  have HRX := hide hRX
  have HX := hide (fun j hj => (⟨(hX j hj).1, by have h := (hX j hj).2; rw [hUf j hj] at h; exact h⟩ : (X j).in w5 ∧ BackF (X j).f (V j).f))
  clear HRd hRX hX hb5 HB4 hz4 hUf
  have HC : (((((if 1 < n then lp else 0 : Nat) : Nat) : Int) = lp ∧ 1 < n) ∨ (((if 1 < n then lp else 0 : Nat) : Nat) : Int) = 0 ∧ n = 1) := by
    by_cases h1 : 1 < n
    · exact .inl ⟨by rw [if_pos h1], h1⟩
    · exact .inr ⟨by rw [if_neg h1]; rfl, by omega⟩
  rcases HC with ⟨e1, h1⟩ | ⟨e1, h1⟩
  focus
    rw [e1]
    have d1 : decide ((1 : Int) < (n : Int)) = true := decide_eq_true (by omega)
    have d1n : decide (1 < n) = true := decide_eq_true h1
    have d2 : ((n : Int) == 1) = false := beq_eq_false_iff_ne.2 (by omega)
    have d2n : (n == 1) = false := beq_eq_false_iff_ne.2 (by omega)
    clear e1 h1
    go_wp2
  rotate_left
  focus
    rw [e1]
    have d1 : decide ((1 : Int) < (n : Int)) = false := decide_eq_false (by omega)
    have d1n : decide (1 < n) = false := decide_eq_false (by omega)
    have d2 : ((n : Int) == 1) = true := beq_iff_eq.2 (by omega)
    have d2n : (n == 1) = true := beq_iff_eq.2 (by omega)
    clear e1 h1
    go_wp2
  all_goals
    clear d1 d1n d2 d2n
    go_loopw [10] (fun iv wr => ∃ (i : Nat), i ≤ n ∧ iv = .int .i64 (i : Int) ∧ Hid (Below w.heap.size w wr) ∧ Hid (Below w5.heap.size w5 wr) ∧ w.heap.size ≤ wr.heap.size) (fun iv _ => n - (intOf iv).toNat)
    case atStart => exact ⟨0, by omega, rfl, HB5, Below.refl _ _, hz5⟩
    case round =>
      clear HB5
      obtain ⟨i, hi, rfl, HB, HB5, hz⟩ := hrel
      by_cases hlt : i < n
      · have d1 : decide ((i : Int) < (n : Int)) = true := decide_eq_true (by omega)
        have d1n : decide (i < n) = true := decide_eq_true hlt
        have hii : (i : Int) < (n : Int) := by omega
        have hnz : (n == 0) = false := beq_eq_false_iff_ne.2 (by omega)
        obtain ⟨b, off, rfl, _, hc⟩ := ((unhide HRX).below (unhide HB5)).resolve_left (by omega)
        obtain ⟨b2, off2, rfl, _, hc2⟩ := (unhide HRW wr (unhide HB)).resolve_left (by omega)
        obtain ⟨hXin, e1, e2, e3, e4, e5⟩ := unhide HX i hlt
        have hXin := hXin.below (unhide HB5)
        have hVin := unhide HVW wr (unhide HB) i hlt
        have hfn := hsm i hlt
        have hv := hc i hlt
        have hv2 := hc2 i hlt
        have x0 : wr.cell? ⟨b, off + i * 4, none⟩ = some (.int .i64 (V i).f.W) := by rw [← e1]; exact hv 0 _ rfl
        have x1 : wr.cell? ⟨b, off + i * 4 + 1, none⟩ = some (.int .i64 (V i).f.H) := by rw [← e2]; exact hv 1 _ rfl
        have x2 : wr.cell? ⟨b, off + i * 4 + 2, none⟩ = some (.slice (X i).a (V i).f.n (X i).c) := by rw [← e3]; exact hv 2 _ rfl
        have x3 : wr.cell? ⟨b, off + i * 4 + 3, none⟩ = some (.int .i64 (V i).f.d) := by rw [← e4]; exact hv 3 _ rfl
        have y0 : wr.cell? ⟨b2, off2 + i * 4, none⟩ = some (.int .i64 (V i).f.W) := hv2 0 _ rfl
        have y1 : wr.cell? ⟨b2, off2 + i * 4 + 1, none⟩ = some (.int .i64 (V i).f.H) := hv2 1 _ rfl
        have y2 : wr.cell? ⟨b2, off2 + i * 4 + 2, none⟩ = some (.slice (V i).a (V i).f.n (V i).c) := hv2 2 _ rfl
        have y3 : wr.cell? ⟨b2, off2 + i * 4 + 3, none⟩ = some (.int .i64 (V i).f.d) := hv2 3 _ rfl
        have h1n : 1 ≤ (V i).f.n := hpos i hlt
        have HCl := hide (fun wx (hb : Below wr.heap.size wr wx) => clean_any (V i).f.W (V i).f.H (V i).a (V i).f.n (V i).c (V i).f.q wx (hVin.below hb) h1n (by omega))
        have HSm := hide (fun wx (hb : Below wr.heap.size wr wx) g c2 (hg : IsPx wx (some ⟨g, 0, none⟩) (V i).f.n (clQ (V i).f.q)) => samePicture_any (V i).f.W (V i).f.H (X i).a (some ⟨g, 0, none⟩) (V i).f.n (X i).c c2 (clQ (V i).f.q) wx
          (by have h := hXin.below hb; unfold FrV.in at h; rw [e3] at h; rw [e3] at e5; exact h.congr e5) hg (by omega))
        have hlb := World.block_lt_of_cell? _ _ x0
        have hlb2 := World.block_lt_of_cell? _ _ y0
        simp only at hlb hlb2
        have hKS := hide (fun wx (h : Below wr.heap.size wr wx) => (⟨bcell h hlb x0, bcell h hlb x1, bcell h hlb x2, bcell h hlb x3, bcell h hlb2 y0, bcell h hlb2 y1, bcell h hlb2 y2, bcell h hlb2 y3⟩ : wx.cell? ⟨b, off + i * 4, none⟩ = some (.int .i64 (V i).f.W) ∧ wx.cell? ⟨b, off + i * 4 + 1, none⟩ = some (.int .i64 (V i).f.H) ∧ wx.cell? ⟨b, off + i * 4 + 2, none⟩ = some (.slice (X i).a (V i).f.n (X i).c) ∧ wx.cell? ⟨b, off + i * 4 + 3, none⟩ = some (.int .i64 (V i).f.d) ∧ wx.cell? ⟨b2, off2 + i * 4, none⟩ = some (.int .i64 (V i).f.W) ∧ wx.cell? ⟨b2, off2 + i * 4 + 1, none⟩ = some (.int .i64 (V i).f.H) ∧ wx.cell? ⟨b2, off2 + i * 4 + 2, none⟩ = some (.slice (V i).a (V i).f.n (V i).c) ∧ wx.cell? ⟨b2, off2 + i * 4 + 3, none⟩ = some (.int .i64 (V i).f.d)))
        have hdr := (Below.refl wr.heap.size wr).drew
        clear hc hc2 hv hv2 e1 e2 e3 e4 e5 hXin hVin
        generalize clQ (V i).f.q = qq at *
        generalize (V i).f.W = fW at *
        generalize (V i).f.H = fH at *
        generalize (V i).f.d = fd at *
        generalize (V i).f.n = fn at *
        generalize (X i).a = fa at *
        generalize (X i).c = fc at *
        generalize (V i).a = ga at *
        generalize (V i).c = gc at *
        go_upto_region 13 with fail
        apply onceG (fun wf => Below wr.heap.size wr wf)
        · intro hrest
          go_wp2_with fail
          go_region_held (fun w' => w'.cell? ⟨b, off + i * 4, none⟩ = some (.int .i64 fW) ∧ w'.cell? ⟨b, off + i * 4 + 1, none⟩ = some (.int .i64 fH) ∧ w'.cell? ⟨b, off + i * 4 + 2, none⟩ = some (.slice fa fn fc) ∧ w'.cell? ⟨b, off + i * 4 + 3, none⟩ = some (.int .i64 fd) ∧ w'.cell? ⟨b2, off2 + i * 4, none⟩ = some (.int .i64 fW) ∧ w'.cell? ⟨b2, off2 + i * 4 + 1, none⟩ = some (.int .i64 fH) ∧ w'.cell? ⟨b2, off2 + i * 4 + 2, none⟩ = some (.slice ga fn gc) ∧ w'.cell? ⟨b2, off2 + i * 4 + 3, none⟩ = some (.int .i64 fd)) (exact unhide hKS _ (by (first | with_reducible exact hq7 | with_reducible exact hq7.drew | with_reducible exact hq6 | with_reducible exact hdr | with_reducible exact hq6.drew | with_reducible exact Below.refl _ _))) (first | (go_at_call 10; refine (unhide HCl _ (by (first | with_reducible exact hq7 | with_reducible exact hq7.drew | with_reducible exact hq6 | with_reducible exact hdr | with_reducible exact hq6.drew | with_reducible exact Below.refl _ _))).mono ?_; rintro e w6 ⟨g, c2, rfl, hg, hpr, hb6⟩; have hpx := hpr.isPx (by omega); have hq6 := bel_trans (w := wr) (by (first | with_reducible exact hq6 | with_reducible exact hdr | with_reducible exact hq6.drew | with_reducible exact Below.refl _ _)) hb6) | (go_at_call 9; refine (unhide HSm _ (by (first | with_reducible exact hq7 | with_reducible exact hq7.drew | with_reducible exact hq6 | with_reducible exact hdr | with_reducible exact hq6.drew | with_reducible exact Below.refl _ _)) g c2 (by first | exact hpx | exact hpx.below ((Below.refl _ _).drew))).mono ?_; rintro e w7 ⟨rfl, hb7⟩; have hq7 := bel_trans (w := wr) (by (first | with_reducible exact hq6 | with_reducible exact hdr | with_reducible exact hq6.drew | with_reducible exact Below.refl _ _)) hb7))
          all_goals exact hrest _ g c2 (by (first | with_reducible exact hq7 | with_reducible exact hq7.drew | with_reducible exact hq6 | with_reducible exact hdr | with_reducible exact hq6.drew | with_reducible exact Below.refl _ _))
        rintro w9 gz cz hb9
        have HB9 := hide ((unhide HB).trans (hb9.mono hz))
        have HB59 := hide ((unhide HB5).trans (hb9.mono (unhide HB5).size))
        have hz9 : w.heap.size ≤ w9.heap.size := by have := hb9.size; omega
        clear HCl HSm HB HB5 hb9 hKS hdr x0 x1 x2 x3 y0 y1 y2 y3
        go_wp2
        go_roundw
        case rel => exact ⟨i + 1, by omega, by go_num, HB9, HB59, hz9⟩
        case measure => simp [intOf]; omega
      · obtain rfl : i = n := by omega
        have d1 : decide ((i : Int) < (i : Int)) = false := by simp
        have HBw := hide (unhide HB)
        clear HRX HX HRW HVW hsm HB HB5
        go_wp2
        go_ret
        exact ⟨rfl, unhide HBw⟩
end Go.Proofs.YtjcoahahponabaaDoor
