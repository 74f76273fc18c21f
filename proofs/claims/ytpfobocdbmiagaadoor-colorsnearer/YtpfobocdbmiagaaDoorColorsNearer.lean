/- A better palette is never further; nor is one with a color more: the law. -/
import Derived.Test.YtpfobocdbmiagaaDoorCm6
import Derived.Test.YtpfobocdbmiagaaDoorMg6
import Derived.Test.YtpfobocdbmiagaaDoorRw0
namespace Go.Proofs.YtpfobocdbmiagaaDoor
open Go.RowKit
theorem bel_atN {B : Nat} {w w' : World} (h : B = w.heap.size) (hb : Below B w w') : Below w.heap.size w w' := h ▸ hb
structure B2 (w : World) (B : Nat) (x : Px) : Prop where
  blk : w.heap[B + 1]? = some (.cells #[.int .u8 (x.r.toNat : Int), .int .u8 (x.g.toNat : Int), .int .u8 (x.b.toNat : Int), .int .u8 (x.a.toNat : Int)] 40)
theorem B2.below {w w' : World} {B : Nat} {x : Px} (h : B2 w B x) (hb : Below w.heap.size w w') : B2 w' B x := ⟨blk_below h.blk hb (blk_lt h.blk)⟩
theorem right_posN {W H : Int} {n : Nat} (h : RightP W H n) : 1 ≤ n := by
  have h1 := Int.mul_pos (show 0 < W by have := h.1.1; omega) (show 0 < H by have := h.2.1.1; omega)
  have h2 := h.2.2
  omega

set_option maxHeartbeats 16000000 in
set_option maxRecDepth 100000 in
theorem colorsNearer_any (W H : Int) (a : Option Addr) (n c : Nat) (p : Nat → Px) (b : Option Addr) (M d : Nat) (q : Nat → Px) (x : Px) (w : World) (A : Nat → Addr) (hS : Told w [1, 2] A) (hP : IsPx w a n p) (_bW : -9223372036854775808 ≤ W ∧ W ≤ 9223372036854775807) (_bH : -9223372036854775808 ≤ H ∧ H ≤ 9223372036854775807) (hQ : IsPx w b M q) :
    Calls Tryd.prog 5 #[.agg #[.int .i64 W, .int .i64 H, .slice a n c], .slice b M d, x.val] w fun e w' => e = .returned (.bool true) ∧ Below w.heap.size w w' := by
  have HSW := hide (fun wr (hb : Below w.heap.size w wr) => hS.below hb)
  have HPW := hide (fun wr (hb : Below w.heap.size w wr) => hP.below hb)
  have HQW := hide (fun wr (hb : Below w.heap.size w wr) => hQ.below hb)
  clear hQ
  have hHA0 := hide (al2 w (.cells #[.int .i64 W, .int .i64 H, .slice a n c] 24) (.cells #[.int .u8 (x.r.toNat : Int), .int .u8 (x.g.toNat : Int), .int .u8 (x.b.toNat : Int), .int .u8 (x.a.toNat : Int)] 40))
  obtain ⟨B, hB⟩ : ∃ B, B = w.heap.size := ⟨_, rfl⟩
  clear hS hP _bW _bH
  unfold Px.val
  go_enter Tryd.func5, Tryd.ntmps5
  go_wp2_with fail
  generalize (w.alloc (.cells #[.int .i64 W, .int .i64 H, .slice a n c] 24)).alloc (.cells #[.int .u8 (x.r.toNat : Int), .int .u8 (x.g.toNat : Int), .int .u8 (x.b.toNat : Int), .int .u8 (x.a.toNat : Int)] 40) = w1 at *
  rw [← hB] at HSW HPW HQW hHA0 ⊢
  obtain ⟨hs0, kB, kX, hb0⟩ := unhide hHA0
  have HK := hide kB
  have HX := hide (show B2 w1 B x from ⟨kX⟩)
  have HB := hide hb0
  have HBE := hide hB
  have hBs : B + 1 ≤ w1.heap.size := by omega
  clear hHA0 hb0 hs0 hB kB kX
  refine (grey_any _).mono ?_
  rintro e w2 ⟨rfl, hb2⟩
  have hsz := hb2.size
  have HK := hide (blk_below (unhide HK) hb2 (blk_lt (unhide HK)))
  have HX := hide ((unhide HX).below hb2)
  have HB := hide ((unhide HB).trans (hb2.mono (by omega)))
  have hBs : B + 1 ≤ w2.heap.size := by omega
  clear hb2 hsz
  by_cases hn3 : n ≤ 3000
  rotate_left
  · have HSm := hide (fun w' => small3_any W H a n c w')
    rw [decide_eq_false hn3] at HSm
    have HSm := HSm
    have d0 : w2.cell? ⟨B, 0, none⟩ = some (.int .i64 W) := blk_cell (unhide HK) 0
    have d1 : w2.cell? ⟨B, 1, none⟩ = some (.int .i64 H) := blk_cell (unhide HK) 1
    have d2 : w2.cell? ⟨B, 2, none⟩ = some (.slice a n c) := blk_cell (unhide HK) 2
    go_wp2_with fail
    clear d0 d1 d2
    refine (unhide HSm _).mono ?_
    rintro e w3 ⟨rfl, hb3⟩
    have hsz := hb3.size
    have HK := hide (blk_below (unhide HK) hb3 (blk_lt (unhide HK)))
    have HX := hide ((unhide HX).below hb3)
    have HB := hide ((unhide HB).trans (hb3.mono (by omega)))
    have hBs : B + 1 ≤ w3.heap.size := by omega
    clear hb3 hsz
    clear HSW HPW HQW HX HK
    go_wp2
    go_ret
    exact ⟨rfl, bel_atN (unhide HBE) (unhide HB)⟩
  have HSm := hide (fun w' => small3_any W H a n c w')
  rw [decide_eq_true hn3] at HSm
  have d0 : w2.cell? ⟨B, 0, none⟩ = some (.int .i64 W) := blk_cell (unhide HK) 0
  have d1 : w2.cell? ⟨B, 1, none⟩ = some (.int .i64 H) := blk_cell (unhide HK) 1
  have d2 : w2.cell? ⟨B, 2, none⟩ = some (.slice a n c) := blk_cell (unhide HK) 2
  go_wp2_with fail
  clear d0 d1 d2
  refine (unhide HSm _).mono ?_
  rintro e w3 ⟨rfl, hb3⟩
  have hsz := hb3.size
  have HK := hide (blk_below (unhide HK) hb3 (blk_lt (unhide HK)))
  have HX := hide ((unhide HX).below hb3)
  have HB := hide ((unhide HB).trans (hb3.mono (by omega)))
  have hBs : B + 1 ≤ w3.heap.size := by omega
  clear hb3 hsz
  clear HSm
  by_cases h60 : M ≤ 60
  rotate_left
  · skip
    have fz0 : decide ((M : Int) > 60) = true := decide_eq_true (by omega)
    have fz1 : decide ((60 : Int) < (M : Int)) = true := decide_eq_true (by omega)
    have fz2 : decide (60 < M) = true := decide_eq_true (by omega)
    clear HSW HPW HQW HX HK
    go_wp2
    go_ret
    exact ⟨rfl, bel_atN (unhide HBE) (unhide HB)⟩
  have fz0 : decide ((M : Int) > 60) = false := decide_eq_false (by omega)
  have fz1 : decide ((60 : Int) < (M : Int)) = false := decide_eq_false (by omega)
  have fz2 : decide (60 < M) = false := decide_eq_false (by omega)
  have HOw := hide (fun wr (hb : Below B w wr) => own_isPx W H a n c p wr (unhide HPW wr hb) (by omega))
  have HPa := hide (fun wr (hb : Below B w wr) => paletteC_any b M d q wr (unhide HQW wr hb) (by omega))
  have HPo := hide (fun wr (hb : Below B w wr) => paletteO_any b M d q wr (unhide HQW wr hb) (by omega))
  by_cases hE : cE W H n (M : Int) = 0
  rotate_left
  · obtain ⟨t, v, hv⟩ := erV_some (a := A) hE
    have HFr : Hid (∀ a1 c1 b1 d1 wr, Below B w wr → Calls Tryd.prog 20 #[.agg #[.int .i64 W, .int .i64 H, .slice a1 n c1], .slice b1 M d1] wr fun e w' => e = .returned (.tuple #[.int .i64 0, .iface t v]) ∧ Below wr.heap.size wr w') := fun a1 c1 b1 d1 wr hb => by have h := far_err W H a1 n c1 b1 M d1 wr A (unhide HSW wr hb) hE; rw [hv] at h; exact h
    clear hE hv
    have d0 : w3.cell? ⟨B, 0, none⟩ = some (.int .i64 W) := blk_cell (unhide HK) 0
    have d1 : w3.cell? ⟨B, 1, none⟩ = some (.int .i64 H) := blk_cell (unhide HK) 1
    have d2 : w3.cell? ⟨B, 2, none⟩ = some (.slice a n c) := blk_cell (unhide HK) 2
    go_wp2_with fail
    clear d0 d1 d2
    refine (unhide HOw _ (unhide HB)).mono ?_
    rintro e w4 ⟨a1, c1, rfl, hp1, hb4⟩
    have HP1 := hide hp1
    clear hp1
    have hsz := hb4.size
    have HK := hide (blk_below (unhide HK) hb4 (blk_lt (unhide HK)))
    have HX := hide ((unhide HX).below hb4)
    have HB := hide ((unhide HB).trans (hb4.mono (by omega)))
    have hBs : B + 1 ≤ w4.heap.size := by omega
    clear hb4 hsz
    go_wp2_with fail
    refine (unhide HPa _ (unhide HB)).mono ?_
    rintro e w5 ⟨b1, d1, rfl, hq1, hb5⟩
    have HQ1 := hide hq1
    clear hq1
    have hsz := hb5.size
    have HK := hide (blk_below (unhide HK) hb5 (blk_lt (unhide HK)))
    have HX := hide ((unhide HX).below hb5)
    have HP1 := hide ((unhide HP1).below hb5)
    have HB := hide ((unhide HB).trans (hb5.mono (by omega)))
    have hBs : B + 1 ≤ w5.heap.size := by omega
    clear hb5 hsz
    go_wp2_with fail
    refine (unhide HFr a1 c1 b1 d1 _ (unhide HB)).mono ?_
    rintro e w6 ⟨rfl, hb6⟩
    have hsz := hb6.size
    have HK := hide (blk_below (unhide HK) hb6 (blk_lt (unhide HK)))
    have HX := hide ((unhide HX).below hb6)
    have HP1 := hide ((unhide HP1).below hb6)
    have HQ1 := hide ((unhide HQ1).below hb6)
    have HB := hide ((unhide HB).trans (hb6.mono (by omega)))
    have hBs : B + 1 ≤ w6.heap.size := by omega
    clear hb6 hsz
    clear HP1 HQ1
    clear HSW HPW HQW HX HOw HPa HPo HFr HK
    go_wp2
    go_ret
    exact ⟨rfl, bel_atN (unhide HBE) (unhide HB)⟩
  obtain ⟨hR, h1, _⟩ := cE_zero hE
  have hE2 : cE W H n ((M + 1 : Nat) : Int) = 0 := cE_right hR (by omega) (by omega)
  have HFr := hide (fun a1 c1 b1 d1 (r : Nat → Px) wr (hb : Below B w wr) (hp : IsPx wr a1 n p) (hq : IsPx wr b1 M r) => far_ok W H a1 n c1 p b1 M d1 r wr A (unhide HSW wr hb) hp hq (by omega) hE)
  have HFw := hide (fun a1 c1 b1 d1 (r : Nat → Px) wr (hb : Below B w wr) (hp : IsPx wr a1 n p) (hq : IsPx wr b1 (M + 1) r) => far_ok W H a1 n c1 p b1 (M + 1) d1 r wr A (unhide HSW wr hb) hp hq (by omega) hE2)
  have HBe := hide (fun a1 c1 b1 d1 wr (hb : Below B w wr) (hp : IsPx wr a1 n p) (hq : IsPx wr b1 M q) => better_ok W H a1 n c1 p b1 M d1 q wr A (unhide HSW wr hb) hp hq (by omega) hE)
  have g1 := lloyd p q n (M - 1)
  have g2 := one_more p q (moreP q M x) n (M - 1) (fun j hj => if_pos (by omega))
  rw [show M - 1 + 1 = M + 1 - 1 by omega] at g2
  generalize btP p q n (M - 1) = bt at *
  have HF1 := hide (fun a1 c1 b1 d1 wr hb hp hq => unhide HFr a1 c1 b1 d1 q wr hb hp hq)
  have HF2 := hide (fun a1 c1 b1 d1 wr hb hp hq => unhide HFr a1 c1 b1 d1 bt wr hb hp hq)
  have HF3 := hide (fun a1 c1 b1 d1 wr hb hp hq => unhide HFw a1 c1 b1 d1 (moreP q M x) wr hb hp hq)
  clear HFr HFw hE hE2 hR
  generalize farN p q n (M - 1) = fa at *
  generalize farN p bt n (M - 1) = fb at *
  generalize farN p (moreP q M x) n (M + 1 - 1) = fc at *
  have e1 : decide ((fb : Int) ≤ (fa : Int)) = true := decide_eq_true (by omega)
  have e2 : decide ((fc : Int) ≤ (fa : Int)) = true := decide_eq_true (by omega)
  have e1n : decide (fb ≤ fa) = true := decide_eq_true g1
  have e2n : decide (fc ≤ fa) = true := decide_eq_true g2
  have d0 : w3.cell? ⟨B, 0, none⟩ = some (.int .i64 W) := blk_cell (unhide HK) 0
  have d1 : w3.cell? ⟨B, 1, none⟩ = some (.int .i64 H) := blk_cell (unhide HK) 1
  have d2 : w3.cell? ⟨B, 2, none⟩ = some (.slice a n c) := blk_cell (unhide HK) 2
  go_wp2_with fail
  clear d0 d1 d2
  refine (unhide HOw _ (unhide HB)).mono ?_
  rintro e w4 ⟨a1, c1, rfl, hp1, hb4⟩
  have HP1 := hide hp1
  clear hp1
  have hsz := hb4.size
  have HK := hide (blk_below (unhide HK) hb4 (blk_lt (unhide HK)))
  have HX := hide ((unhide HX).below hb4)
  have HB := hide ((unhide HB).trans (hb4.mono (by omega)))
  have hBs : B + 1 ≤ w4.heap.size := by omega
  clear hb4 hsz
  go_wp2_with fail
  refine (unhide HPa _ (unhide HB)).mono ?_
  rintro e w5 ⟨b1, d1, rfl, hq1, hb5⟩
  have HQ1 := hide hq1
  clear hq1
  have hsz := hb5.size
  have HK := hide (blk_below (unhide HK) hb5 (blk_lt (unhide HK)))
  have HX := hide ((unhide HX).below hb5)
  have HP1 := hide ((unhide HP1).below hb5)
  have HB := hide ((unhide HB).trans (hb5.mono (by omega)))
  have hBs : B + 1 ≤ w5.heap.size := by omega
  clear hb5 hsz
  go_wp2_with fail
  refine (unhide HF1 a1 c1 b1 d1 _ (unhide HB) (unhide HP1) (unhide HQ1)).mono ?_
  rintro e w6 ⟨rfl, hb6⟩
  have hsz := hb6.size
  have HK := hide (blk_below (unhide HK) hb6 (blk_lt (unhide HK)))
  have HX := hide ((unhide HX).below hb6)
  have HP1 := hide ((unhide HP1).below hb6)
  have HQ1 := hide ((unhide HQ1).below hb6)
  have HB := hide ((unhide HB).trans (hb6.mono (by omega)))
  have hBs : B + 1 ≤ w6.heap.size := by omega
  clear hb6 hsz
  clear HP1 HQ1
  have d0 : w6.cell? ⟨B, 0, none⟩ = some (.int .i64 W) := blk_cell (unhide HK) 0
  have d1 : w6.cell? ⟨B, 1, none⟩ = some (.int .i64 H) := blk_cell (unhide HK) 1
  have d2 : w6.cell? ⟨B, 2, none⟩ = some (.slice a n c) := blk_cell (unhide HK) 2
  go_wp2_with fail
  clear d0 d1 d2
  refine (unhide HOw _ (unhide HB)).mono ?_
  rintro e w7 ⟨a2, c2, rfl, hp2, hb7⟩
  have HP2 := hide hp2
  clear hp2
  have hsz := hb7.size
  have HK := hide (blk_below (unhide HK) hb7 (blk_lt (unhide HK)))
  have HX := hide ((unhide HX).below hb7)
  have HB := hide ((unhide HB).trans (hb7.mono (by omega)))
  have hBs : B + 1 ≤ w7.heap.size := by omega
  clear hb7 hsz
  go_wp2_with fail
  refine (unhide HPa _ (unhide HB)).mono ?_
  rintro e w8 ⟨b2, d2, rfl, hq2, hb8⟩
  have HQ2 := hide hq2
  clear hq2
  have hsz := hb8.size
  have HK := hide (blk_below (unhide HK) hb8 (blk_lt (unhide HK)))
  have HX := hide ((unhide HX).below hb8)
  have HP2 := hide ((unhide HP2).below hb8)
  have HB := hide ((unhide HB).trans (hb8.mono (by omega)))
  have hBs : B + 1 ≤ w8.heap.size := by omega
  clear hb8 hsz
  go_wp2_with fail
  refine (unhide HBe a2 c2 b2 d2 _ (unhide HB) (unhide HP2) (unhide HQ2)).mono ?_
  rintro e w9 ⟨a5, c5, rfl, hp5, hb9⟩
  have HP5 := hide hp5
  clear hp5
  have hsz := hb9.size
  have HK := hide (blk_below (unhide HK) hb9 (blk_lt (unhide HK)))
  have HX := hide ((unhide HX).below hb9)
  have HP2 := hide ((unhide HP2).below hb9)
  have HQ2 := hide ((unhide HQ2).below hb9)
  have HB := hide ((unhide HB).trans (hb9.mono (by omega)))
  have hBs : B + 1 ≤ w9.heap.size := by omega
  clear hb9 hsz
  clear HP2 HQ2
  have d0 : w9.cell? ⟨B, 0, none⟩ = some (.int .i64 W) := blk_cell (unhide HK) 0
  have d1 : w9.cell? ⟨B, 1, none⟩ = some (.int .i64 H) := blk_cell (unhide HK) 1
  have d2 : w9.cell? ⟨B, 2, none⟩ = some (.slice a n c) := blk_cell (unhide HK) 2
  go_wp2_with fail
  clear d0 d1 d2
  refine (unhide HOw _ (unhide HB)).mono ?_
  rintro e w10 ⟨a3, c3, rfl, hp3, hb10⟩
  have HP3 := hide hp3
  clear hp3
  have hsz := hb10.size
  have HK := hide (blk_below (unhide HK) hb10 (blk_lt (unhide HK)))
  have HX := hide ((unhide HX).below hb10)
  have HP5 := hide ((unhide HP5).below hb10)
  have HB := hide ((unhide HB).trans (hb10.mono (by omega)))
  have hBs : B + 1 ≤ w10.heap.size := by omega
  clear hb10 hsz
  go_wp2_with fail
  refine (unhide HF2 a3 c3 a5 c5 _ (unhide HB) (unhide HP3) (unhide HP5)).mono ?_
  rintro e w11 ⟨rfl, hb11⟩
  have hsz := hb11.size
  have HK := hide (blk_below (unhide HK) hb11 (blk_lt (unhide HK)))
  have HX := hide ((unhide HX).below hb11)
  have HP5 := hide ((unhide HP5).below hb11)
  have HP3 := hide ((unhide HP3).below hb11)
  have HB := hide ((unhide HB).trans (hb11.mono (by omega)))
  have hBs : B + 1 ≤ w11.heap.size := by omega
  clear hb11 hsz
  clear HP3 HP5
  go_wp2_with fail
  obtain ⟨C, hC⟩ : ∃ C, C = w11.heap.size := ⟨_, rfl⟩
  have hX1 := blk_lt (unhide HX).blk
  refine (unhide HPo _ (unhide HB)).mono ?_
  rintro e w12 ⟨a6, c6, rfl, ho6, hb12⟩
  rw [firstL_vals, ← hC] at ho6
  have HO6 := hide ho6
  have hCB : B + 2 ≤ C := by omega
  have hCw : C ≤ w12.heap.size := by rw [hC]; exact hb12.size
  clear ho6 hC hX1
  have hsz := hb12.size
  have HK := hide (blk_below (unhide HK) hb12 (blk_lt (unhide HK)))
  have HX := hide ((unhide HX).below hb12)
  have HB := hide ((unhide HB).trans (hb12.mono (by omega)))
  have hBs : B + 1 ≤ w12.heap.size := by omega
  clear hb12 hsz
  have z0 : w12.cell? ⟨B + 1, 0, none⟩ = some (.int .u8 (x.r.toNat : Int)) := blk_cell (unhide HX).blk 0
  have z1 : w12.cell? ⟨B + 1, 1, none⟩ = some (.int .u8 (x.g.toNat : Int)) := blk_cell (unhide HX).blk 1
  have z2 : w12.cell? ⟨B + 1, 2, none⟩ = some (.int .u8 (x.b.toNat : Int)) := blk_cell (unhide HX).blk 2
  have z3 : w12.cell? ⟨B + 1, 3, none⟩ = some (.int .u8 (x.a.toNat : Int)) := blk_cell (unhide HX).blk 3
  have HA7 := hide (al1 w12 (.cells #[.int .u8 (x.r.toNat : Int), .int .u8 (x.g.toNat : Int), .int .u8 (x.b.toNat : Int), .int .u8 (x.a.toNat : Int)] 40))
  have HF7 := hide (four_new w12 x 40)
  have HO7 := hide ((unhide HO6).alloc (.cells #[.int .u8 (x.r.toNat : Int), .int .u8 (x.g.toNat : Int), .int .u8 (x.b.toNat : Int), .int .u8 (x.a.toNat : Int)] 40))
  have HKa := hide (blk_alloc (unhide HK) (.cells #[.int .u8 (x.r.toNat : Int), .int .u8 (x.g.toNat : Int), .int .u8 (x.b.toNat : Int), .int .u8 (x.a.toNat : Int)] 40))
  have HXa := hide (blk_alloc (unhide HX).blk (.cells #[.int .u8 (x.r.toNat : Int), .int .u8 (x.g.toNat : Int), .int .u8 (x.b.toNat : Int), .int .u8 (x.a.toNat : Int)] 40))
  clear HO6
  go_wp2_with (at_builtin; refine wpList_appPx1 _ rfl (.tmp 59) (.tmp 61) rfl C w12.heap.size (.slice a6 M c6) (firstL q M) x rfl rfl (by rw [firstL_length]; exact unhide HO7) (unhide HF7) (by rw [firstL_length]; omega) (by have := (unhide HA7).size; omega) ?_)
  intro v8 w8x ho8 hg8 hat8
  obtain ⟨hs7, _, hb7⟩ := unhide HA7
  have hz8 := hg8.size
  have hno : ∀ z, (Value.slice a6 M c6).ownBlock = some z → C ≤ z := fun z e => ((unhide HO7).lt z e).1
  have hl8 : (firstL q M ++ [x]).length = M + 1 := by rw [List.length_append, firstL_length]; rfl
  have hl9 : (firstL q M).length + 1 = M + 1 := by rw [firstL_length]
  rw [firstL_more] at ho8
  first | rw [hl8] at ho8 | rw [hl9] at ho8
  obtain ⟨a8, c8, rfl⟩ := own_shape4 ho8
  have HQ8 := hide (own_px ho8 (by unfold maxLen; omega))
  have HK := hide ((hg8.block B (by omega) (fun e => by have := hno B e.symm; omega)).trans (unhide HKa))
  have HX := hide (show B2 w8x B x from ⟨(hg8.block (B + 1) (by have := blk_lt (unhide HXa); omega) (fun e => by have := hno (B + 1) e.symm; omega)).trans (unhide HXa)⟩)
  have HB := hide (((unhide HB).trans (hb7.mono (by omega))).grown hg8 (by omega) (fun z e => by have := hno z e; omega))
  have hBs : B + 1 ≤ w8x.heap.size := by omega
  clear ho8 hg8 hat8 hno hb7 hs7 hz8 HA7 HF7 HO7 HKa HXa z0 z1 z2 z3 hl8 hl9
  have d0 : w8x.cell? ⟨B, 0, none⟩ = some (.int .i64 W) := blk_cell (unhide HK) 0
  have d1 : w8x.cell? ⟨B, 1, none⟩ = some (.int .i64 H) := blk_cell (unhide HK) 1
  have d2 : w8x.cell? ⟨B, 2, none⟩ = some (.slice a n c) := blk_cell (unhide HK) 2
  go_wp2_with fail
  clear d0 d1 d2
  refine (unhide HOw _ (unhide HB)).mono ?_
  rintro e w13 ⟨a9, c9, rfl, hp9, hb13⟩
  have HP9 := hide hp9
  clear hp9
  have hsz := hb13.size
  have HK := hide (blk_below (unhide HK) hb13 (blk_lt (unhide HK)))
  have HX := hide ((unhide HX).below hb13)
  have HQ8 := hide ((unhide HQ8).below hb13)
  have HB := hide ((unhide HB).trans (hb13.mono (by omega)))
  have hBs : B + 1 ≤ w13.heap.size := by omega
  clear hb13 hsz
  go_wp2_with fail
  refine (unhide HF3 a9 c9 a8 c8 _ (unhide HB) (unhide HP9) (unhide HQ8)).mono ?_
  rintro e w14 ⟨rfl, hb14⟩
  have hsz := hb14.size
  have HK := hide (blk_below (unhide HK) hb14 (blk_lt (unhide HK)))
  have HX := hide ((unhide HX).below hb14)
  have HQ8 := hide ((unhide HQ8).below hb14)
  have HP9 := hide ((unhide HP9).below hb14)
  have HB := hide ((unhide HB).trans (hb14.mono (by omega)))
  have hBs : B + 1 ≤ w14.heap.size := by omega
  clear hb14 hsz
  clear HP9 HQ8
  clear HSW HPW HQW HX HOw HPa HPo HF1 HF2 HF3 HBe HK
  go_wp2
  go_ret
  exact ⟨rfl, bel_atN (unhide HBE) (unhide HB)⟩
end Go.Proofs.YtpfobocdbmiagaaDoor
