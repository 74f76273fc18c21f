/- Pixels of any picture by any palette; how far they are; a better one: the law. -/
import Derived.Test.YtpfobocdbmiagaaDoorCm4
import Derived.Test.YtpfobocdbmiagaaDoorCm5
import Derived.Test.YtpfobocdbmiagaaDoorMg6
namespace Go.Proofs.YtpfobocdbmiagaaDoor
open Go.RowKit
theorem bel_atM {B : Nat} {w w' : World} (h : B = w.heap.size) (hb : Below B w w') : Below w.heap.size w w' := h ▸ hb
theorem right_posM {W H : Int} {n : Nat} (h : RightP W H n) : 1 ≤ n := by
  have h1 := Int.mul_pos (show 0 < W by have := h.1.1; omega) (show 0 < H by have := h.2.1.1; omega)
  have h2 := h.2.2
  omega

set_option maxHeartbeats 16000000 in
set_option maxRecDepth 100000 in
theorem colorsMap_any (W H : Int) (a : Option Addr) (n c : Nat) (p : Nat → Px) (b : Option Addr) (M d : Nat) (q : Nat → Px) (w : World) (A : Nat → Addr) (hS : Sent w A) (hP : IsPx w a n p) (_bW : -9223372036854775808 ≤ W ∧ W ≤ 9223372036854775807) (_bH : -9223372036854775808 ≤ H ∧ H ≤ 9223372036854775807) (hQ : IsPx w b M q) :
    Calls Tryd.prog 4 #[.agg #[.int .i64 W, .int .i64 H, .slice a n c], .slice b M d] w fun e w' => e = .returned (.bool true) ∧ Below w.heap.size w w' := by
  have HSW := hide (fun wr (hb : Below w.heap.size w wr) => hS.below hb)
  have HPW := hide (fun wr (hb : Below w.heap.size w wr) => hP.below hb)
  have HQW := hide (fun wr (hb : Below w.heap.size w wr) => hQ.below hb)
  clear hQ
  have hHA0 := hide (al1 w (.cells #[.int .i64 W, .int .i64 H, .slice a n c] 24))
  obtain ⟨B, hB⟩ : ∃ B, B = w.heap.size := ⟨_, rfl⟩
  clear hS hP _bW _bH
  go_enter Tryd.func4, Tryd.ntmps4
  go_wp2_with fail
  generalize w.alloc (.cells #[.int .i64 W, .int .i64 H, .slice a n c] 24) = w1 at *
  rw [← hB] at HSW HPW HQW hHA0 ⊢
  obtain ⟨hs0, kB, hb0⟩ := unhide hHA0
  have HK := hide kB
  have HB := hide hb0
  have HBE := hide hB
  have hBs : B + 1 ≤ w1.heap.size := by omega
  clear hHA0 hb0 hs0 hB kB
  refine (grey_any _).mono ?_
  rintro e w2 ⟨rfl, hb2⟩
  have hsz := hb2.size
  have HK := hide (blk_below (unhide HK) hb2 (blk_lt (unhide HK)))
  have HB := hide ((unhide HB).trans (hb2.mono (by omega)))
  have hBs : B + 1 ≤ w2.heap.size := by omega
  clear hb2 hsz
  by_cases hn3 : n ≤ 3000
  rotate_left
  · have HSm := hide (fun w' => small3_any W H a n c w')
    rw [decide_eq_false hn3] at HSm
    have HSm := HSm
    have d0 : w2.cell? ⟨B, 0, none⟩ = some (.int .i64 W) := blk_cell (unhide HK) 0
    have d1 : w2.cell? ⟨B, 1, none⟩ = some (.int .i64 H) := blk_cell (unhide HK) 1
    have d2 : w2.cell? ⟨B, 2, none⟩ = some (.slice a n c) := blk_cell (unhide HK) 2
    go_wp2_with fail
    clear d0 d1 d2
    refine (unhide HSm _).mono ?_
    rintro e w3 ⟨rfl, hb3⟩
    have hsz := hb3.size
    have HK := hide (blk_below (unhide HK) hb3 (blk_lt (unhide HK)))
    have HB := hide ((unhide HB).trans (hb3.mono (by omega)))
    have hBs : B + 1 ≤ w3.heap.size := by omega
    clear hb3 hsz
    clear HSW HPW HQW HK
    go_wp2
    go_ret
    exact ⟨rfl, bel_atM (unhide HBE) (unhide HB)⟩
  have HSm := hide (fun w' => small3_any W H a n c w')
  rw [decide_eq_true hn3] at HSm
  have d0 : w2.cell? ⟨B, 0, none⟩ = some (.int .i64 W) := blk_cell (unhide HK) 0
  have d1 : w2.cell? ⟨B, 1, none⟩ = some (.int .i64 H) := blk_cell (unhide HK) 1
  have d2 : w2.cell? ⟨B, 2, none⟩ = some (.slice a n c) := blk_cell (unhide HK) 2
  go_wp2_with fail
  clear d0 d1 d2
  refine (unhide HSm _).mono ?_
  rintro e w3 ⟨rfl, hb3⟩
  have hsz := hb3.size
  have HK := hide (blk_below (unhide HK) hb3 (blk_lt (unhide HK)))
  have HB := hide ((unhide HB).trans (hb3.mono (by omega)))
  have hBs : B + 1 ≤ w3.heap.size := by omega
  clear hb3 hsz
  clear HSm
  by_cases h300 : M ≤ 300
  rotate_left
  · skip
    have fz0 : decide ((M : Int) > 40) = true := decide_eq_true (by omega)
    have fz1 : decide ((40 : Int) < (M : Int)) = true := decide_eq_true (by omega)
    have fz2 : decide (40 < M) = true := decide_eq_true (by omega)
    have fz3 : decide ((M : Int) ≤ 256) = false := decide_eq_false (by omega)
    have fz4 : decide (M ≤ 256) = false := decide_eq_false (by omega)
    have fz5 : decide ((M : Int) > 300) = true := decide_eq_true (by omega)
    have fz6 : decide ((300 : Int) < (M : Int)) = true := decide_eq_true (by omega)
    have fz7 : decide (300 < M) = true := decide_eq_true (by omega)
    clear HSW HPW HQW HK
    go_wp2
    go_ret
    exact ⟨rfl, bel_atM (unhide HBE) (unhide HB)⟩
  by_cases h4 : 40 < M ∧ M ≤ 256
  · skip
    have fz0 : decide ((M : Int) > 40) = true := decide_eq_true (by omega)
    have fz1 : decide ((40 : Int) < (M : Int)) = true := decide_eq_true (by omega)
    have fz2 : decide (40 < M) = true := decide_eq_true (by omega)
    have fz3 : decide ((M : Int) ≤ 256) = true := decide_eq_true (by omega)
    have fz4 : decide (M ≤ 256) = true := decide_eq_true (by omega)
    clear HSW HPW HQW HK
    go_wp2
    go_ret
    exact ⟨rfl, bel_atM (unhide HBE) (unhide HB)⟩
  have HOw := hide (fun wr (hb : Below B w wr) => own_isPx W H a n c p wr (unhide HPW wr hb) (by omega))
  have HPa := hide (fun wr (hb : Below B w wr) => paletteC_any b M d q wr (unhide HQW wr hb) (by omega))
  have HRi := hide (fun w' => pright_any W H a n c w')
  have HTd := hide (fun wr (hb : Below B w wr) => (show Told wr [1, 2] A from fun i hi => (unhide HSW wr hb).cell i (by simp at hi; omega)))
  by_cases hR : RightP W H n
  rotate_left
  · have hE : cE W H n (M : Int) = 3 := cE_shape hR
    rw [decide_eq_false hR] at HRi
    clear hR
    rcases (show (M < 1 ∧ M ≤ 40) ∨ (1 ≤ M ∧ M ≤ 40) ∨ 256 < M by omega) with hm | hm | hm
    · skip
      have HMp : Hid (∀ a1 c1 b1 d1 wr, Below B w wr → Calls Tryd.prog 18 #[.agg #[.int .i64 W, .int .i64 H, .slice a1 n c1], .slice b1 M d1] wr fun e w' => e = .returned (.tuple #[.slice none 0 0, sentV A 2]) ∧ Below wr.heap.size wr w') := fun a1 c1 b1 d1 wr hb => by have h := map_err W H a1 n c1 b1 M d1 wr A (unhide HTd wr hb) (by rw [hE]; omega); rw [hE] at h; exact h
      have HFr : Hid (∀ a1 c1 b1 d1 wr, Below B w wr → Calls Tryd.prog 20 #[.agg #[.int .i64 W, .int .i64 H, .slice a1 n c1], .slice b1 M d1] wr fun e w' => e = .returned (.tuple #[.int .i64 0, sentV A 2]) ∧ Below wr.heap.size wr w') := fun a1 c1 b1 d1 wr hb => by have h := far_err W H a1 n c1 b1 M d1 wr A (unhide HTd wr hb) (by rw [hE]; omega); rw [hE] at h; exact h
      have HBe : Hid (∀ a1 c1 b1 d1 wr, Below B w wr → Calls Tryd.prog 21 #[.agg #[.int .i64 W, .int .i64 H, .slice a1 n c1], .slice b1 M d1] wr fun e w' => e = .returned (.tuple #[.slice none 0 0, sentV A 2]) ∧ Below wr.heap.size wr w') := fun a1 c1 b1 d1 wr hb => by have h := better_err W H a1 n c1 b1 M d1 wr A (unhide HTd wr hb) (by rw [hE]; omega); rw [hE] at h; exact h
      have HCo := hide (fun wr (hb : Below B w wr) => coded3_sent 2 3 wr A (unhide HSW wr hb) (by omega) rfl)
      clear hE HTd
      generalize sentV A 2 = sv at *
      have fz0 : decide ((M : Int) < 1) = true := decide_eq_true (by omega)
      have fz1 : decide (M < 1) = true := decide_eq_true (by omega)
      have fz2 : decide ((M : Int) > 40) = false := decide_eq_false (by omega)
      have fz3 : decide ((40 : Int) < (M : Int)) = false := decide_eq_false (by omega)
      have fz4 : decide (40 < M) = false := decide_eq_false (by omega)
      have fz5 : decide ((M : Int) > 300) = false := decide_eq_false (by omega)
      have fz6 : decide ((300 : Int) < (M : Int)) = false := decide_eq_false (by omega)
      have fz7 : decide (300 < M) = false := decide_eq_false (by omega)
      have fz8 : decide ((M : Int) > 256) = false := decide_eq_false (by omega)
      have fz9 : decide ((256 : Int) < (M : Int)) = false := decide_eq_false (by omega)
      have fz10 : decide (256 < M) = false := decide_eq_false (by omega)
      clear h300 h4
      have d0 : w3.cell? ⟨B, 0, none⟩ = some (.int .i64 W) := blk_cell (unhide HK) 0
      have d1 : w3.cell? ⟨B, 1, none⟩ = some (.int .i64 H) := blk_cell (unhide HK) 1
      have d2 : w3.cell? ⟨B, 2, none⟩ = some (.slice a n c) := blk_cell (unhide HK) 2
      go_wp2_with fail
      clear d0 d1 d2
      refine (unhide HOw _ (unhide HB)).mono ?_
      rintro e w4 ⟨a1, c1, rfl, hp1, hb4⟩
      have HP1 := hide hp1
      clear hp1
      have hsz := hb4.size
      have HK := hide (blk_below (unhide HK) hb4 (blk_lt (unhide HK)))
      have HB := hide ((unhide HB).trans (hb4.mono (by omega)))
      have hBs : B + 1 ≤ w4.heap.size := by omega
      clear hb4 hsz
      go_wp2_with fail
      refine (unhide HPa _ (unhide HB)).mono ?_
      rintro e w5 ⟨b1, d1, rfl, hq1, hb5⟩
      have HQ1 := hide hq1
      clear hq1
      have hsz := hb5.size
      have HK := hide (blk_below (unhide HK) hb5 (blk_lt (unhide HK)))
      have HP1 := hide ((unhide HP1).below hb5)
      have HB := hide ((unhide HB).trans (hb5.mono (by omega)))
      have hBs : B + 1 ≤ w5.heap.size := by omega
      clear hb5 hsz
      go_wp2_with fail
      refine (unhide HMp a1 c1 b1 d1 _ (unhide HB)).mono ?_
      rintro e w6 ⟨rfl, hb6⟩
      have hsz := hb6.size
      have HK := hide (blk_below (unhide HK) hb6 (blk_lt (unhide HK)))
      have HP1 := hide ((unhide HP1).below hb6)
      have HQ1 := hide ((unhide HQ1).below hb6)
      have HB := hide ((unhide HB).trans (hb6.mono (by omega)))
      have hBs : B + 1 ≤ w6.heap.size := by omega
      clear hb6 hsz
      clear HP1 HQ1
      have d0 : w6.cell? ⟨B, 0, none⟩ = some (.int .i64 W) := blk_cell (unhide HK) 0
      have d1 : w6.cell? ⟨B, 1, none⟩ = some (.int .i64 H) := blk_cell (unhide HK) 1
      have d2 : w6.cell? ⟨B, 2, none⟩ = some (.slice a n c) := blk_cell (unhide HK) 2
      go_wp2_with fail
      clear d0 d1 d2
      refine (unhide HOw _ (unhide HB)).mono ?_
      rintro e w7 ⟨a2, c2, rfl, hp2, hb7⟩
      have HP2 := hide hp2
      clear hp2
      have hsz := hb7.size
      have HK := hide (blk_below (unhide HK) hb7 (blk_lt (unhide HK)))
      have HB := hide ((unhide HB).trans (hb7.mono (by omega)))
      have hBs : B + 1 ≤ w7.heap.size := by omega
      clear hb7 hsz
      go_wp2_with fail
      refine (unhide HPa _ (unhide HB)).mono ?_
      rintro e w8 ⟨b2, d2, rfl, hq2, hb8⟩
      have HQ2 := hide hq2
      clear hq2
      have hsz := hb8.size
      have HK := hide (blk_below (unhide HK) hb8 (blk_lt (unhide HK)))
      have HP2 := hide ((unhide HP2).below hb8)
      have HB := hide ((unhide HB).trans (hb8.mono (by omega)))
      have hBs : B + 1 ≤ w8.heap.size := by omega
      clear hb8 hsz
      go_wp2_with fail
      refine (unhide HFr a2 c2 b2 d2 _ (unhide HB)).mono ?_
      rintro e w9 ⟨rfl, hb9⟩
      have hsz := hb9.size
      have HK := hide (blk_below (unhide HK) hb9 (blk_lt (unhide HK)))
      have HP2 := hide ((unhide HP2).below hb9)
      have HQ2 := hide ((unhide HQ2).below hb9)
      have HB := hide ((unhide HB).trans (hb9.mono (by omega)))
      have hBs : B + 1 ≤ w9.heap.size := by omega
      clear hb9 hsz
      clear HP2 HQ2
      have d0 : w9.cell? ⟨B, 0, none⟩ = some (.int .i64 W) := blk_cell (unhide HK) 0
      have d1 : w9.cell? ⟨B, 1, none⟩ = some (.int .i64 H) := blk_cell (unhide HK) 1
      have d2 : w9.cell? ⟨B, 2, none⟩ = some (.slice a n c) := blk_cell (unhide HK) 2
      go_wp2_with fail
      clear d0 d1 d2
      refine (unhide HOw _ (unhide HB)).mono ?_
      rintro e w10 ⟨a3, c3, rfl, hp3, hb10⟩
      have HP3 := hide hp3
      clear hp3
      have hsz := hb10.size
      have HK := hide (blk_below (unhide HK) hb10 (blk_lt (unhide HK)))
      have HB := hide ((unhide HB).trans (hb10.mono (by omega)))
      have hBs : B + 1 ≤ w10.heap.size := by omega
      clear hb10 hsz
      go_wp2_with fail
      refine (unhide HPa _ (unhide HB)).mono ?_
      rintro e w11 ⟨b3, d3, rfl, hq3, hb11⟩
      have HQ3 := hide hq3
      clear hq3
      have hsz := hb11.size
      have HK := hide (blk_below (unhide HK) hb11 (blk_lt (unhide HK)))
      have HP3 := hide ((unhide HP3).below hb11)
      have HB := hide ((unhide HB).trans (hb11.mono (by omega)))
      have hBs : B + 1 ≤ w11.heap.size := by omega
      clear hb11 hsz
      go_wp2_with fail
      refine (unhide HBe a3 c3 b3 d3 _ (unhide HB)).mono ?_
      rintro e w12 ⟨rfl, hb12⟩
      have hsz := hb12.size
      have HK := hide (blk_below (unhide HK) hb12 (blk_lt (unhide HK)))
      have HP3 := hide ((unhide HP3).below hb12)
      have HQ3 := hide ((unhide HQ3).below hb12)
      have HB := hide ((unhide HB).trans (hb12.mono (by omega)))
      have hBs : B + 1 ≤ w12.heap.size := by omega
      clear hb12 hsz
      clear HP3 HQ3
      have d0 : w12.cell? ⟨B, 0, none⟩ = some (.int .i64 W) := blk_cell (unhide HK) 0
      have d1 : w12.cell? ⟨B, 1, none⟩ = some (.int .i64 H) := blk_cell (unhide HK) 1
      have d2 : w12.cell? ⟨B, 2, none⟩ = some (.slice a n c) := blk_cell (unhide HK) 2
      go_wp2_with fail
      clear d0 d1 d2
      refine (unhide HRi _).mono ?_
      rintro e w13 ⟨rfl, hb13⟩
      have hsz := hb13.size
      have HK := hide (blk_below (unhide HK) hb13 (blk_lt (unhide HK)))
      have HB := hide ((unhide HB).trans (hb13.mono (by omega)))
      have hBs : B + 1 ≤ w13.heap.size := by omega
      clear hb13 hsz
      go_wp2_with fail
      refine (unhide HCo _ (unhide HB)).mono ?_
      rintro e w14 ⟨rfl, hb14⟩
      have hsz := hb14.size
      have HK := hide (blk_below (unhide HK) hb14 (blk_lt (unhide HK)))
      have HB := hide ((unhide HB).trans (hb14.mono (by omega)))
      have hBs : B + 1 ≤ w14.heap.size := by omega
      clear hb14 hsz
      go_wp2_with fail
      refine (unhide HCo _ (unhide HB)).mono ?_
      rintro e w15 ⟨rfl, hb15⟩
      have hsz := hb15.size
      have HK := hide (blk_below (unhide HK) hb15 (blk_lt (unhide HK)))
      have HB := hide ((unhide HB).trans (hb15.mono (by omega)))
      have hBs : B + 1 ≤ w15.heap.size := by omega
      clear hb15 hsz
      go_wp2_with fail
      refine (unhide HCo _ (unhide HB)).mono ?_
      rintro e w16 ⟨rfl, hb16⟩
      have hsz := hb16.size
      have HK := hide (blk_below (unhide HK) hb16 (blk_lt (unhide HK)))
      have HB := hide ((unhide HB).trans (hb16.mono (by omega)))
      have hBs : B + 1 ≤ w16.heap.size := by omega
      clear hb16 hsz
      clear HSW HPW HQW HOw HPa HRi HMp HFr HBe HCo HK
      go_wp2
      go_ret
      exact ⟨rfl, bel_atM (unhide HBE) (unhide HB)⟩
    · skip
      have HMp : Hid (∀ a1 c1 b1 d1 wr, Below B w wr → Calls Tryd.prog 18 #[.agg #[.int .i64 W, .int .i64 H, .slice a1 n c1], .slice b1 M d1] wr fun e w' => e = .returned (.tuple #[.slice none 0 0, sentV A 2]) ∧ Below wr.heap.size wr w') := fun a1 c1 b1 d1 wr hb => by have h := map_err W H a1 n c1 b1 M d1 wr A (unhide HTd wr hb) (by rw [hE]; omega); rw [hE] at h; exact h
      have HFr : Hid (∀ a1 c1 b1 d1 wr, Below B w wr → Calls Tryd.prog 20 #[.agg #[.int .i64 W, .int .i64 H, .slice a1 n c1], .slice b1 M d1] wr fun e w' => e = .returned (.tuple #[.int .i64 0, sentV A 2]) ∧ Below wr.heap.size wr w') := fun a1 c1 b1 d1 wr hb => by have h := far_err W H a1 n c1 b1 M d1 wr A (unhide HTd wr hb) (by rw [hE]; omega); rw [hE] at h; exact h
      have HBe : Hid (∀ a1 c1 b1 d1 wr, Below B w wr → Calls Tryd.prog 21 #[.agg #[.int .i64 W, .int .i64 H, .slice a1 n c1], .slice b1 M d1] wr fun e w' => e = .returned (.tuple #[.slice none 0 0, sentV A 2]) ∧ Below wr.heap.size wr w') := fun a1 c1 b1 d1 wr hb => by have h := better_err W H a1 n c1 b1 M d1 wr A (unhide HTd wr hb) (by rw [hE]; omega); rw [hE] at h; exact h
      have HCo := hide (fun wr (hb : Below B w wr) => coded3_sent 2 3 wr A (unhide HSW wr hb) (by omega) rfl)
      clear hE HTd
      generalize sentV A 2 = sv at *
      have fz0 : decide ((M : Int) < 1) = false := decide_eq_false (by omega)
      have fz1 : decide (M < 1) = false := decide_eq_false (by omega)
      have fz2 : decide ((M : Int) > 40) = false := decide_eq_false (by omega)
      have fz3 : decide ((40 : Int) < (M : Int)) = false := decide_eq_false (by omega)
      have fz4 : decide (40 < M) = false := decide_eq_false (by omega)
      have fz5 : decide ((M : Int) > 300) = false := decide_eq_false (by omega)
      have fz6 : decide ((300 : Int) < (M : Int)) = false := decide_eq_false (by omega)
      have fz7 : decide (300 < M) = false := decide_eq_false (by omega)
      have fz8 : decide ((M : Int) > 256) = false := decide_eq_false (by omega)
      have fz9 : decide ((256 : Int) < (M : Int)) = false := decide_eq_false (by omega)
      have fz10 : decide (256 < M) = false := decide_eq_false (by omega)
      clear h300 h4
      have d0 : w3.cell? ⟨B, 0, none⟩ = some (.int .i64 W) := blk_cell (unhide HK) 0
      have d1 : w3.cell? ⟨B, 1, none⟩ = some (.int .i64 H) := blk_cell (unhide HK) 1
      have d2 : w3.cell? ⟨B, 2, none⟩ = some (.slice a n c) := blk_cell (unhide HK) 2
      go_wp2_with fail
      clear d0 d1 d2
      refine (unhide HOw _ (unhide HB)).mono ?_
      rintro e w4 ⟨a1, c1, rfl, hp1, hb4⟩
      have HP1 := hide hp1
      clear hp1
      have hsz := hb4.size
      have HK := hide (blk_below (unhide HK) hb4 (blk_lt (unhide HK)))
      have HB := hide ((unhide HB).trans (hb4.mono (by omega)))
      have hBs : B + 1 ≤ w4.heap.size := by omega
      clear hb4 hsz
      go_wp2_with fail
      refine (unhide HPa _ (unhide HB)).mono ?_
      rintro e w5 ⟨b1, d1, rfl, hq1, hb5⟩
      have HQ1 := hide hq1
      clear hq1
      have hsz := hb5.size
      have HK := hide (blk_below (unhide HK) hb5 (blk_lt (unhide HK)))
      have HP1 := hide ((unhide HP1).below hb5)
      have HB := hide ((unhide HB).trans (hb5.mono (by omega)))
      have hBs : B + 1 ≤ w5.heap.size := by omega
      clear hb5 hsz
      go_wp2_with fail
      refine (unhide HMp a1 c1 b1 d1 _ (unhide HB)).mono ?_
      rintro e w6 ⟨rfl, hb6⟩
      have hsz := hb6.size
      have HK := hide (blk_below (unhide HK) hb6 (blk_lt (unhide HK)))
      have HP1 := hide ((unhide HP1).below hb6)
      have HQ1 := hide ((unhide HQ1).below hb6)
      have HB := hide ((unhide HB).trans (hb6.mono (by omega)))
      have hBs : B + 1 ≤ w6.heap.size := by omega
      clear hb6 hsz
      clear HP1 HQ1
      have d0 : w6.cell? ⟨B, 0, none⟩ = some (.int .i64 W) := blk_cell (unhide HK) 0
      have d1 : w6.cell? ⟨B, 1, none⟩ = some (.int .i64 H) := blk_cell (unhide HK) 1
      have d2 : w6.cell? ⟨B, 2, none⟩ = some (.slice a n c) := blk_cell (unhide HK) 2
      go_wp2_with fail
      clear d0 d1 d2
      refine (unhide HOw _ (unhide HB)).mono ?_
      rintro e w7 ⟨a2, c2, rfl, hp2, hb7⟩
      have HP2 := hide hp2
      clear hp2
      have hsz := hb7.size
      have HK := hide (blk_below (unhide HK) hb7 (blk_lt (unhide HK)))
      have HB := hide ((unhide HB).trans (hb7.mono (by omega)))
      have hBs : B + 1 ≤ w7.heap.size := by omega
      clear hb7 hsz
      go_wp2_with fail
      refine (unhide HPa _ (unhide HB)).mono ?_
      rintro e w8 ⟨b2, d2, rfl, hq2, hb8⟩
      have HQ2 := hide hq2
      clear hq2
      have hsz := hb8.size
      have HK := hide (blk_below (unhide HK) hb8 (blk_lt (unhide HK)))
      have HP2 := hide ((unhide HP2).below hb8)
      have HB := hide ((unhide HB).trans (hb8.mono (by omega)))
      have hBs : B + 1 ≤ w8.heap.size := by omega
      clear hb8 hsz
      go_wp2_with fail
      refine (unhide HFr a2 c2 b2 d2 _ (unhide HB)).mono ?_
      rintro e w9 ⟨rfl, hb9⟩
      have hsz := hb9.size
      have HK := hide (blk_below (unhide HK) hb9 (blk_lt (unhide HK)))
      have HP2 := hide ((unhide HP2).below hb9)
      have HQ2 := hide ((unhide HQ2).below hb9)
      have HB := hide ((unhide HB).trans (hb9.mono (by omega)))
      have hBs : B + 1 ≤ w9.heap.size := by omega
      clear hb9 hsz
      clear HP2 HQ2
      have d0 : w9.cell? ⟨B, 0, none⟩ = some (.int .i64 W) := blk_cell (unhide HK) 0
      have d1 : w9.cell? ⟨B, 1, none⟩ = some (.int .i64 H) := blk_cell (unhide HK) 1
      have d2 : w9.cell? ⟨B, 2, none⟩ = some (.slice a n c) := blk_cell (unhide HK) 2
      go_wp2_with fail
      clear d0 d1 d2
      refine (unhide HOw _ (unhide HB)).mono ?_
      rintro e w10 ⟨a3, c3, rfl, hp3, hb10⟩
      have HP3 := hide hp3
      clear hp3
      have hsz := hb10.size
      have HK := hide (blk_below (unhide HK) hb10 (blk_lt (unhide HK)))
      have HB := hide ((unhide HB).trans (hb10.mono (by omega)))
      have hBs : B + 1 ≤ w10.heap.size := by omega
      clear hb10 hsz
      go_wp2_with fail
      refine (unhide HPa _ (unhide HB)).mono ?_
      rintro e w11 ⟨b3, d3, rfl, hq3, hb11⟩
      have HQ3 := hide hq3
      clear hq3
      have hsz := hb11.size
      have HK := hide (blk_below (unhide HK) hb11 (blk_lt (unhide HK)))
      have HP3 := hide ((unhide HP3).below hb11)
      have HB := hide ((unhide HB).trans (hb11.mono (by omega)))
      have hBs : B + 1 ≤ w11.heap.size := by omega
      clear hb11 hsz
      go_wp2_with fail
      refine (unhide HBe a3 c3 b3 d3 _ (unhide HB)).mono ?_
      rintro e w12 ⟨rfl, hb12⟩
      have hsz := hb12.size
      have HK := hide (blk_below (unhide HK) hb12 (blk_lt (unhide HK)))
      have HP3 := hide ((unhide HP3).below hb12)
      have HQ3 := hide ((unhide HQ3).below hb12)
      have HB := hide ((unhide HB).trans (hb12.mono (by omega)))
      have hBs : B + 1 ≤ w12.heap.size := by omega
      clear hb12 hsz
      clear HP3 HQ3
      have d0 : w12.cell? ⟨B, 0, none⟩ = some (.int .i64 W) := blk_cell (unhide HK) 0
      have d1 : w12.cell? ⟨B, 1, none⟩ = some (.int .i64 H) := blk_cell (unhide HK) 1
      have d2 : w12.cell? ⟨B, 2, none⟩ = some (.slice a n c) := blk_cell (unhide HK) 2
      go_wp2_with fail
      clear d0 d1 d2
      refine (unhide HRi _).mono ?_
      rintro e w13 ⟨rfl, hb13⟩
      have hsz := hb13.size
      have HK := hide (blk_below (unhide HK) hb13 (blk_lt (unhide HK)))
      have HB := hide ((unhide HB).trans (hb13.mono (by omega)))
      have hBs : B + 1 ≤ w13.heap.size := by omega
      clear hb13 hsz
      go_wp2_with fail
      refine (unhide HCo _ (unhide HB)).mono ?_
      rintro e w14 ⟨rfl, hb14⟩
      have hsz := hb14.size
      have HK := hide (blk_below (unhide HK) hb14 (blk_lt (unhide HK)))
      have HB := hide ((unhide HB).trans (hb14.mono (by omega)))
      have hBs : B + 1 ≤ w14.heap.size := by omega
      clear hb14 hsz
      go_wp2_with fail
      refine (unhide HCo _ (unhide HB)).mono ?_
      rintro e w15 ⟨rfl, hb15⟩
      have hsz := hb15.size
      have HK := hide (blk_below (unhide HK) hb15 (blk_lt (unhide HK)))
      have HB := hide ((unhide HB).trans (hb15.mono (by omega)))
      have hBs : B + 1 ≤ w15.heap.size := by omega
      clear hb15 hsz
      go_wp2_with fail
      refine (unhide HCo _ (unhide HB)).mono ?_
      rintro e w16 ⟨rfl, hb16⟩
      have hsz := hb16.size
      have HK := hide (blk_below (unhide HK) hb16 (blk_lt (unhide HK)))
      have HB := hide ((unhide HB).trans (hb16.mono (by omega)))
      have hBs : B + 1 ≤ w16.heap.size := by omega
      clear hb16 hsz
      clear HSW HPW HQW HOw HPa HRi HMp HFr HBe HCo HK
      go_wp2
      go_ret
      exact ⟨rfl, bel_atM (unhide HBE) (unhide HB)⟩
    · skip
      have HMp : Hid (∀ a1 c1 b1 d1 wr, Below B w wr → Calls Tryd.prog 18 #[.agg #[.int .i64 W, .int .i64 H, .slice a1 n c1], .slice b1 M d1] wr fun e w' => e = .returned (.tuple #[.slice none 0 0, sentV A 2]) ∧ Below wr.heap.size wr w') := fun a1 c1 b1 d1 wr hb => by have h := map_err W H a1 n c1 b1 M d1 wr A (unhide HTd wr hb) (by rw [hE]; omega); rw [hE] at h; exact h
      have HFr : Hid (∀ a1 c1 b1 d1 wr, Below B w wr → Calls Tryd.prog 20 #[.agg #[.int .i64 W, .int .i64 H, .slice a1 n c1], .slice b1 M d1] wr fun e w' => e = .returned (.tuple #[.int .i64 0, sentV A 2]) ∧ Below wr.heap.size wr w') := fun a1 c1 b1 d1 wr hb => by have h := far_err W H a1 n c1 b1 M d1 wr A (unhide HTd wr hb) (by rw [hE]; omega); rw [hE] at h; exact h
      have HBe : Hid (∀ a1 c1 b1 d1 wr, Below B w wr → Calls Tryd.prog 21 #[.agg #[.int .i64 W, .int .i64 H, .slice a1 n c1], .slice b1 M d1] wr fun e w' => e = .returned (.tuple #[.slice none 0 0, sentV A 2]) ∧ Below wr.heap.size wr w') := fun a1 c1 b1 d1 wr hb => by have h := better_err W H a1 n c1 b1 M d1 wr A (unhide HTd wr hb) (by rw [hE]; omega); rw [hE] at h; exact h
      have HCo := hide (fun wr (hb : Below B w wr) => coded3_sent 2 3 wr A (unhide HSW wr hb) (by omega) rfl)
      clear hE HTd
      generalize sentV A 2 = sv at *
      have fz0 : decide ((M : Int) < 1) = false := decide_eq_false (by omega)
      have fz1 : decide (M < 1) = false := decide_eq_false (by omega)
      have fz2 : decide ((M : Int) > 40) = true := decide_eq_true (by omega)
      have fz3 : decide ((40 : Int) < (M : Int)) = true := decide_eq_true (by omega)
      have fz4 : decide (40 < M) = true := decide_eq_true (by omega)
      have fz5 : decide ((M : Int) ≤ 256) = false := decide_eq_false (by omega)
      have fz6 : decide (M ≤ 256) = false := decide_eq_false (by omega)
      have fz7 : decide ((M : Int) > 300) = false := decide_eq_false (by omega)
      have fz8 : decide ((300 : Int) < (M : Int)) = false := decide_eq_false (by omega)
      have fz9 : decide (300 < M) = false := decide_eq_false (by omega)
      have fz10 : decide ((M : Int) > 256) = true := decide_eq_true (by omega)
      have fz11 : decide ((256 : Int) < (M : Int)) = true := decide_eq_true (by omega)
      have fz12 : decide (256 < M) = true := decide_eq_true (by omega)
      clear h300 h4
      have d0 : w3.cell? ⟨B, 0, none⟩ = some (.int .i64 W) := blk_cell (unhide HK) 0
      have d1 : w3.cell? ⟨B, 1, none⟩ = some (.int .i64 H) := blk_cell (unhide HK) 1
      have d2 : w3.cell? ⟨B, 2, none⟩ = some (.slice a n c) := blk_cell (unhide HK) 2
      go_wp2_with fail
      clear d0 d1 d2
      refine (unhide HOw _ (unhide HB)).mono ?_
      rintro e w4 ⟨a1, c1, rfl, hp1, hb4⟩
      have HP1 := hide hp1
      clear hp1
      have hsz := hb4.size
      have HK := hide (blk_below (unhide HK) hb4 (blk_lt (unhide HK)))
      have HB := hide ((unhide HB).trans (hb4.mono (by omega)))
      have hBs : B + 1 ≤ w4.heap.size := by omega
      clear hb4 hsz
      go_wp2_with fail
      refine (unhide HPa _ (unhide HB)).mono ?_
      rintro e w5 ⟨b1, d1, rfl, hq1, hb5⟩
      have HQ1 := hide hq1
      clear hq1
      have hsz := hb5.size
      have HK := hide (blk_below (unhide HK) hb5 (blk_lt (unhide HK)))
      have HP1 := hide ((unhide HP1).below hb5)
      have HB := hide ((unhide HB).trans (hb5.mono (by omega)))
      have hBs : B + 1 ≤ w5.heap.size := by omega
      clear hb5 hsz
      go_wp2_with fail
      refine (unhide HMp a1 c1 b1 d1 _ (unhide HB)).mono ?_
      rintro e w6 ⟨rfl, hb6⟩
      have hsz := hb6.size
      have HK := hide (blk_below (unhide HK) hb6 (blk_lt (unhide HK)))
      have HP1 := hide ((unhide HP1).below hb6)
      have HQ1 := hide ((unhide HQ1).below hb6)
      have HB := hide ((unhide HB).trans (hb6.mono (by omega)))
      have hBs : B + 1 ≤ w6.heap.size := by omega
      clear hb6 hsz
      clear HP1 HQ1
      have d0 : w6.cell? ⟨B, 0, none⟩ = some (.int .i64 W) := blk_cell (unhide HK) 0
      have d1 : w6.cell? ⟨B, 1, none⟩ = some (.int .i64 H) := blk_cell (unhide HK) 1
      have d2 : w6.cell? ⟨B, 2, none⟩ = some (.slice a n c) := blk_cell (unhide HK) 2
      go_wp2_with fail
      clear d0 d1 d2
      refine (unhide HOw _ (unhide HB)).mono ?_
      rintro e w7 ⟨a2, c2, rfl, hp2, hb7⟩
      have HP2 := hide hp2
      clear hp2
      have hsz := hb7.size
      have HK := hide (blk_below (unhide HK) hb7 (blk_lt (unhide HK)))
      have HB := hide ((unhide HB).trans (hb7.mono (by omega)))
      have hBs : B + 1 ≤ w7.heap.size := by omega
      clear hb7 hsz
      go_wp2_with fail
      refine (unhide HPa _ (unhide HB)).mono ?_
      rintro e w8 ⟨b2, d2, rfl, hq2, hb8⟩
      have HQ2 := hide hq2
      clear hq2
      have hsz := hb8.size
      have HK := hide (blk_below (unhide HK) hb8 (blk_lt (unhide HK)))
      have HP2 := hide ((unhide HP2).below hb8)
      have HB := hide ((unhide HB).trans (hb8.mono (by omega)))
      have hBs : B + 1 ≤ w8.heap.size := by omega
      clear hb8 hsz
      go_wp2_with fail
      refine (unhide HFr a2 c2 b2 d2 _ (unhide HB)).mono ?_
      rintro e w9 ⟨rfl, hb9⟩
      have hsz := hb9.size
      have HK := hide (blk_below (unhide HK) hb9 (blk_lt (unhide HK)))
      have HP2 := hide ((unhide HP2).below hb9)
      have HQ2 := hide ((unhide HQ2).below hb9)
      have HB := hide ((unhide HB).trans (hb9.mono (by omega)))
      have hBs : B + 1 ≤ w9.heap.size := by omega
      clear hb9 hsz
      clear HP2 HQ2
      have d0 : w9.cell? ⟨B, 0, none⟩ = some (.int .i64 W) := blk_cell (unhide HK) 0
      have d1 : w9.cell? ⟨B, 1, none⟩ = some (.int .i64 H) := blk_cell (unhide HK) 1
      have d2 : w9.cell? ⟨B, 2, none⟩ = some (.slice a n c) := blk_cell (unhide HK) 2
      go_wp2_with fail
      clear d0 d1 d2
      refine (unhide HOw _ (unhide HB)).mono ?_
      rintro e w10 ⟨a3, c3, rfl, hp3, hb10⟩
      have HP3 := hide hp3
      clear hp3
      have hsz := hb10.size
      have HK := hide (blk_below (unhide HK) hb10 (blk_lt (unhide HK)))
      have HB := hide ((unhide HB).trans (hb10.mono (by omega)))
      have hBs : B + 1 ≤ w10.heap.size := by omega
      clear hb10 hsz
      go_wp2_with fail
      refine (unhide HPa _ (unhide HB)).mono ?_
      rintro e w11 ⟨b3, d3, rfl, hq3, hb11⟩
      have HQ3 := hide hq3
      clear hq3
      have hsz := hb11.size
      have HK := hide (blk_below (unhide HK) hb11 (blk_lt (unhide HK)))
      have HP3 := hide ((unhide HP3).below hb11)
      have HB := hide ((unhide HB).trans (hb11.mono (by omega)))
      have hBs : B + 1 ≤ w11.heap.size := by omega
      clear hb11 hsz
      go_wp2_with fail
      refine (unhide HBe a3 c3 b3 d3 _ (unhide HB)).mono ?_
      rintro e w12 ⟨rfl, hb12⟩
      have hsz := hb12.size
      have HK := hide (blk_below (unhide HK) hb12 (blk_lt (unhide HK)))
      have HP3 := hide ((unhide HP3).below hb12)
      have HQ3 := hide ((unhide HQ3).below hb12)
      have HB := hide ((unhide HB).trans (hb12.mono (by omega)))
      have hBs : B + 1 ≤ w12.heap.size := by omega
      clear hb12 hsz
      clear HP3 HQ3
      have d0 : w12.cell? ⟨B, 0, none⟩ = some (.int .i64 W) := blk_cell (unhide HK) 0
      have d1 : w12.cell? ⟨B, 1, none⟩ = some (.int .i64 H) := blk_cell (unhide HK) 1
      have d2 : w12.cell? ⟨B, 2, none⟩ = some (.slice a n c) := blk_cell (unhide HK) 2
      go_wp2_with fail
      clear d0 d1 d2
      refine (unhide HRi _).mono ?_
      rintro e w13 ⟨rfl, hb13⟩
      have hsz := hb13.size
      have HK := hide (blk_below (unhide HK) hb13 (blk_lt (unhide HK)))
      have HB := hide ((unhide HB).trans (hb13.mono (by omega)))
      have hBs : B + 1 ≤ w13.heap.size := by omega
      clear hb13 hsz
      go_wp2_with fail
      refine (unhide HCo _ (unhide HB)).mono ?_
      rintro e w14 ⟨rfl, hb14⟩
      have hsz := hb14.size
      have HK := hide (blk_below (unhide HK) hb14 (blk_lt (unhide HK)))
      have HB := hide ((unhide HB).trans (hb14.mono (by omega)))
      have hBs : B + 1 ≤ w14.heap.size := by omega
      clear hb14 hsz
      go_wp2_with fail
      refine (unhide HCo _ (unhide HB)).mono ?_
      rintro e w15 ⟨rfl, hb15⟩
      have hsz := hb15.size
      have HK := hide (blk_below (unhide HK) hb15 (blk_lt (unhide HK)))
      have HB := hide ((unhide HB).trans (hb15.mono (by omega)))
      have hBs : B + 1 ≤ w15.heap.size := by omega
      clear hb15 hsz
      go_wp2_with fail
      refine (unhide HCo _ (unhide HB)).mono ?_
      rintro e w16 ⟨rfl, hb16⟩
      have hsz := hb16.size
      have HK := hide (blk_below (unhide HK) hb16 (blk_lt (unhide HK)))
      have HB := hide ((unhide HB).trans (hb16.mono (by omega)))
      have hBs : B + 1 ≤ w16.heap.size := by omega
      clear hb16 hsz
      clear HSW HPW HQW HOw HPa HRi HMp HFr HBe HCo HK
      go_wp2
      go_ret
      exact ⟨rfl, bel_atM (unhide HBE) (unhide HB)⟩
  rw [decide_eq_true hR] at HRi
  by_cases hm : 1 ≤ M ∧ M ≤ 40
  rotate_left
  · have hE : cE W H n (M : Int) = 2 := cE_bound hR (by omega)
    clear hR
    rcases (show (M < 1 ∧ M ≤ 40) ∨ 256 < M by omega) with hm | hm
    · skip
      have HMp : Hid (∀ a1 c1 b1 d1 wr, Below B w wr → Calls Tryd.prog 18 #[.agg #[.int .i64 W, .int .i64 H, .slice a1 n c1], .slice b1 M d1] wr fun e w' => e = .returned (.tuple #[.slice none 0 0, sentV A 1]) ∧ Below wr.heap.size wr w') := fun a1 c1 b1 d1 wr hb => by have h := map_err W H a1 n c1 b1 M d1 wr A (unhide HTd wr hb) (by rw [hE]; omega); rw [hE] at h; exact h
      have HFr : Hid (∀ a1 c1 b1 d1 wr, Below B w wr → Calls Tryd.prog 20 #[.agg #[.int .i64 W, .int .i64 H, .slice a1 n c1], .slice b1 M d1] wr fun e w' => e = .returned (.tuple #[.int .i64 0, sentV A 1]) ∧ Below wr.heap.size wr w') := fun a1 c1 b1 d1 wr hb => by have h := far_err W H a1 n c1 b1 M d1 wr A (unhide HTd wr hb) (by rw [hE]; omega); rw [hE] at h; exact h
      have HBe : Hid (∀ a1 c1 b1 d1 wr, Below B w wr → Calls Tryd.prog 21 #[.agg #[.int .i64 W, .int .i64 H, .slice a1 n c1], .slice b1 M d1] wr fun e w' => e = .returned (.tuple #[.slice none 0 0, sentV A 1]) ∧ Below wr.heap.size wr w') := fun a1 c1 b1 d1 wr hb => by have h := better_err W H a1 n c1 b1 M d1 wr A (unhide HTd wr hb) (by rw [hE]; omega); rw [hE] at h; exact h
      have HCo := hide (fun wr (hb : Below B w wr) => coded3_sent 1 2 wr A (unhide HSW wr hb) (by omega) rfl)
      clear hE HTd
      generalize sentV A 1 = sv at *
      have fz0 : decide ((M : Int) < 1) = true := decide_eq_true (by omega)
      have fz1 : decide (M < 1) = true := decide_eq_true (by omega)
      have fz2 : decide ((M : Int) > 40) = false := decide_eq_false (by omega)
      have fz3 : decide ((40 : Int) < (M : Int)) = false := decide_eq_false (by omega)
      have fz4 : decide (40 < M) = false := decide_eq_false (by omega)
      have fz5 : decide ((M : Int) > 300) = false := decide_eq_false (by omega)
      have fz6 : decide ((300 : Int) < (M : Int)) = false := decide_eq_false (by omega)
      have fz7 : decide (300 < M) = false := decide_eq_false (by omega)
      have fz8 : decide ((M : Int) > 256) = false := decide_eq_false (by omega)
      have fz9 : decide ((256 : Int) < (M : Int)) = false := decide_eq_false (by omega)
      have fz10 : decide (256 < M) = false := decide_eq_false (by omega)
      clear h300 h4
      have d0 : w3.cell? ⟨B, 0, none⟩ = some (.int .i64 W) := blk_cell (unhide HK) 0
      have d1 : w3.cell? ⟨B, 1, none⟩ = some (.int .i64 H) := blk_cell (unhide HK) 1
      have d2 : w3.cell? ⟨B, 2, none⟩ = some (.slice a n c) := blk_cell (unhide HK) 2
      go_wp2_with fail
      clear d0 d1 d2
      refine (unhide HOw _ (unhide HB)).mono ?_
      rintro e w4 ⟨a1, c1, rfl, hp1, hb4⟩
      have HP1 := hide hp1
      clear hp1
      have hsz := hb4.size
      have HK := hide (blk_below (unhide HK) hb4 (blk_lt (unhide HK)))
      have HB := hide ((unhide HB).trans (hb4.mono (by omega)))
      have hBs : B + 1 ≤ w4.heap.size := by omega
      clear hb4 hsz
      go_wp2_with fail
      refine (unhide HPa _ (unhide HB)).mono ?_
      rintro e w5 ⟨b1, d1, rfl, hq1, hb5⟩
      have HQ1 := hide hq1
      clear hq1
      have hsz := hb5.size
      have HK := hide (blk_below (unhide HK) hb5 (blk_lt (unhide HK)))
      have HP1 := hide ((unhide HP1).below hb5)
      have HB := hide ((unhide HB).trans (hb5.mono (by omega)))
      have hBs : B + 1 ≤ w5.heap.size := by omega
      clear hb5 hsz
      go_wp2_with fail
      refine (unhide HMp a1 c1 b1 d1 _ (unhide HB)).mono ?_
      rintro e w6 ⟨rfl, hb6⟩
      have hsz := hb6.size
      have HK := hide (blk_below (unhide HK) hb6 (blk_lt (unhide HK)))
      have HP1 := hide ((unhide HP1).below hb6)
      have HQ1 := hide ((unhide HQ1).below hb6)
      have HB := hide ((unhide HB).trans (hb6.mono (by omega)))
      have hBs : B + 1 ≤ w6.heap.size := by omega
      clear hb6 hsz
      clear HP1 HQ1
      have d0 : w6.cell? ⟨B, 0, none⟩ = some (.int .i64 W) := blk_cell (unhide HK) 0
      have d1 : w6.cell? ⟨B, 1, none⟩ = some (.int .i64 H) := blk_cell (unhide HK) 1
      have d2 : w6.cell? ⟨B, 2, none⟩ = some (.slice a n c) := blk_cell (unhide HK) 2
      go_wp2_with fail
      clear d0 d1 d2
      refine (unhide HOw _ (unhide HB)).mono ?_
      rintro e w7 ⟨a2, c2, rfl, hp2, hb7⟩
      have HP2 := hide hp2
      clear hp2
      have hsz := hb7.size
      have HK := hide (blk_below (unhide HK) hb7 (blk_lt (unhide HK)))
      have HB := hide ((unhide HB).trans (hb7.mono (by omega)))
      have hBs : B + 1 ≤ w7.heap.size := by omega
      clear hb7 hsz
      go_wp2_with fail
      refine (unhide HPa _ (unhide HB)).mono ?_
      rintro e w8 ⟨b2, d2, rfl, hq2, hb8⟩
      have HQ2 := hide hq2
      clear hq2
      have hsz := hb8.size
      have HK := hide (blk_below (unhide HK) hb8 (blk_lt (unhide HK)))
      have HP2 := hide ((unhide HP2).below hb8)
      have HB := hide ((unhide HB).trans (hb8.mono (by omega)))
      have hBs : B + 1 ≤ w8.heap.size := by omega
      clear hb8 hsz
      go_wp2_with fail
      refine (unhide HFr a2 c2 b2 d2 _ (unhide HB)).mono ?_
      rintro e w9 ⟨rfl, hb9⟩
      have hsz := hb9.size
      have HK := hide (blk_below (unhide HK) hb9 (blk_lt (unhide HK)))
      have HP2 := hide ((unhide HP2).below hb9)
      have HQ2 := hide ((unhide HQ2).below hb9)
      have HB := hide ((unhide HB).trans (hb9.mono (by omega)))
      have hBs : B + 1 ≤ w9.heap.size := by omega
      clear hb9 hsz
      clear HP2 HQ2
      have d0 : w9.cell? ⟨B, 0, none⟩ = some (.int .i64 W) := blk_cell (unhide HK) 0
      have d1 : w9.cell? ⟨B, 1, none⟩ = some (.int .i64 H) := blk_cell (unhide HK) 1
      have d2 : w9.cell? ⟨B, 2, none⟩ = some (.slice a n c) := blk_cell (unhide HK) 2
      go_wp2_with fail
      clear d0 d1 d2
      refine (unhide HOw _ (unhide HB)).mono ?_
      rintro e w10 ⟨a3, c3, rfl, hp3, hb10⟩
      have HP3 := hide hp3
      clear hp3
      have hsz := hb10.size
      have HK := hide (blk_below (unhide HK) hb10 (blk_lt (unhide HK)))
      have HB := hide ((unhide HB).trans (hb10.mono (by omega)))
      have hBs : B + 1 ≤ w10.heap.size := by omega
      clear hb10 hsz
      go_wp2_with fail
      refine (unhide HPa _ (unhide HB)).mono ?_
      rintro e w11 ⟨b3, d3, rfl, hq3, hb11⟩
      have HQ3 := hide hq3
      clear hq3
      have hsz := hb11.size
      have HK := hide (blk_below (unhide HK) hb11 (blk_lt (unhide HK)))
      have HP3 := hide ((unhide HP3).below hb11)
      have HB := hide ((unhide HB).trans (hb11.mono (by omega)))
      have hBs : B + 1 ≤ w11.heap.size := by omega
      clear hb11 hsz
      go_wp2_with fail
      refine (unhide HBe a3 c3 b3 d3 _ (unhide HB)).mono ?_
      rintro e w12 ⟨rfl, hb12⟩
      have hsz := hb12.size
      have HK := hide (blk_below (unhide HK) hb12 (blk_lt (unhide HK)))
      have HP3 := hide ((unhide HP3).below hb12)
      have HQ3 := hide ((unhide HQ3).below hb12)
      have HB := hide ((unhide HB).trans (hb12.mono (by omega)))
      have hBs : B + 1 ≤ w12.heap.size := by omega
      clear hb12 hsz
      clear HP3 HQ3
      have d0 : w12.cell? ⟨B, 0, none⟩ = some (.int .i64 W) := blk_cell (unhide HK) 0
      have d1 : w12.cell? ⟨B, 1, none⟩ = some (.int .i64 H) := blk_cell (unhide HK) 1
      have d2 : w12.cell? ⟨B, 2, none⟩ = some (.slice a n c) := blk_cell (unhide HK) 2
      go_wp2_with fail
      clear d0 d1 d2
      refine (unhide HRi _).mono ?_
      rintro e w13 ⟨rfl, hb13⟩
      have hsz := hb13.size
      have HK := hide (blk_below (unhide HK) hb13 (blk_lt (unhide HK)))
      have HB := hide ((unhide HB).trans (hb13.mono (by omega)))
      have hBs : B + 1 ≤ w13.heap.size := by omega
      clear hb13 hsz
      go_wp2_with fail
      refine (unhide HCo _ (unhide HB)).mono ?_
      rintro e w14 ⟨rfl, hb14⟩
      have hsz := hb14.size
      have HK := hide (blk_below (unhide HK) hb14 (blk_lt (unhide HK)))
      have HB := hide ((unhide HB).trans (hb14.mono (by omega)))
      have hBs : B + 1 ≤ w14.heap.size := by omega
      clear hb14 hsz
      go_wp2_with fail
      refine (unhide HCo _ (unhide HB)).mono ?_
      rintro e w15 ⟨rfl, hb15⟩
      have hsz := hb15.size
      have HK := hide (blk_below (unhide HK) hb15 (blk_lt (unhide HK)))
      have HB := hide ((unhide HB).trans (hb15.mono (by omega)))
      have hBs : B + 1 ≤ w15.heap.size := by omega
      clear hb15 hsz
      go_wp2_with fail
      refine (unhide HCo _ (unhide HB)).mono ?_
      rintro e w16 ⟨rfl, hb16⟩
      have hsz := hb16.size
      have HK := hide (blk_below (unhide HK) hb16 (blk_lt (unhide HK)))
      have HB := hide ((unhide HB).trans (hb16.mono (by omega)))
      have hBs : B + 1 ≤ w16.heap.size := by omega
      clear hb16 hsz
      clear HSW HPW HQW HOw HPa HRi HMp HFr HBe HCo HK
      go_wp2
      go_ret
      exact ⟨rfl, bel_atM (unhide HBE) (unhide HB)⟩
    · skip
      have HMp : Hid (∀ a1 c1 b1 d1 wr, Below B w wr → Calls Tryd.prog 18 #[.agg #[.int .i64 W, .int .i64 H, .slice a1 n c1], .slice b1 M d1] wr fun e w' => e = .returned (.tuple #[.slice none 0 0, sentV A 1]) ∧ Below wr.heap.size wr w') := fun a1 c1 b1 d1 wr hb => by have h := map_err W H a1 n c1 b1 M d1 wr A (unhide HTd wr hb) (by rw [hE]; omega); rw [hE] at h; exact h
      have HFr : Hid (∀ a1 c1 b1 d1 wr, Below B w wr → Calls Tryd.prog 20 #[.agg #[.int .i64 W, .int .i64 H, .slice a1 n c1], .slice b1 M d1] wr fun e w' => e = .returned (.tuple #[.int .i64 0, sentV A 1]) ∧ Below wr.heap.size wr w') := fun a1 c1 b1 d1 wr hb => by have h := far_err W H a1 n c1 b1 M d1 wr A (unhide HTd wr hb) (by rw [hE]; omega); rw [hE] at h; exact h
      have HBe : Hid (∀ a1 c1 b1 d1 wr, Below B w wr → Calls Tryd.prog 21 #[.agg #[.int .i64 W, .int .i64 H, .slice a1 n c1], .slice b1 M d1] wr fun e w' => e = .returned (.tuple #[.slice none 0 0, sentV A 1]) ∧ Below wr.heap.size wr w') := fun a1 c1 b1 d1 wr hb => by have h := better_err W H a1 n c1 b1 M d1 wr A (unhide HTd wr hb) (by rw [hE]; omega); rw [hE] at h; exact h
      have HCo := hide (fun wr (hb : Below B w wr) => coded3_sent 1 2 wr A (unhide HSW wr hb) (by omega) rfl)
      clear hE HTd
      generalize sentV A 1 = sv at *
      have fz0 : decide ((M : Int) < 1) = false := decide_eq_false (by omega)
      have fz1 : decide (M < 1) = false := decide_eq_false (by omega)
      have fz2 : decide ((M : Int) > 40) = true := decide_eq_true (by omega)
      have fz3 : decide ((40 : Int) < (M : Int)) = true := decide_eq_true (by omega)
      have fz4 : decide (40 < M) = true := decide_eq_true (by omega)
      have fz5 : decide ((M : Int) ≤ 256) = false := decide_eq_false (by omega)
      have fz6 : decide (M ≤ 256) = false := decide_eq_false (by omega)
      have fz7 : decide ((M : Int) > 300) = false := decide_eq_false (by omega)
      have fz8 : decide ((300 : Int) < (M : Int)) = false := decide_eq_false (by omega)
      have fz9 : decide (300 < M) = false := decide_eq_false (by omega)
      have fz10 : decide ((M : Int) > 256) = true := decide_eq_true (by omega)
      have fz11 : decide ((256 : Int) < (M : Int)) = true := decide_eq_true (by omega)
      have fz12 : decide (256 < M) = true := decide_eq_true (by omega)
      clear h300 h4
      have d0 : w3.cell? ⟨B, 0, none⟩ = some (.int .i64 W) := blk_cell (unhide HK) 0
      have d1 : w3.cell? ⟨B, 1, none⟩ = some (.int .i64 H) := blk_cell (unhide HK) 1
      have d2 : w3.cell? ⟨B, 2, none⟩ = some (.slice a n c) := blk_cell (unhide HK) 2
      go_wp2_with fail
      clear d0 d1 d2
      refine (unhide HOw _ (unhide HB)).mono ?_
      rintro e w4 ⟨a1, c1, rfl, hp1, hb4⟩
      have HP1 := hide hp1
      clear hp1
      have hsz := hb4.size
      have HK := hide (blk_below (unhide HK) hb4 (blk_lt (unhide HK)))
      have HB := hide ((unhide HB).trans (hb4.mono (by omega)))
      have hBs : B + 1 ≤ w4.heap.size := by omega
      clear hb4 hsz
      go_wp2_with fail
      refine (unhide HPa _ (unhide HB)).mono ?_
      rintro e w5 ⟨b1, d1, rfl, hq1, hb5⟩
      have HQ1 := hide hq1
      clear hq1
      have hsz := hb5.size
      have HK := hide (blk_below (unhide HK) hb5 (blk_lt (unhide HK)))
      have HP1 := hide ((unhide HP1).below hb5)
      have HB := hide ((unhide HB).trans (hb5.mono (by omega)))
      have hBs : B + 1 ≤ w5.heap.size := by omega
      clear hb5 hsz
      go_wp2_with fail
      refine (unhide HMp a1 c1 b1 d1 _ (unhide HB)).mono ?_
      rintro e w6 ⟨rfl, hb6⟩
      have hsz := hb6.size
      have HK := hide (blk_below (unhide HK) hb6 (blk_lt (unhide HK)))
      have HP1 := hide ((unhide HP1).below hb6)
      have HQ1 := hide ((unhide HQ1).below hb6)
      have HB := hide ((unhide HB).trans (hb6.mono (by omega)))
      have hBs : B + 1 ≤ w6.heap.size := by omega
      clear hb6 hsz
      clear HP1 HQ1
      have d0 : w6.cell? ⟨B, 0, none⟩ = some (.int .i64 W) := blk_cell (unhide HK) 0
      have d1 : w6.cell? ⟨B, 1, none⟩ = some (.int .i64 H) := blk_cell (unhide HK) 1
      have d2 : w6.cell? ⟨B, 2, none⟩ = some (.slice a n c) := blk_cell (unhide HK) 2
      go_wp2_with fail
      clear d0 d1 d2
      refine (unhide HOw _ (unhide HB)).mono ?_
      rintro e w7 ⟨a2, c2, rfl, hp2, hb7⟩
      have HP2 := hide hp2
      clear hp2
      have hsz := hb7.size
      have HK := hide (blk_below (unhide HK) hb7 (blk_lt (unhide HK)))
      have HB := hide ((unhide HB).trans (hb7.mono (by omega)))
      have hBs : B + 1 ≤ w7.heap.size := by omega
      clear hb7 hsz
      go_wp2_with fail
      refine (unhide HPa _ (unhide HB)).mono ?_
      rintro e w8 ⟨b2, d2, rfl, hq2, hb8⟩
      have HQ2 := hide hq2
      clear hq2
      have hsz := hb8.size
      have HK := hide (blk_below (unhide HK) hb8 (blk_lt (unhide HK)))
      have HP2 := hide ((unhide HP2).below hb8)
      have HB := hide ((unhide HB).trans (hb8.mono (by omega)))
      have hBs : B + 1 ≤ w8.heap.size := by omega
      clear hb8 hsz
      go_wp2_with fail
      refine (unhide HFr a2 c2 b2 d2 _ (unhide HB)).mono ?_
      rintro e w9 ⟨rfl, hb9⟩
      have hsz := hb9.size
      have HK := hide (blk_below (unhide HK) hb9 (blk_lt (unhide HK)))
      have HP2 := hide ((unhide HP2).below hb9)
      have HQ2 := hide ((unhide HQ2).below hb9)
      have HB := hide ((unhide HB).trans (hb9.mono (by omega)))
      have hBs : B + 1 ≤ w9.heap.size := by omega
      clear hb9 hsz
      clear HP2 HQ2
      have d0 : w9.cell? ⟨B, 0, none⟩ = some (.int .i64 W) := blk_cell (unhide HK) 0
      have d1 : w9.cell? ⟨B, 1, none⟩ = some (.int .i64 H) := blk_cell (unhide HK) 1
      have d2 : w9.cell? ⟨B, 2, none⟩ = some (.slice a n c) := blk_cell (unhide HK) 2
      go_wp2_with fail
      clear d0 d1 d2
      refine (unhide HOw _ (unhide HB)).mono ?_
      rintro e w10 ⟨a3, c3, rfl, hp3, hb10⟩
      have HP3 := hide hp3
      clear hp3
      have hsz := hb10.size
      have HK := hide (blk_below (unhide HK) hb10 (blk_lt (unhide HK)))
      have HB := hide ((unhide HB).trans (hb10.mono (by omega)))
      have hBs : B + 1 ≤ w10.heap.size := by omega
      clear hb10 hsz
      go_wp2_with fail
      refine (unhide HPa _ (unhide HB)).mono ?_
      rintro e w11 ⟨b3, d3, rfl, hq3, hb11⟩
      have HQ3 := hide hq3
      clear hq3
      have hsz := hb11.size
      have HK := hide (blk_below (unhide HK) hb11 (blk_lt (unhide HK)))
      have HP3 := hide ((unhide HP3).below hb11)
      have HB := hide ((unhide HB).trans (hb11.mono (by omega)))
      have hBs : B + 1 ≤ w11.heap.size := by omega
      clear hb11 hsz
      go_wp2_with fail
      refine (unhide HBe a3 c3 b3 d3 _ (unhide HB)).mono ?_
      rintro e w12 ⟨rfl, hb12⟩
      have hsz := hb12.size
      have HK := hide (blk_below (unhide HK) hb12 (blk_lt (unhide HK)))
      have HP3 := hide ((unhide HP3).below hb12)
      have HQ3 := hide ((unhide HQ3).below hb12)
      have HB := hide ((unhide HB).trans (hb12.mono (by omega)))
      have hBs : B + 1 ≤ w12.heap.size := by omega
      clear hb12 hsz
      clear HP3 HQ3
      have d0 : w12.cell? ⟨B, 0, none⟩ = some (.int .i64 W) := blk_cell (unhide HK) 0
      have d1 : w12.cell? ⟨B, 1, none⟩ = some (.int .i64 H) := blk_cell (unhide HK) 1
      have d2 : w12.cell? ⟨B, 2, none⟩ = some (.slice a n c) := blk_cell (unhide HK) 2
      go_wp2_with fail
      clear d0 d1 d2
      refine (unhide HRi _).mono ?_
      rintro e w13 ⟨rfl, hb13⟩
      have hsz := hb13.size
      have HK := hide (blk_below (unhide HK) hb13 (blk_lt (unhide HK)))
      have HB := hide ((unhide HB).trans (hb13.mono (by omega)))
      have hBs : B + 1 ≤ w13.heap.size := by omega
      clear hb13 hsz
      go_wp2_with fail
      refine (unhide HCo _ (unhide HB)).mono ?_
      rintro e w14 ⟨rfl, hb14⟩
      have hsz := hb14.size
      have HK := hide (blk_below (unhide HK) hb14 (blk_lt (unhide HK)))
      have HB := hide ((unhide HB).trans (hb14.mono (by omega)))
      have hBs : B + 1 ≤ w14.heap.size := by omega
      clear hb14 hsz
      go_wp2_with fail
      refine (unhide HCo _ (unhide HB)).mono ?_
      rintro e w15 ⟨rfl, hb15⟩
      have hsz := hb15.size
      have HK := hide (blk_below (unhide HK) hb15 (blk_lt (unhide HK)))
      have HB := hide ((unhide HB).trans (hb15.mono (by omega)))
      have hBs : B + 1 ≤ w15.heap.size := by omega
      clear hb15 hsz
      go_wp2_with fail
      refine (unhide HCo _ (unhide HB)).mono ?_
      rintro e w16 ⟨rfl, hb16⟩
      have hsz := hb16.size
      have HK := hide (blk_below (unhide HK) hb16 (blk_lt (unhide HK)))
      have HB := hide ((unhide HB).trans (hb16.mono (by omega)))
      have hBs : B + 1 ≤ w16.heap.size := by omega
      clear hb16 hsz
      clear HSW HPW HQW HOw HPa HRi HMp HFr HBe HCo HK
      go_wp2
      go_ret
      exact ⟨rfl, bel_atM (unhide HBE) (unhide HB)⟩
  have hE : cE W H n (M : Int) = 0 := cE_right hR (by omega) (by omega)
  have hn1 : 1 ≤ n := right_posM hR
  have hME : M - 1 + 1 = M := by omega
  have HMp := hide (fun a1 c1 b1 d1 wr (hb : Below B w wr) (hp : IsPx wr a1 n p) (hq : IsPx wr b1 M q) => map_ok W H a1 n c1 p b1 M d1 q wr A (unhide HTd wr hb) hp hq (by omega) hE)
  have HFr := hide (fun a1 c1 b1 d1 wr (hb : Below B w wr) (hp : IsPx wr a1 n p) (hq : IsPx wr b1 M q) => far_ok W H a1 n c1 p b1 M d1 q wr A (unhide HTd wr hb) hp hq (by omega) hE)
  have HBe := hide (fun a1 c1 b1 d1 wr (hb : Below B w wr) (hp : IsPx wr a1 n p) (hq : IsPx wr b1 M q) => better_ok W H a1 n c1 p b1 M d1 q wr A (unhide HTd wr hb) hp hq (by omega) hE)
  have HMO := hide (fun wr (hb : Below B w wr) => mapOf_any W H a n c p b (M - 1) d q wr (unhide HPW wr hb) (by rw [hME]; exact unhide HQW wr hb) (by omega) (by omega))
  have HBO := hide (fun wr (hb : Below B w wr) => betterOf_any W H a n c p b (M - 1) d q wr (unhide HPW wr hb) (by rw [hME]; exact unhide HQW wr hb) (by omega) hn1 (by omega))
  rw [hME] at HMO HBO
  clear hR hE hME HTd
  generalize farN p q n (M - 1) = far at *
  have hnl := mpL_length p q (M - 1) n
  generalize mpL p q (M - 1) n = ml at *
  generalize btP p q n (M - 1) = bt at *
  have HNL := hide hnl
  clear hnl
  have fz0 : decide ((M : Int) > 40) = false := decide_eq_false (by omega)
  have fz1 : decide ((40 : Int) < (M : Int)) = false := decide_eq_false (by omega)
  have fz2 : decide (40 < M) = false := decide_eq_false (by omega)
  have fz3 : decide ((M : Int) > 300) = false := decide_eq_false (by omega)
  have fz4 : decide ((300 : Int) < (M : Int)) = false := decide_eq_false (by omega)
  have fz5 : decide (300 < M) = false := decide_eq_false (by omega)
  have fz6 : decide ((M : Int) > 256) = false := decide_eq_false (by omega)
  have fz7 : decide ((256 : Int) < (M : Int)) = false := decide_eq_false (by omega)
  have fz8 : decide (256 < M) = false := decide_eq_false (by omega)
  have fz9 : decide ((M : Int) < 1) = false := decide_eq_false (by omega)
  have fz10 : decide (M < 1) = false := decide_eq_false (by omega)
  clear h300 h4
  have d0 : w3.cell? ⟨B, 0, none⟩ = some (.int .i64 W) := blk_cell (unhide HK) 0
  have d1 : w3.cell? ⟨B, 1, none⟩ = some (.int .i64 H) := blk_cell (unhide HK) 1
  have d2 : w3.cell? ⟨B, 2, none⟩ = some (.slice a n c) := blk_cell (unhide HK) 2
  go_wp2_with fail
  clear d0 d1 d2
  refine (unhide HOw _ (unhide HB)).mono ?_
  rintro e w4 ⟨a1, c1, rfl, hp1, hb4⟩
  have HP1 := hide hp1
  clear hp1
  have hsz := hb4.size
  have HK := hide (blk_below (unhide HK) hb4 (blk_lt (unhide HK)))
  have HB := hide ((unhide HB).trans (hb4.mono (by omega)))
  have hBs : B + 1 ≤ w4.heap.size := by omega
  clear hb4 hsz
  go_wp2_with fail
  refine (unhide HPa _ (unhide HB)).mono ?_
  rintro e w5 ⟨b1, d1, rfl, hq1, hb5⟩
  have HQ1 := hide hq1
  clear hq1
  have hsz := hb5.size
  have HK := hide (blk_below (unhide HK) hb5 (blk_lt (unhide HK)))
  have HP1 := hide ((unhide HP1).below hb5)
  have HB := hide ((unhide HB).trans (hb5.mono (by omega)))
  have hBs : B + 1 ≤ w5.heap.size := by omega
  clear hb5 hsz
  go_wp2_with fail
  refine (unhide HMp a1 c1 b1 d1 _ (unhide HB) (unhide HP1) (unhide HQ1)).mono ?_
  rintro e w6 ⟨a4, c4, rfl, ho4, hb6⟩
  have HN4 := hide (own_nm ho4 (unhide HNL) hn1)
  clear ho4
  have hsz := hb6.size
  have HK := hide (blk_below (unhide HK) hb6 (blk_lt (unhide HK)))
  have HP1 := hide ((unhide HP1).below hb6)
  have HQ1 := hide ((unhide HQ1).below hb6)
  have HB := hide ((unhide HB).trans (hb6.mono (by omega)))
  have hBs : B + 1 ≤ w6.heap.size := by omega
  clear hb6 hsz
  clear HP1 HQ1
  have d0 : w6.cell? ⟨B, 0, none⟩ = some (.int .i64 W) := blk_cell (unhide HK) 0
  have d1 : w6.cell? ⟨B, 1, none⟩ = some (.int .i64 H) := blk_cell (unhide HK) 1
  have d2 : w6.cell? ⟨B, 2, none⟩ = some (.slice a n c) := blk_cell (unhide HK) 2
  go_wp2_with fail
  clear d0 d1 d2
  refine (unhide HOw _ (unhide HB)).mono ?_
  rintro e w7 ⟨a2, c2, rfl, hp2, hb7⟩
  have HP2 := hide hp2
  clear hp2
  have hsz := hb7.size
  have HK := hide (blk_below (unhide HK) hb7 (blk_lt (unhide HK)))
  have HN4 := hide ((unhide HN4).below hb7)
  have HB := hide ((unhide HB).trans (hb7.mono (by omega)))
  have hBs : B + 1 ≤ w7.heap.size := by omega
  clear hb7 hsz
  go_wp2_with fail
  refine (unhide HPa _ (unhide HB)).mono ?_
  rintro e w8 ⟨b2, d2, rfl, hq2, hb8⟩
  have HQ2 := hide hq2
  clear hq2
  have hsz := hb8.size
  have HK := hide (blk_below (unhide HK) hb8 (blk_lt (unhide HK)))
  have HN4 := hide ((unhide HN4).below hb8)
  have HP2 := hide ((unhide HP2).below hb8)
  have HB := hide ((unhide HB).trans (hb8.mono (by omega)))
  have hBs : B + 1 ≤ w8.heap.size := by omega
  clear hb8 hsz
  go_wp2_with fail
  refine (unhide HFr a2 c2 b2 d2 _ (unhide HB) (unhide HP2) (unhide HQ2)).mono ?_
  rintro e w9 ⟨rfl, hb9⟩
  have hsz := hb9.size
  have HK := hide (blk_below (unhide HK) hb9 (blk_lt (unhide HK)))
  have HN4 := hide ((unhide HN4).below hb9)
  have HP2 := hide ((unhide HP2).below hb9)
  have HQ2 := hide ((unhide HQ2).below hb9)
  have HB := hide ((unhide HB).trans (hb9.mono (by omega)))
  have hBs : B + 1 ≤ w9.heap.size := by omega
  clear hb9 hsz
  clear HP2 HQ2
  have d0 : w9.cell? ⟨B, 0, none⟩ = some (.int .i64 W) := blk_cell (unhide HK) 0
  have d1 : w9.cell? ⟨B, 1, none⟩ = some (.int .i64 H) := blk_cell (unhide HK) 1
  have d2 : w9.cell? ⟨B, 2, none⟩ = some (.slice a n c) := blk_cell (unhide HK) 2
  go_wp2_with fail
  clear d0 d1 d2
  refine (unhide HOw _ (unhide HB)).mono ?_
  rintro e w10 ⟨a3, c3, rfl, hp3, hb10⟩
  have HP3 := hide hp3
  clear hp3
  have hsz := hb10.size
  have HK := hide (blk_below (unhide HK) hb10 (blk_lt (unhide HK)))
  have HN4 := hide ((unhide HN4).below hb10)
  have HB := hide ((unhide HB).trans (hb10.mono (by omega)))
  have hBs : B + 1 ≤ w10.heap.size := by omega
  clear hb10 hsz
  go_wp2_with fail
  refine (unhide HPa _ (unhide HB)).mono ?_
  rintro e w11 ⟨b3, d3, rfl, hq3, hb11⟩
  have HQ3 := hide hq3
  clear hq3
  have hsz := hb11.size
  have HK := hide (blk_below (unhide HK) hb11 (blk_lt (unhide HK)))
  have HN4 := hide ((unhide HN4).below hb11)
  have HP3 := hide ((unhide HP3).below hb11)
  have HB := hide ((unhide HB).trans (hb11.mono (by omega)))
  have hBs : B + 1 ≤ w11.heap.size := by omega
  clear hb11 hsz
  go_wp2_with fail
  refine (unhide HBe a3 c3 b3 d3 _ (unhide HB) (unhide HP3) (unhide HQ3)).mono ?_
  rintro e w12 ⟨a5, c5, rfl, hp5, hb12⟩
  have HP5 := hide hp5
  clear hp5
  have hsz := hb12.size
  have HK := hide (blk_below (unhide HK) hb12 (blk_lt (unhide HK)))
  have HN4 := hide ((unhide HN4).below hb12)
  have HP3 := hide ((unhide HP3).below hb12)
  have HQ3 := hide ((unhide HQ3).below hb12)
  have HB := hide ((unhide HB).trans (hb12.mono (by omega)))
  have hBs : B + 1 ≤ w12.heap.size := by omega
  clear hb12 hsz
  clear HP3 HQ3
  have d0 : w12.cell? ⟨B, 0, none⟩ = some (.int .i64 W) := blk_cell (unhide HK) 0
  have d1 : w12.cell? ⟨B, 1, none⟩ = some (.int .i64 H) := blk_cell (unhide HK) 1
  have d2 : w12.cell? ⟨B, 2, none⟩ = some (.slice a n c) := blk_cell (unhide HK) 2
  go_wp2_with fail
  clear d0 d1 d2
  refine (unhide HRi _).mono ?_
  rintro e w13 ⟨rfl, hb13⟩
  have hsz := hb13.size
  have HK := hide (blk_below (unhide HK) hb13 (blk_lt (unhide HK)))
  have HN4 := hide ((unhide HN4).below hb13)
  have HP5 := hide ((unhide HP5).below hb13)
  have HB := hide ((unhide HB).trans (hb13.mono (by omega)))
  have hBs : B + 1 ≤ w13.heap.size := by omega
  clear hb13 hsz
  have d0 : w13.cell? ⟨B, 0, none⟩ = some (.int .i64 W) := blk_cell (unhide HK) 0
  have d1 : w13.cell? ⟨B, 1, none⟩ = some (.int .i64 H) := blk_cell (unhide HK) 1
  have d2 : w13.cell? ⟨B, 2, none⟩ = some (.slice a n c) := blk_cell (unhide HK) 2
  go_wp2_with fail
  clear d0 d1 d2
  refine (unhide HMO _ (unhide HB)).mono ?_
  rintro e w14 ⟨a6, c6, rfl, ho6, hb14⟩
  have HN6 := hide (own_nm ho6 (unhide HNL) hn1)
  clear ho6
  have hsz := hb14.size
  have HK := hide (blk_below (unhide HK) hb14 (blk_lt (unhide HK)))
  have HN4 := hide ((unhide HN4).below hb14)
  have HP5 := hide ((unhide HP5).below hb14)
  have HB := hide ((unhide HB).trans (hb14.mono (by omega)))
  have hBs : B + 1 ≤ w14.heap.size := by omega
  clear hb14 hsz
  go_wp2_with fail
  refine (sameNm_any a4 a6 n c4 c6 _ _ (unhide HN4) (unhide HN6) (unhide HNL) (by omega)).mono ?_
  rintro e w15 ⟨rfl, hb15⟩
  have hsz := hb15.size
  have HK := hide (blk_below (unhide HK) hb15 (blk_lt (unhide HK)))
  have HN4 := hide ((unhide HN4).below hb15)
  have HP5 := hide ((unhide HP5).below hb15)
  have HN6 := hide ((unhide HN6).below hb15)
  have HB := hide ((unhide HB).trans (hb15.mono (by omega)))
  have hBs : B + 1 ≤ w15.heap.size := by omega
  clear hb15 hsz
  have d0 : w15.cell? ⟨B, 0, none⟩ = some (.int .i64 W) := blk_cell (unhide HK) 0
  have d1 : w15.cell? ⟨B, 1, none⟩ = some (.int .i64 H) := blk_cell (unhide HK) 1
  have d2 : w15.cell? ⟨B, 2, none⟩ = some (.slice a n c) := blk_cell (unhide HK) 2
  go_wp2_with fail
  clear d0 d1 d2
  refine (unhide HBO _ (unhide HB)).mono ?_
  rintro e w16 ⟨a7, c7, rfl, hp7, hb16⟩
  have HP7 := hide hp7
  clear hp7
  have hsz := hb16.size
  have HK := hide (blk_below (unhide HK) hb16 (blk_lt (unhide HK)))
  have HN4 := hide ((unhide HN4).below hb16)
  have HP5 := hide ((unhide HP5).below hb16)
  have HN6 := hide ((unhide HN6).below hb16)
  have HB := hide ((unhide HB).trans (hb16.mono (by omega)))
  have hBs : B + 1 ≤ w16.heap.size := by omega
  clear hb16 hsz
  go_wp2_with fail
  refine (samePixels_any a5 a7 M c5 c7 _ _ (unhide HP5) (unhide HP7) (by omega)).mono ?_
  rintro e w17 ⟨rfl, hb17⟩
  have hsz := hb17.size
  have HK := hide (blk_below (unhide HK) hb17 (blk_lt (unhide HK)))
  have HN4 := hide ((unhide HN4).below hb17)
  have HP5 := hide ((unhide HP5).below hb17)
  have HN6 := hide ((unhide HN6).below hb17)
  have HP7 := hide ((unhide HP7).below hb17)
  have HB := hide ((unhide HB).trans (hb17.mono (by omega)))
  have hBs : B + 1 ≤ w17.heap.size := by omega
  clear hb17 hsz
  clear HSW HPW HQW HOw HPa HRi HMp HFr HBe HMO HBO HK HN4 HN6 HP5 HP7 HNL
  go_wp2
  go_ret
  exact ⟨rfl, bel_atM (unhide HBE) (unhide HB)⟩
end Go.Proofs.YtpfobocdbmiagaaDoor
