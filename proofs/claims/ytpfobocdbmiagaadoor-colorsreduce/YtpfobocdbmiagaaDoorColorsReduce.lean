/- A palette of few colors of any picture: the law. -/
import Derived.Test.YtpfobocdbmiagaaDoorCs2
import Derived.Test.YtpfobocdbmiagaaDoorCs3
import Derived.Test.YtpfobocdbmiagaaDoorCm4
import Derived.Test.YtpfobocdbmiagaaDoorCm5
import Derived.Test.YtpfobocdbmiagaaDoorMg13
import Derived.Deep.RegionHeld
namespace Go.Proofs.YtpfobocdbmiagaaDoor
open Go.RowKit
theorem bel_atR {B : Nat} {w w' : World} (h : B = w.heap.size) (hb : Below B w w') : Below w.heap.size w w' := h ▸ hb
theorem right_posR {W H : Int} {n : Nat} (h : RightP W H n) : 1 ≤ n := by
  have h1 := Int.mul_pos (show 0 < W by have := h.1.1; omega) (show 0 < H by have := h.2.1.1; omega)
  have h2 := h.2.2
  omega

set_option maxHeartbeats 16000000 in
set_option maxRecDepth 100000 in
theorem colorsReduce_any (W H : Int) (a : Option Addr) (n c : Nat) (p : Nat → Px) (mo : Int) (w : World) (A : Nat → Addr) (hS : Sent w A) (hP : IsPx w a n p) (_bW : -9223372036854775808 ≤ W ∧ W ≤ 9223372036854775807) (_bH : -9223372036854775808 ≤ H ∧ H ≤ 9223372036854775807) :
    Calls Tryd.prog 6 #[.agg #[.int .i64 W, .int .i64 H, .slice a n c], .int .i64 mo] w fun e w' => e = .returned (.bool true) ∧ Below w.heap.size w w' := by
  have HSW := hide (fun wr (hb : Below w.heap.size w wr) => hS.below hb)
  have HPW := hide (fun wr (hb : Below w.heap.size w wr) => hP.below hb)
  have hHA0 := hide (al1 w (.cells #[.int .i64 W, .int .i64 H, .slice a n c] 24))
  obtain ⟨B, hB⟩ : ∃ B, B = w.heap.size := ⟨_, rfl⟩
  clear hS hP _bW _bH
  go_enter Tryd.func6, Tryd.ntmps6
  go_wp2_with fail
  generalize w.alloc (.cells #[.int .i64 W, .int .i64 H, .slice a n c] 24) = w1 at *
  rw [← hB] at HSW HPW hHA0 ⊢
  obtain ⟨hs0, kB, hb0⟩ := unhide hHA0
  have HK := hide kB
  have HB := hide hb0
  have HBE := hide hB
  have hBs : B + 1 ≤ w1.heap.size := by omega
  clear hHA0 hb0 hs0 hB kB
  refine (grey_any _).mono ?_
  rintro e w2 ⟨rfl, hb2⟩
  have hsz := hb2.size
  have HK := hide (blk_below (unhide HK) hb2 (blk_lt (unhide HK)))
  have HB := hide ((unhide HB).trans (hb2.mono (by omega)))
  have hBs : B + 1 ≤ w2.heap.size := by omega
  clear hb2 hsz
  by_cases hn3 : n ≤ 3000
  rotate_left
  · have HSm := hide (fun w' => small3_any W H a n c w')
    rw [decide_eq_false hn3] at HSm
    have HSm := HSm
    have d0 : w2.cell? ⟨B, 0, none⟩ = some (.int .i64 W) := blk_cell (unhide HK) 0
    have d1 : w2.cell? ⟨B, 1, none⟩ = some (.int .i64 H) := blk_cell (unhide HK) 1
    have d2 : w2.cell? ⟨B, 2, none⟩ = some (.slice a n c) := blk_cell (unhide HK) 2
    go_wp2_with fail
    clear d0 d1 d2
    refine (unhide HSm _).mono ?_
    rintro e w3 ⟨rfl, hb3⟩
    have hsz := hb3.size
    have HK := hide (blk_below (unhide HK) hb3 (blk_lt (unhide HK)))
    have HB := hide ((unhide HB).trans (hb3.mono (by omega)))
    have hBs : B + 1 ≤ w3.heap.size := by omega
    clear hb3 hsz
    clear HSW HPW HK
    go_wp2
    go_ret
    exact ⟨rfl, bel_atR (unhide HBE) (unhide HB)⟩
  have HSm := hide (fun w' => small3_any W H a n c w')
  rw [decide_eq_true hn3] at HSm
  have d0 : w2.cell? ⟨B, 0, none⟩ = some (.int .i64 W) := blk_cell (unhide HK) 0
  have d1 : w2.cell? ⟨B, 1, none⟩ = some (.int .i64 H) := blk_cell (unhide HK) 1
  have d2 : w2.cell? ⟨B, 2, none⟩ = some (.slice a n c) := blk_cell (unhide HK) 2
  go_wp2_with fail
  clear d0 d1 d2
  refine (unhide HSm _).mono ?_
  rintro e w3 ⟨rfl, hb3⟩
  have hsz := hb3.size
  have HK := hide (blk_below (unhide HK) hb3 (blk_lt (unhide HK)))
  have HB := hide ((unhide HB).trans (hb3.mono (by omega)))
  have hBs : B + 1 ≤ w3.heap.size := by omega
  clear hb3 hsz
  clear HSm
  by_cases h4 : 60 < mo ∧ mo ≤ 256
  · skip
    have fz0 : decide (mo > 60) = true := decide_eq_true (by omega)
    have fz1 : decide ((60 : Int) < mo) = true := decide_eq_true (by omega)
    have fz2 : decide (mo ≤ 256) = true := decide_eq_true (by omega)
    clear HSW HPW HK
    go_wp2
    go_ret
    exact ⟨rfl, bel_atR (unhide HBE) (unhide HB)⟩
  have HOw := hide (fun wr (hb : Below B w wr) => own_isPx W H a n c p wr (unhide HPW wr hb) (by omega))
  have HRi := hide (fun w' => pright_any W H a n c w')
  have HTd := hide (fun wr (hb : Below B w wr) => (show Told wr [1, 2] A from fun i hi => (unhide HSW wr hb).cell i (by simp at hi; omega)))
  by_cases hR : RightP W H n
  rotate_left
  · have hE : cE W H n mo = 3 := cE_shape hR
    rw [decide_eq_false hR] at HRi
    clear hR
    rcases (show mo < 1 ∨ (1 ≤ mo ∧ mo ≤ 60) ∨ 256 < mo by omega) with hm | hm | hm
    · skip
      have HRd : Hid (∀ a1 c1 wr, Below B w wr → Calls Tryd.prog 24 #[.agg #[.int .i64 W, .int .i64 H, .slice a1 n c1], .int .i64 mo] wr fun e w' => e = .returned (.tuple #[.slice none 0 0, sentV A 2]) ∧ Below wr.heap.size wr w') := fun a1 c1 wr hb => by have h := reduce_err W H a1 n c1 mo wr A (unhide HTd wr hb) (by rw [hE]; omega); rw [hE] at h; exact h
      have HCo := hide (fun wr (hb : Below B w wr) => coded3_sent 2 3 wr A (unhide HSW wr hb) (by omega) rfl)
      clear hE HTd
      generalize sentV A 2 = sv at *
      have fz0 : decide (mo > 60) = false := decide_eq_false (by omega)
      have fz1 : decide ((60 : Int) < mo) = false := decide_eq_false (by omega)
      have fz2 : decide (mo < 1) = true := decide_eq_true (by omega)
      clear h4 hm
      have d0 : w3.cell? ⟨B, 0, none⟩ = some (.int .i64 W) := blk_cell (unhide HK) 0
      have d1 : w3.cell? ⟨B, 1, none⟩ = some (.int .i64 H) := blk_cell (unhide HK) 1
      have d2 : w3.cell? ⟨B, 2, none⟩ = some (.slice a n c) := blk_cell (unhide HK) 2
      go_wp2_with fail
      clear d0 d1 d2
      refine (unhide HOw _ (unhide HB)).mono ?_
      rintro e w4 ⟨a1, c1, rfl, hp1, hb4⟩
      have HP1 := hide hp1
      clear hp1
      have hsz := hb4.size
      have HK := hide (blk_below (unhide HK) hb4 (blk_lt (unhide HK)))
      have HB := hide ((unhide HB).trans (hb4.mono (by omega)))
      have hBs : B + 1 ≤ w4.heap.size := by omega
      clear hb4 hsz
      go_wp2_with fail
      refine (unhide HRd a1 c1 _ (unhide HB)).mono ?_
      rintro e w5 ⟨rfl, hb5⟩
      have hsz := hb5.size
      have HK := hide (blk_below (unhide HK) hb5 (blk_lt (unhide HK)))
      have HP1 := hide ((unhide HP1).below hb5)
      have HB := hide ((unhide HB).trans (hb5.mono (by omega)))
      have hBs : B + 1 ≤ w5.heap.size := by omega
      clear hb5 hsz
      clear HP1
      have d0 : w5.cell? ⟨B, 0, none⟩ = some (.int .i64 W) := blk_cell (unhide HK) 0
      have d1 : w5.cell? ⟨B, 1, none⟩ = some (.int .i64 H) := blk_cell (unhide HK) 1
      have d2 : w5.cell? ⟨B, 2, none⟩ = some (.slice a n c) := blk_cell (unhide HK) 2
      go_wp2_with fail
      clear d0 d1 d2
      refine (unhide HRi _).mono ?_
      rintro e w6 ⟨rfl, hb6⟩
      have hsz := hb6.size
      have HK := hide (blk_below (unhide HK) hb6 (blk_lt (unhide HK)))
      have HB := hide ((unhide HB).trans (hb6.mono (by omega)))
      have hBs : B + 1 ≤ w6.heap.size := by omega
      clear hb6 hsz
      go_wp2_with fail
      refine (unhide HCo _ (unhide HB)).mono ?_
      rintro e w7 ⟨rfl, hb7⟩
      have hsz := hb7.size
      have HK := hide (blk_below (unhide HK) hb7 (blk_lt (unhide HK)))
      have HB := hide ((unhide HB).trans (hb7.mono (by omega)))
      have hBs : B + 1 ≤ w7.heap.size := by omega
      clear hb7 hsz
      clear HSW HPW HOw HRi HRd HCo HK
      go_wp2
      go_ret
      exact ⟨rfl, bel_atR (unhide HBE) (unhide HB)⟩
    · skip
      have HRd : Hid (∀ a1 c1 wr, Below B w wr → Calls Tryd.prog 24 #[.agg #[.int .i64 W, .int .i64 H, .slice a1 n c1], .int .i64 mo] wr fun e w' => e = .returned (.tuple #[.slice none 0 0, sentV A 2]) ∧ Below wr.heap.size wr w') := fun a1 c1 wr hb => by have h := reduce_err W H a1 n c1 mo wr A (unhide HTd wr hb) (by rw [hE]; omega); rw [hE] at h; exact h
      have HCo := hide (fun wr (hb : Below B w wr) => coded3_sent 2 3 wr A (unhide HSW wr hb) (by omega) rfl)
      clear hE HTd
      generalize sentV A 2 = sv at *
      have fz0 : decide (mo > 60) = false := decide_eq_false (by omega)
      have fz1 : decide ((60 : Int) < mo) = false := decide_eq_false (by omega)
      have fz2 : decide (mo < 1) = false := decide_eq_false (by omega)
      have fz3 : decide (mo > 256) = false := decide_eq_false (by omega)
      have fz4 : decide ((256 : Int) < mo) = false := decide_eq_false (by omega)
      clear h4 hm
      have d0 : w3.cell? ⟨B, 0, none⟩ = some (.int .i64 W) := blk_cell (unhide HK) 0
      have d1 : w3.cell? ⟨B, 1, none⟩ = some (.int .i64 H) := blk_cell (unhide HK) 1
      have d2 : w3.cell? ⟨B, 2, none⟩ = some (.slice a n c) := blk_cell (unhide HK) 2
      go_wp2_with fail
      clear d0 d1 d2
      refine (unhide HOw _ (unhide HB)).mono ?_
      rintro e w4 ⟨a1, c1, rfl, hp1, hb4⟩
      have HP1 := hide hp1
      clear hp1
      have hsz := hb4.size
      have HK := hide (blk_below (unhide HK) hb4 (blk_lt (unhide HK)))
      have HB := hide ((unhide HB).trans (hb4.mono (by omega)))
      have hBs : B + 1 ≤ w4.heap.size := by omega
      clear hb4 hsz
      go_wp2_with fail
      refine (unhide HRd a1 c1 _ (unhide HB)).mono ?_
      rintro e w5 ⟨rfl, hb5⟩
      have hsz := hb5.size
      have HK := hide (blk_below (unhide HK) hb5 (blk_lt (unhide HK)))
      have HP1 := hide ((unhide HP1).below hb5)
      have HB := hide ((unhide HB).trans (hb5.mono (by omega)))
      have hBs : B + 1 ≤ w5.heap.size := by omega
      clear hb5 hsz
      clear HP1
      have d0 : w5.cell? ⟨B, 0, none⟩ = some (.int .i64 W) := blk_cell (unhide HK) 0
      have d1 : w5.cell? ⟨B, 1, none⟩ = some (.int .i64 H) := blk_cell (unhide HK) 1
      have d2 : w5.cell? ⟨B, 2, none⟩ = some (.slice a n c) := blk_cell (unhide HK) 2
      go_wp2_with fail
      clear d0 d1 d2
      refine (unhide HRi _).mono ?_
      rintro e w6 ⟨rfl, hb6⟩
      have hsz := hb6.size
      have HK := hide (blk_below (unhide HK) hb6 (blk_lt (unhide HK)))
      have HB := hide ((unhide HB).trans (hb6.mono (by omega)))
      have hBs : B + 1 ≤ w6.heap.size := by omega
      clear hb6 hsz
      go_wp2_with fail
      refine (unhide HCo _ (unhide HB)).mono ?_
      rintro e w7 ⟨rfl, hb7⟩
      have hsz := hb7.size
      have HK := hide (blk_below (unhide HK) hb7 (blk_lt (unhide HK)))
      have HB := hide ((unhide HB).trans (hb7.mono (by omega)))
      have hBs : B + 1 ≤ w7.heap.size := by omega
      clear hb7 hsz
      clear HSW HPW HOw HRi HRd HCo HK
      go_wp2
      go_ret
      exact ⟨rfl, bel_atR (unhide HBE) (unhide HB)⟩
    · skip
      have HRd : Hid (∀ a1 c1 wr, Below B w wr → Calls Tryd.prog 24 #[.agg #[.int .i64 W, .int .i64 H, .slice a1 n c1], .int .i64 mo] wr fun e w' => e = .returned (.tuple #[.slice none 0 0, sentV A 2]) ∧ Below wr.heap.size wr w') := fun a1 c1 wr hb => by have h := reduce_err W H a1 n c1 mo wr A (unhide HTd wr hb) (by rw [hE]; omega); rw [hE] at h; exact h
      have HCo := hide (fun wr (hb : Below B w wr) => coded3_sent 2 3 wr A (unhide HSW wr hb) (by omega) rfl)
      clear hE HTd
      generalize sentV A 2 = sv at *
      have fz0 : decide (mo > 60) = true := decide_eq_true (by omega)
      have fz1 : decide ((60 : Int) < mo) = true := decide_eq_true (by omega)
      have fz2 : decide (mo ≤ 256) = false := decide_eq_false (by omega)
      have fz3 : decide (mo < 1) = false := decide_eq_false (by omega)
      have fz4 : decide (mo > 256) = true := decide_eq_true (by omega)
      have fz5 : decide ((256 : Int) < mo) = true := decide_eq_true (by omega)
      clear h4 hm
      have d0 : w3.cell? ⟨B, 0, none⟩ = some (.int .i64 W) := blk_cell (unhide HK) 0
      have d1 : w3.cell? ⟨B, 1, none⟩ = some (.int .i64 H) := blk_cell (unhide HK) 1
      have d2 : w3.cell? ⟨B, 2, none⟩ = some (.slice a n c) := blk_cell (unhide HK) 2
      go_wp2_with fail
      clear d0 d1 d2
      refine (unhide HOw _ (unhide HB)).mono ?_
      rintro e w4 ⟨a1, c1, rfl, hp1, hb4⟩
      have HP1 := hide hp1
      clear hp1
      have hsz := hb4.size
      have HK := hide (blk_below (unhide HK) hb4 (blk_lt (unhide HK)))
      have HB := hide ((unhide HB).trans (hb4.mono (by omega)))
      have hBs : B + 1 ≤ w4.heap.size := by omega
      clear hb4 hsz
      go_wp2_with fail
      refine (unhide HRd a1 c1 _ (unhide HB)).mono ?_
      rintro e w5 ⟨rfl, hb5⟩
      have hsz := hb5.size
      have HK := hide (blk_below (unhide HK) hb5 (blk_lt (unhide HK)))
      have HP1 := hide ((unhide HP1).below hb5)
      have HB := hide ((unhide HB).trans (hb5.mono (by omega)))
      have hBs : B + 1 ≤ w5.heap.size := by omega
      clear hb5 hsz
      clear HP1
      have d0 : w5.cell? ⟨B, 0, none⟩ = some (.int .i64 W) := blk_cell (unhide HK) 0
      have d1 : w5.cell? ⟨B, 1, none⟩ = some (.int .i64 H) := blk_cell (unhide HK) 1
      have d2 : w5.cell? ⟨B, 2, none⟩ = some (.slice a n c) := blk_cell (unhide HK) 2
      go_wp2_with fail
      clear d0 d1 d2
      refine (unhide HRi _).mono ?_
      rintro e w6 ⟨rfl, hb6⟩
      have hsz := hb6.size
      have HK := hide (blk_below (unhide HK) hb6 (blk_lt (unhide HK)))
      have HB := hide ((unhide HB).trans (hb6.mono (by omega)))
      have hBs : B + 1 ≤ w6.heap.size := by omega
      clear hb6 hsz
      go_wp2_with fail
      refine (unhide HCo _ (unhide HB)).mono ?_
      rintro e w7 ⟨rfl, hb7⟩
      have hsz := hb7.size
      have HK := hide (blk_below (unhide HK) hb7 (blk_lt (unhide HK)))
      have HB := hide ((unhide HB).trans (hb7.mono (by omega)))
      have hBs : B + 1 ≤ w7.heap.size := by omega
      clear hb7 hsz
      clear HSW HPW HOw HRi HRd HCo HK
      go_wp2
      go_ret
      exact ⟨rfl, bel_atR (unhide HBE) (unhide HB)⟩
  rw [decide_eq_true hR] at HRi
  by_cases hm : 1 ≤ mo ∧ mo ≤ 60
  rotate_left
  · have hE : cE W H n mo = 2 := cE_bound hR (by omega)
    clear hR
    have hm0 := hm
    clear hm
    rcases (show mo < 1 ∨ 256 < mo by omega) with hm | hm
    · skip
      have HRd : Hid (∀ a1 c1 wr, Below B w wr → Calls Tryd.prog 24 #[.agg #[.int .i64 W, .int .i64 H, .slice a1 n c1], .int .i64 mo] wr fun e w' => e = .returned (.tuple #[.slice none 0 0, sentV A 1]) ∧ Below wr.heap.size wr w') := fun a1 c1 wr hb => by have h := reduce_err W H a1 n c1 mo wr A (unhide HTd wr hb) (by rw [hE]; omega); rw [hE] at h; exact h
      have HCo := hide (fun wr (hb : Below B w wr) => coded3_sent 1 2 wr A (unhide HSW wr hb) (by omega) rfl)
      clear hE HTd
      generalize sentV A 1 = sv at *
      have fz0 : decide (mo > 60) = false := decide_eq_false (by omega)
      have fz1 : decide ((60 : Int) < mo) = false := decide_eq_false (by omega)
      have fz2 : decide (mo < 1) = true := decide_eq_true (by omega)
      clear h4 hm
      have d0 : w3.cell? ⟨B, 0, none⟩ = some (.int .i64 W) := blk_cell (unhide HK) 0
      have d1 : w3.cell? ⟨B, 1, none⟩ = some (.int .i64 H) := blk_cell (unhide HK) 1
      have d2 : w3.cell? ⟨B, 2, none⟩ = some (.slice a n c) := blk_cell (unhide HK) 2
      go_wp2_with fail
      clear d0 d1 d2
      refine (unhide HOw _ (unhide HB)).mono ?_
      rintro e w4 ⟨a1, c1, rfl, hp1, hb4⟩
      have HP1 := hide hp1
      clear hp1
      have hsz := hb4.size
      have HK := hide (blk_below (unhide HK) hb4 (blk_lt (unhide HK)))
      have HB := hide ((unhide HB).trans (hb4.mono (by omega)))
      have hBs : B + 1 ≤ w4.heap.size := by omega
      clear hb4 hsz
      go_wp2_with fail
      refine (unhide HRd a1 c1 _ (unhide HB)).mono ?_
      rintro e w5 ⟨rfl, hb5⟩
      have hsz := hb5.size
      have HK := hide (blk_below (unhide HK) hb5 (blk_lt (unhide HK)))
      have HP1 := hide ((unhide HP1).below hb5)
      have HB := hide ((unhide HB).trans (hb5.mono (by omega)))
      have hBs : B + 1 ≤ w5.heap.size := by omega
      clear hb5 hsz
      clear HP1
      have d0 : w5.cell? ⟨B, 0, none⟩ = some (.int .i64 W) := blk_cell (unhide HK) 0
      have d1 : w5.cell? ⟨B, 1, none⟩ = some (.int .i64 H) := blk_cell (unhide HK) 1
      have d2 : w5.cell? ⟨B, 2, none⟩ = some (.slice a n c) := blk_cell (unhide HK) 2
      go_wp2_with fail
      clear d0 d1 d2
      refine (unhide HRi _).mono ?_
      rintro e w6 ⟨rfl, hb6⟩
      have hsz := hb6.size
      have HK := hide (blk_below (unhide HK) hb6 (blk_lt (unhide HK)))
      have HB := hide ((unhide HB).trans (hb6.mono (by omega)))
      have hBs : B + 1 ≤ w6.heap.size := by omega
      clear hb6 hsz
      go_wp2_with fail
      refine (unhide HCo _ (unhide HB)).mono ?_
      rintro e w7 ⟨rfl, hb7⟩
      have hsz := hb7.size
      have HK := hide (blk_below (unhide HK) hb7 (blk_lt (unhide HK)))
      have HB := hide ((unhide HB).trans (hb7.mono (by omega)))
      have hBs : B + 1 ≤ w7.heap.size := by omega
      clear hb7 hsz
      clear HSW HPW HOw HRi HRd HCo HK
      go_wp2
      go_ret
      exact ⟨rfl, bel_atR (unhide HBE) (unhide HB)⟩
    · skip
      have HRd : Hid (∀ a1 c1 wr, Below B w wr → Calls Tryd.prog 24 #[.agg #[.int .i64 W, .int .i64 H, .slice a1 n c1], .int .i64 mo] wr fun e w' => e = .returned (.tuple #[.slice none 0 0, sentV A 1]) ∧ Below wr.heap.size wr w') := fun a1 c1 wr hb => by have h := reduce_err W H a1 n c1 mo wr A (unhide HTd wr hb) (by rw [hE]; omega); rw [hE] at h; exact h
      have HCo := hide (fun wr (hb : Below B w wr) => coded3_sent 1 2 wr A (unhide HSW wr hb) (by omega) rfl)
      clear hE HTd
      generalize sentV A 1 = sv at *
      have fz0 : decide (mo > 60) = true := decide_eq_true (by omega)
      have fz1 : decide ((60 : Int) < mo) = true := decide_eq_true (by omega)
      have fz2 : decide (mo ≤ 256) = false := decide_eq_false (by omega)
      have fz3 : decide (mo < 1) = false := decide_eq_false (by omega)
      have fz4 : decide (mo > 256) = true := decide_eq_true (by omega)
      have fz5 : decide ((256 : Int) < mo) = true := decide_eq_true (by omega)
      clear h4 hm
      have d0 : w3.cell? ⟨B, 0, none⟩ = some (.int .i64 W) := blk_cell (unhide HK) 0
      have d1 : w3.cell? ⟨B, 1, none⟩ = some (.int .i64 H) := blk_cell (unhide HK) 1
      have d2 : w3.cell? ⟨B, 2, none⟩ = some (.slice a n c) := blk_cell (unhide HK) 2
      go_wp2_with fail
      clear d0 d1 d2
      refine (unhide HOw _ (unhide HB)).mono ?_
      rintro e w4 ⟨a1, c1, rfl, hp1, hb4⟩
      have HP1 := hide hp1
      clear hp1
      have hsz := hb4.size
      have HK := hide (blk_below (unhide HK) hb4 (blk_lt (unhide HK)))
      have HB := hide ((unhide HB).trans (hb4.mono (by omega)))
      have hBs : B + 1 ≤ w4.heap.size := by omega
      clear hb4 hsz
      go_wp2_with fail
      refine (unhide HRd a1 c1 _ (unhide HB)).mono ?_
      rintro e w5 ⟨rfl, hb5⟩
      have hsz := hb5.size
      have HK := hide (blk_below (unhide HK) hb5 (blk_lt (unhide HK)))
      have HP1 := hide ((unhide HP1).below hb5)
      have HB := hide ((unhide HB).trans (hb5.mono (by omega)))
      have hBs : B + 1 ≤ w5.heap.size := by omega
      clear hb5 hsz
      clear HP1
      have d0 : w5.cell? ⟨B, 0, none⟩ = some (.int .i64 W) := blk_cell (unhide HK) 0
      have d1 : w5.cell? ⟨B, 1, none⟩ = some (.int .i64 H) := blk_cell (unhide HK) 1
      have d2 : w5.cell? ⟨B, 2, none⟩ = some (.slice a n c) := blk_cell (unhide HK) 2
      go_wp2_with fail
      clear d0 d1 d2
      refine (unhide HRi _).mono ?_
      rintro e w6 ⟨rfl, hb6⟩
      have hsz := hb6.size
      have HK := hide (blk_below (unhide HK) hb6 (blk_lt (unhide HK)))
      have HB := hide ((unhide HB).trans (hb6.mono (by omega)))
      have hBs : B + 1 ≤ w6.heap.size := by omega
      clear hb6 hsz
      go_wp2_with fail
      refine (unhide HCo _ (unhide HB)).mono ?_
      rintro e w7 ⟨rfl, hb7⟩
      have hsz := hb7.size
      have HK := hide (blk_below (unhide HK) hb7 (blk_lt (unhide HK)))
      have HB := hide ((unhide HB).trans (hb7.mono (by omega)))
      have hBs : B + 1 ≤ w7.heap.size := by omega
      clear hb7 hsz
      clear HSW HPW HOw HRi HRd HCo HK
      go_wp2
      go_ret
      exact ⟨rfl, bel_atR (unhide HBE) (unhide HB)⟩
  obtain ⟨m, rfl⟩ := Int.eq_ofNat_of_zero_le (show 0 ≤ mo by omega)
  have hE : cE W H n (m : Int) = 0 := cE_right hR (by omega) (by omega)
  have hn1 : 1 ≤ n := right_posR hR
  have hul := ulk_len p n
  have hul1 : 1 ≤ (ulk p n).length := List.length_pos_of_mem (ulk_has p (show 0 < n by omega))
  have HRd := hide (fun a1 c1 wr (hb : Below B w wr) (hp : IsPx wr a1 n p) => reduce_ok W H a1 n c1 p m wr A (unhide HTd wr hb) hp (by omega) hn1 hE)
  have HCn := hide (fun wr (hb : Below B w wr) => countOf_any W H a n c p wr (unhide HPW wr hb) (by omega))
  have HMu := hide (fun wr (hb : Below B w wr) => mostUsedOf_any W H a n c p m wr (unhide HPW wr hb) (by omega) (by omega))
  obtain ⟨mu, hmu⟩ : ∃ mu : Nat → Px, mu = muP p n := ⟨_, rfl⟩
  have HMA := hide (mu_all p n)
  have hmue : (fun i => ((mostL p n).getD i default).c) = mu := hmu.symm ▸ rfl
  rw [hmue] at HMu
  rw [← hmu] at HRd HMA
  clear hmue hmu
  obtain ⟨L, hL⟩ : ∃ L, L = (ulk p n).length := ⟨_, rfl⟩
  rw [← hL] at HRd HCn HMu HMA hul hul1
  clear hL
  obtain ⟨K, hK⟩ : ∃ K, K = min m L := ⟨_, rfl⟩
  have hK1 : 1 ≤ K ∧ K ≤ m ∧ K ≤ 60 := by omega
  have hKL : L ≤ m → K = L := by omega
  rw [← hK] at HRd HMu
  clear hK
  have hKE : K - 1 + 1 = K := by omega
  have HMO := hide (fun b d (q : Nat → Px) wr (hb : Below B w wr) (hq : IsPx wr b K q) => mapOf_any W H a n c p b (K - 1) d q wr (unhide HPW wr hb) (by rw [hKE]; exact hq) (by omega) (by omega))
  have HBO := hide (fun b d (q : Nat → Px) wr (hb : Below B w wr) (hq : IsPx wr b K q) => betterOf_any W H a n c p b (K - 1) d q wr (unhide HPW wr hb) (by rw [hKE]; exact hq) (by omega) hn1 (by omega))
  rw [hKE] at HMO HBO
  clear hR hE hKE HTd
  have hfm := farN_le p mu n (K - 1)
  have fz0 : decide ((m : Int) > 60) = false := decide_eq_false (by omega)
  have fz1 : decide ((60 : Int) < (m : Int)) = false := decide_eq_false (by omega)
  have fz2 : decide (60 < m) = false := decide_eq_false (by omega)
  have fz3 : decide ((m : Int) < 1) = false := decide_eq_false (by omega)
  have fz4 : decide (m < 1) = false := decide_eq_false (by omega)
  have fz5 : decide ((m : Int) > 256) = false := decide_eq_false (by omega)
  have fz6 : decide ((256 : Int) < (m : Int)) = false := decide_eq_false (by omega)
  have fz7 : decide (256 < m) = false := decide_eq_false (by omega)
  have fz8 : decide ((K : Int) < 1) = false := decide_eq_false (by omega)
  have fz9 : decide (K < 1) = false := decide_eq_false (by omega)
  have fz10 : decide ((K : Int) > (m : Int)) = false := decide_eq_false (by omega)
  have fz11 : decide ((m : Int) < (K : Int)) = false := decide_eq_false (by omega)
  have fz12 : decide (m < K) = false := decide_eq_false (by omega)
  clear h4
  have d0 : w3.cell? ⟨B, 0, none⟩ = some (.int .i64 W) := blk_cell (unhide HK) 0
  have d1 : w3.cell? ⟨B, 1, none⟩ = some (.int .i64 H) := blk_cell (unhide HK) 1
  have d2 : w3.cell? ⟨B, 2, none⟩ = some (.slice a n c) := blk_cell (unhide HK) 2
  go_wp2_with fail
  clear d0 d1 d2
  refine (unhide HOw _ (unhide HB)).mono ?_
  rintro e w4 ⟨a1, c1, rfl, hp1, hb4⟩
  have HP1 := hide hp1
  clear hp1
  have hsz := hb4.size
  have HK := hide (blk_below (unhide HK) hb4 (blk_lt (unhide HK)))
  have HB := hide ((unhide HB).trans (hb4.mono (by omega)))
  have hBs : B + 1 ≤ w4.heap.size := by omega
  clear hb4 hsz
  go_wp2_with fail
  refine (unhide HRd a1 c1 _ (unhide HB) (unhide HP1)).mono ?_
  rintro e w5 ⟨a3, c3, r, rfl, ⟨hr3, hf1, hf2⟩, hb5⟩
  have HP3 := hide hr3
  clear hr3
  have hsz := hb5.size
  have HK := hide (blk_below (unhide HK) hb5 (blk_lt (unhide HK)))
  have HP1 := hide ((unhide HP1).below hb5)
  have HB := hide ((unhide HB).trans (hb5.mono (by omega)))
  have hBs : B + 1 ≤ w5.heap.size := by omega
  clear hb5 hsz
  clear HP1
  have HF1 := hide hf1
  have HF2 := hide hf2
  clear hf1 hf2
  have d0 : w5.cell? ⟨B, 0, none⟩ = some (.int .i64 W) := blk_cell (unhide HK) 0
  have d1 : w5.cell? ⟨B, 1, none⟩ = some (.int .i64 H) := blk_cell (unhide HK) 1
  have d2 : w5.cell? ⟨B, 2, none⟩ = some (.slice a n c) := blk_cell (unhide HK) 2
  go_wp2_with fail
  clear d0 d1 d2
  refine (unhide HRi _).mono ?_
  rintro e w6 ⟨rfl, hb6⟩
  have hsz := hb6.size
  have HK := hide (blk_below (unhide HK) hb6 (blk_lt (unhide HK)))
  have HP3 := hide ((unhide HP3).below hb6)
  have HB := hide ((unhide HB).trans (hb6.mono (by omega)))
  have hBs : B + 1 ≤ w6.heap.size := by omega
  clear hb6 hsz
  have d0 : w6.cell? ⟨B, 0, none⟩ = some (.int .i64 W) := blk_cell (unhide HK) 0
  have d1 : w6.cell? ⟨B, 1, none⟩ = some (.int .i64 H) := blk_cell (unhide HK) 1
  have d2 : w6.cell? ⟨B, 2, none⟩ = some (.slice a n c) := blk_cell (unhide HK) 2
  go_wp2_with fail
  clear d0 d1 d2
  refine (unhide HMO a3 c3 r _ (unhide HB) (unhide HP3)).mono ?_
  rintro e w7 ⟨a4, c4, rfl, ho4, hb7⟩
  clear ho4
  have hsz := hb7.size
  have HK := hide (blk_below (unhide HK) hb7 (blk_lt (unhide HK)))
  have HP3 := hide ((unhide HP3).below hb7)
  have HB := hide ((unhide HB).trans (hb7.mono (by omega)))
  have hBs : B + 1 ≤ w7.heap.size := by omega
  clear hb7 hsz
  clear HP3
  have d0 : w7.cell? ⟨B, 0, none⟩ = some (.int .i64 W) := blk_cell (unhide HK) 0
  have d1 : w7.cell? ⟨B, 1, none⟩ = some (.int .i64 H) := blk_cell (unhide HK) 1
  have d2 : w7.cell? ⟨B, 2, none⟩ = some (.slice a n c) := blk_cell (unhide HK) 2
  go_wp2_with fail
  clear d0 d1 d2
  refine (unhide HCn _ (unhide HB)).mono ?_
  rintro e w8 ⟨u5, d5, rfl, ho5, hb8⟩
  clear ho5
  have hsz := hb8.size
  have HK := hide (blk_below (unhide HK) hb8 (blk_lt (unhide HK)))
  have HB := hide ((unhide HB).trans (hb8.mono (by omega)))
  have hBs : B + 1 ≤ w8.heap.size := by omega
  clear hb8 hsz
  by_cases hLm : L ≤ m
  · have e1 : decide ((L : Int) ≤ (m : Int)) = true := decide_eq_true (by omega)
    have e1n : decide (L ≤ m) = true := decide_eq_true hLm
    have hz : farN p r n (K - 1) = 0 := by have h1 := unhide HF1; have h2 := unhide HMA; rw [← hKL hLm] at h2; omega
    rw [hz]
    clear hz HF1 HF2 HMA HSW HPW HOw HRi HRd HCn HMu HMO HBO HK
    go_wp2
    go_ret
    exact ⟨rfl, bel_atR (unhide HBE) (unhide HB)⟩
  have e1 : decide ((L : Int) ≤ (m : Int)) = false := decide_eq_false (by omega)
  have e1n : decide (L ≤ m) = false := decide_eq_false hLm
  have hfa := unhide HF2
  generalize farN p r n (K - 1) = fa at *
  have HMO2 : Hid (∀ b d wr, Below B w wr → IsPx wr b K (btP p mu n (K - 1)) → Calls Tryd.prog 22 #[.agg #[.int .i64 W, .int .i64 H, .slice a n c], .slice b K d] wr fun e w' => ∃ a2 c2, e = .returned (.tuple #[.slice a2 n c2, .int .i64 (farN p (btP p mu n (K - 1)) n (K - 1) : Int)]) ∧ Below wr.heap.size wr w') := fun b d wr hb hq => (unhide HMO b d _ wr hb hq).mono fun _ _ ⟨a2, c2, he, _, hb2⟩ => ⟨a2, c2, he, hb2⟩
  generalize farN p (btP p mu n (K - 1)) n (K - 1) = fb at *
  have e2 : decide ((fa : Int) ≤ (fb : Int)) = true := decide_eq_true (by omega)
  have e2n : decide (fa ≤ fb) = true := decide_eq_true hfa
  have d0 : w8.cell? ⟨B, 0, none⟩ = some (.int .i64 W) := blk_cell (unhide HK) 0
  have d1 : w8.cell? ⟨B, 1, none⟩ = some (.int .i64 H) := blk_cell (unhide HK) 1
  have d2 : w8.cell? ⟨B, 2, none⟩ = some (.slice a n c) := blk_cell (unhide HK) 2
  go_wp2_with fail
  have hlB : B < w8.heap.size := by omega
  have hdr := (Below.refl w8.heap.size w8).drew
  have KS := hide (fun (w' : World) (h : Below w8.heap.size w8 w') => (⟨(h.cell (p := ⟨B, 0, none⟩) hlB).trans d0, (h.cell (p := ⟨B, 1, none⟩) hlB).trans d1, (h.cell (p := ⟨B, 2, none⟩) hlB).trans d2⟩ : w'.cell? ⟨B, 0, none⟩ = some (.int .i64 W) ∧ w'.cell? ⟨B, 1, none⟩ = some (.int .i64 H) ∧ w'.cell? ⟨B, 2, none⟩ = some (.slice a n c)))
  go_region_held (fun w' => w'.cell? ⟨B, 0, none⟩ = some (.int .i64 W) ∧ w'.cell? ⟨B, 1, none⟩ = some (.int .i64 H) ∧ w'.cell? ⟨B, 2, none⟩ = some (.slice a n c)) (first | with_reducible exact unhide KS _ hdr | with_reducible exact unhide KS _ hq1 | with_reducible exact unhide KS _ hq2 | with_reducible exact unhide KS _ hq3) (first | (go_at_call 25; refine (unhide HMu _ ((unhide HB).trans (hdr.mono (by omega)))).mono ?_; rintro e w9 ⟨a6, c6, rfl, hp6, hb6⟩; have hq1 := hdr.trans (hb6.mono (by exact Nat.le_refl _))) | (go_at_call 23; refine (unhide HBO a6 c6 mu _ ((unhide HB).trans (hq1.mono (by omega))) hp6).mono ?_; rintro e w10 ⟨a7, c7, rfl, hp7, hb7⟩; have hq2 := hq1.trans (hb7.mono hq1.size)) | (go_at_call 22; refine (unhide HMO2 a7 c7 _ ((unhide HB).trans (hq2.mono (by omega))) hp7).mono ?_; rintro e w11 ⟨a8, c8, rfl, hb8⟩; have hq3 := hq2.trans (hb8.mono hq2.size)))
  have HB := hide ((unhide HB).trans (hq3.mono (by omega)))
  clear hdr KS hq1 hq2 hq3 hb6 hb7 hb8 hp6 hp7 d0 d1 d2 HF1 HF2 HMA HSW HPW HOw HRi HRd HCn HMu HMO HMO2 HBO HK
  go_wp2
  go_ret
  exact ⟨rfl, bel_atR (unhide HBE) (unhide HB)⟩
end Go.Proofs.YtpfobocdbmiagaaDoor
