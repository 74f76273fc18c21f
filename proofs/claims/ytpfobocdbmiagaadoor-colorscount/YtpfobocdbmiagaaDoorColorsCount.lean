/- Unlike pixels of any picture; an exact palette: the law. -/
import Derived.Test.YtpfobocdbmiagaaDoorCu7
import Derived.Test.YtpfobocdbmiagaaDoorRw0
import Derived.Test.YtpfobocdbmiagaaDoorCoded3
import Derived.Test.YtpfobocdbmiagaaDoorCodeS
namespace Go.Proofs.YtpfobocdbmiagaaDoor
open Go.RowKit
theorem bel_atC {B : Nat} {w w' : World} (h : B = w.heap.size) (hb : Below B w w') : Below w.heap.size w w' := h ▸ hb
theorem right_posC {W H : Int} {n : Nat} (h : RightP W H n) : 1 ≤ n := by
  have h1 := Int.mul_pos (show 0 < W by have := h.1.1; omega) (show 0 < H by have := h.2.1.1; omega)
  have h2 := h.2.2
  omega

set_option maxHeartbeats 16000000 in
set_option maxRecDepth 100000 in
theorem colorsCount_any (W H : Int) (a : Option Addr) (n c : Nat) (p : Nat → Px) (mo : Int) (w : World) (A : Nat → Addr) (hS : Sent w A) (hP : IsPx w a n p) (_bW : -9223372036854775808 ≤ W ∧ W ≤ 9223372036854775807) (_bH : -9223372036854775808 ≤ H ∧ H ≤ 9223372036854775807) :
    Calls Tryd.prog 3 #[.agg #[.int .i64 W, .int .i64 H, .slice a n c], .int .i64 mo] w fun e w' => e = .returned (.bool true) ∧ Below w.heap.size w w' := by
  have HSW := hide (fun wr (hb : Below w.heap.size w wr) => hS.below hb)
  have HPW := hide (fun wr (hb : Below w.heap.size w wr) => hP.below hb)
  have hHA0 := hide (al1 w (.cells #[.int .i64 W, .int .i64 H, .slice a n c] 24))
  obtain ⟨B, hB⟩ : ∃ B, B = w.heap.size := ⟨_, rfl⟩
  clear hS hP _bW _bH
  go_enter Tryd.func3, Tryd.ntmps3
  go_wp2_with fail
  generalize w.alloc (.cells #[.int .i64 W, .int .i64 H, .slice a n c] 24) = w1 at *
  rw [← hB] at HSW HPW hHA0 ⊢
  obtain ⟨hs0, kB, hb0⟩ := unhide hHA0
  have HK := hide kB
  have HB := hide hb0
  have HBE := hide hB
  have hBs : B + 1 ≤ w1.heap.size := by omega
  clear hHA0 hb0 hs0 hB kB
  refine (grey_any _).mono ?_
  rintro e w2 ⟨rfl, hb2⟩
  have hsz := hb2.size
  have HK := hide (blk_below (unhide HK) hb2 (blk_lt (unhide HK)))
  have HB := hide ((unhide HB).trans (hb2.mono (by omega)))
  have hBs : B + 1 ≤ w2.heap.size := by omega
  clear hb2 hsz
  by_cases hn3 : n ≤ 3000
  rotate_left
  · have HSm := hide (fun w' => small3_any W H a n c w')
    rw [decide_eq_false hn3] at HSm
    have HSm := HSm
    have d0 : w2.cell? ⟨B, 0, none⟩ = some (.int .i64 W) := blk_cell (unhide HK) 0
    have d1 : w2.cell? ⟨B, 1, none⟩ = some (.int .i64 H) := blk_cell (unhide HK) 1
    have d2 : w2.cell? ⟨B, 2, none⟩ = some (.slice a n c) := blk_cell (unhide HK) 2
    go_wp2_with fail
    clear d0 d1 d2
    refine (unhide HSm _).mono ?_
    rintro e w3 ⟨rfl, hb3⟩
    have hsz := hb3.size
    have HK := hide (blk_below (unhide HK) hb3 (blk_lt (unhide HK)))
    have HB := hide ((unhide HB).trans (hb3.mono (by omega)))
    have hBs : B + 1 ≤ w3.heap.size := by omega
    clear hb3 hsz
    clear HSW HPW HK
    go_wp2
    go_ret
    exact ⟨rfl, bel_atC (unhide HBE) (unhide HB)⟩
  have HSm := hide (fun w' => small3_any W H a n c w')
  rw [decide_eq_true hn3] at HSm
  have d0 : w2.cell? ⟨B, 0, none⟩ = some (.int .i64 W) := blk_cell (unhide HK) 0
  have d1 : w2.cell? ⟨B, 1, none⟩ = some (.int .i64 H) := blk_cell (unhide HK) 1
  have d2 : w2.cell? ⟨B, 2, none⟩ = some (.slice a n c) := blk_cell (unhide HK) 2
  go_wp2_with fail
  clear d0 d1 d2
  refine (unhide HSm _).mono ?_
  rintro e w3 ⟨rfl, hb3⟩
  have hsz := hb3.size
  have HK := hide (blk_below (unhide HK) hb3 (blk_lt (unhide HK)))
  have HB := hide ((unhide HB).trans (hb3.mono (by omega)))
  have hBs : B + 1 ≤ w3.heap.size := by omega
  clear hb3 hsz
  clear HSm
  have HOw := hide (fun wr (hb : Below B w wr) => own_isPx W H a n c p wr (unhide HPW wr hb) (by omega))
  have HRi := hide (fun w' => pright_any W H a n c w')
  by_cases hR : RightP W H n
  rotate_left
  · have hE : cE W H n mo = 3 := cE_shape hR
    have HCn := hide (fun a1 c1 wr (hb : Below B w wr) => count_bad W H a1 n c1 wr A (fun i hi => (unhide HSW wr hb).cell i (by simp at hi; omega)) hR)
    have HEx := hide (fun a1 c1 wr (hb : Below B w wr) => exact_err W H a1 n c1 mo wr A (fun i hi => (unhide HSW wr hb).cell i (by simp at hi; omega)) (by rw [hE]; omega))
    rw [hE] at HEx
    have HEx : Hid (∀ a1 c1 wr, Below B w wr → Calls Tryd.prog 11 #[.agg #[.int .i64 W, .int .i64 H, .slice a1 n c1], .int .i64 mo] wr fun e w' => e = .returned (.tuple #[.slice none 0 0, .slice none 0 0, sentV A 2]) ∧ Below wr.heap.size wr w') := HEx
    have HCo := hide (fun wr (hb : Below B w wr) => coded3_sent 2 3 wr A (unhide HSW wr hb) (by omega) rfl)
    rw [decide_eq_false hR] at HRi
    clear hR hE
    generalize sentV A 2 = s2 at *
    have d0 : w3.cell? ⟨B, 0, none⟩ = some (.int .i64 W) := blk_cell (unhide HK) 0
    have d1 : w3.cell? ⟨B, 1, none⟩ = some (.int .i64 H) := blk_cell (unhide HK) 1
    have d2 : w3.cell? ⟨B, 2, none⟩ = some (.slice a n c) := blk_cell (unhide HK) 2
    go_wp2_with fail
    clear d0 d1 d2
    refine (unhide HOw _ (unhide HB)).mono ?_
    rintro e w4 ⟨a1, c1, rfl, hp1, hb4⟩
    have HP1 := hide hp1
    clear hp1
    have hsz := hb4.size
    have HK := hide (blk_below (unhide HK) hb4 (blk_lt (unhide HK)))
    have HB := hide ((unhide HB).trans (hb4.mono (by omega)))
    have hBs : B + 1 ≤ w4.heap.size := by omega
    clear hb4 hsz
    go_wp2_with fail
    refine (unhide HCn a1 c1 _ (unhide HB)).mono ?_
    rintro e w5 ⟨rfl, hb5⟩
    have hsz := hb5.size
    have HK := hide (blk_below (unhide HK) hb5 (blk_lt (unhide HK)))
    have HP1 := hide ((unhide HP1).below hb5)
    have HB := hide ((unhide HB).trans (hb5.mono (by omega)))
    have hBs : B + 1 ≤ w5.heap.size := by omega
    clear hb5 hsz
    clear HP1
    have d0 : w5.cell? ⟨B, 0, none⟩ = some (.int .i64 W) := blk_cell (unhide HK) 0
    have d1 : w5.cell? ⟨B, 1, none⟩ = some (.int .i64 H) := blk_cell (unhide HK) 1
    have d2 : w5.cell? ⟨B, 2, none⟩ = some (.slice a n c) := blk_cell (unhide HK) 2
    go_wp2_with fail
    clear d0 d1 d2
    refine (unhide HOw _ (unhide HB)).mono ?_
    rintro e w6 ⟨a2, c2, rfl, hp2, hb6⟩
    have HP2 := hide hp2
    clear hp2
    have hsz := hb6.size
    have HK := hide (blk_below (unhide HK) hb6 (blk_lt (unhide HK)))
    have HB := hide ((unhide HB).trans (hb6.mono (by omega)))
    have hBs : B + 1 ≤ w6.heap.size := by omega
    clear hb6 hsz
    go_wp2_with fail
    refine (unhide HEx a2 c2 _ (unhide HB)).mono ?_
    rintro e w7 ⟨rfl, hb7⟩
    have hsz := hb7.size
    have HK := hide (blk_below (unhide HK) hb7 (blk_lt (unhide HK)))
    have HP2 := hide ((unhide HP2).below hb7)
    have HB := hide ((unhide HB).trans (hb7.mono (by omega)))
    have hBs : B + 1 ≤ w7.heap.size := by omega
    clear hb7 hsz
    clear HP2
    have d0 : w7.cell? ⟨B, 0, none⟩ = some (.int .i64 W) := blk_cell (unhide HK) 0
    have d1 : w7.cell? ⟨B, 1, none⟩ = some (.int .i64 H) := blk_cell (unhide HK) 1
    have d2 : w7.cell? ⟨B, 2, none⟩ = some (.slice a n c) := blk_cell (unhide HK) 2
    go_wp2_with fail
    clear d0 d1 d2
    refine (unhide HRi _).mono ?_
    rintro e w8 ⟨rfl, hb8⟩
    have hsz := hb8.size
    have HK := hide (blk_below (unhide HK) hb8 (blk_lt (unhide HK)))
    have HB := hide ((unhide HB).trans (hb8.mono (by omega)))
    have hBs : B + 1 ≤ w8.heap.size := by omega
    clear hb8 hsz
    go_wp2_with fail
    refine (unhide HCo _ (unhide HB)).mono ?_
    rintro e w9 ⟨rfl, hb9⟩
    have hsz := hb9.size
    have HK := hide (blk_below (unhide HK) hb9 (blk_lt (unhide HK)))
    have HB := hide ((unhide HB).trans (hb9.mono (by omega)))
    have hBs : B + 1 ≤ w9.heap.size := by omega
    clear hb9 hsz
    go_wp2_with fail
    refine (unhide HCo _ (unhide HB)).mono ?_
    rintro e w10 ⟨rfl, hb10⟩
    have hsz := hb10.size
    have HK := hide (blk_below (unhide HK) hb10 (blk_lt (unhide HK)))
    have HB := hide ((unhide HB).trans (hb10.mono (by omega)))
    have hBs : B + 1 ≤ w10.heap.size := by omega
    clear hb10 hsz
    clear HSW HPW HOw HRi HCn HEx HCo HK
    go_wp2
    go_ret
    exact ⟨rfl, bel_atC (unhide HBE) (unhide HB)⟩
  rw [decide_eq_true hR] at HRi
  have hn1 : 1 ≤ n := right_posC hR
  have hul := ulk_len p n
  obtain ⟨U, hU⟩ : ∃ U : Nat → Us, U = fun i => (ucnt p n).getD i default := ⟨_, rfl⟩
  have HCn : Hid (∀ a1 c1 wr, IsPx wr a1 n p → Calls Tryd.prog 9 #[.agg #[.int .i64 W, .int .i64 H, .slice a1 n c1]] wr fun e w' => ∃ u1 d1, e = .returned (.tuple #[.slice u1 (ulk p n).length d1, .nilIface]) ∧ IsUs w' u1 (ulk p n).length U ∧ Below wr.heap.size wr w') := fun a1 c1 wr h => (count_ok W H a1 n c1 p wr h (by omega) hR).mono fun _ _ ⟨u1, d1, he, ho, hb⟩ => ⟨u1, d1, he, by rw [hU]; exact own_us ho (ucnt_length p n) (by unfold maxLen; omega), hb⟩
  have HWt : Hid (∀ wr, Below B w wr → Calls Tryd.prog 14 #[.agg #[.int .i64 W, .int .i64 H, .slice a n c]] wr fun e w' => ∃ u1 d1, e = .returned (.slice u1 (ulk p n).length d1) ∧ IsUs w' u1 (ulk p n).length U ∧ Below wr.heap.size wr w') := fun wr hb => (countOf_any W H a n c p wr (unhide HPW wr hb) (by omega)).mono fun _ _ ⟨u1, d1, he, ho, hb⟩ => ⟨u1, d1, he, by rw [hU]; exact own_us ho (ucnt_length p n) (by unfold maxLen; omega), hb⟩
  clear hU
  have HEe := hide (fun a1 c1 wr (hb : Below B w wr) h => exact_err W H a1 n c1 mo wr A (fun i hi => (unhide HSW wr hb).cell i (by simp at hi; omega)) h)
  have HEm := hide (fun a1 c1 wr (hb : Below B w wr) (m : Nat) (hp : IsPx wr a1 n p) h0 h => exact_many W H a1 n c1 p (m : Int) wr A (fun i hi => (unhide HSW wr hb).cell i (by simp at hi; omega)) hp (by omega) h0 h)
  have HEo := hide (fun a1 c1 wr (hb : Below B w wr) (m : Nat) (hp : IsPx wr a1 n p) h0 h => exact_ok W H a1 n c1 p (m : Int) wr A (fun i hi => (unhide HSW wr hb).cell i (by simp at hi; omega)) hp (by omega) h0 h)
  have HUn := hide (fun wr (hb : Below B w wr) => unlike_any W H a n c p wr (unhide HPW wr hb) (by omega))
  have HPX : Hid (pxL (ulk p n) = pxVals (fun i => (ulk p n).getD i default) (ulk p n).length) := pxL_vals _
  have hc2 : ∀ i, coded3_sent i = coded3_sent i := fun _ => rfl
  clear hc2
  have HCo := hide (fun i z wr (hb : Below B w wr) (hi : i < 9) hz => coded3_sent i z wr A (unhide HSW wr hb) hi hz)
  obtain ⟨K, hK⟩ : ∃ K, K = (ulk p n).length := ⟨_, rfl⟩
  have hKn : K ≤ 3000 := by omega
  rw [← hK] at HCn HWt HEm HEo HUn HPX
  clear hul hK
  have HR := hide hR
  by_cases hb2 : 1 ≤ mo ∧ mo ≤ 256
  rotate_left
  · have hE : cE W H n mo = 2 := cE_bound hR hb2
    have HEx : Hid (∀ a1 c1 wr, Below B w wr → Calls Tryd.prog 11 #[.agg #[.int .i64 W, .int .i64 H, .slice a1 n c1], .int .i64 mo] wr fun e w' => e = .returned (.tuple #[.slice none 0 0, .slice none 0 0, sentV A 1]) ∧ Below wr.heap.size wr w') := fun a1 c1 wr hb => by have h := unhide HEe a1 c1 wr hb (by rw [hE]; omega); rw [hE] at h; exact h
    have HC1 := hide (fun wr hb => unhide HCo 1 2 wr hb (by omega) rfl)
    clear hE hR
    generalize sentV A 1 = s1 at *
    have d0 : w3.cell? ⟨B, 0, none⟩ = some (.int .i64 W) := blk_cell (unhide HK) 0
    have d1 : w3.cell? ⟨B, 1, none⟩ = some (.int .i64 H) := blk_cell (unhide HK) 1
    have d2 : w3.cell? ⟨B, 2, none⟩ = some (.slice a n c) := blk_cell (unhide HK) 2
    go_wp2_with fail
    clear d0 d1 d2
    refine (unhide HOw _ (unhide HB)).mono ?_
    rintro e w4 ⟨a1, c1, rfl, hp1, hb4⟩
    have HP1 := hide hp1
    clear hp1
    have hsz := hb4.size
    have HK := hide (blk_below (unhide HK) hb4 (blk_lt (unhide HK)))
    have HB := hide ((unhide HB).trans (hb4.mono (by omega)))
    have hBs : B + 1 ≤ w4.heap.size := by omega
    clear hb4 hsz
    go_wp2_with fail
    refine (unhide HCn a1 c1 _ (unhide HP1)).mono ?_
    rintro e w5 ⟨u1, d1, rfl, hu1, hb5⟩
    have HU1 := hide hu1
    clear hu1
    have hsz := hb5.size
    have HK := hide (blk_below (unhide HK) hb5 (blk_lt (unhide HK)))
    have HP1 := hide ((unhide HP1).below hb5)
    have HB := hide ((unhide HB).trans (hb5.mono (by omega)))
    have hBs : B + 1 ≤ w5.heap.size := by omega
    clear hb5 hsz
    clear HP1
    have d0 : w5.cell? ⟨B, 0, none⟩ = some (.int .i64 W) := blk_cell (unhide HK) 0
    have d1 : w5.cell? ⟨B, 1, none⟩ = some (.int .i64 H) := blk_cell (unhide HK) 1
    have d2 : w5.cell? ⟨B, 2, none⟩ = some (.slice a n c) := blk_cell (unhide HK) 2
    go_wp2_with fail
    clear d0 d1 d2
    refine (unhide HOw _ (unhide HB)).mono ?_
    rintro e w6 ⟨a2, c2, rfl, hp2, hb6⟩
    have HP2 := hide hp2
    clear hp2
    have hsz := hb6.size
    have HK := hide (blk_below (unhide HK) hb6 (blk_lt (unhide HK)))
    have HU1 := hide ((unhide HU1).below hb6)
    have HB := hide ((unhide HB).trans (hb6.mono (by omega)))
    have hBs : B + 1 ≤ w6.heap.size := by omega
    clear hb6 hsz
    go_wp2_with fail
    refine (unhide HEx a2 c2 _ (unhide HB)).mono ?_
    rintro e w7 ⟨rfl, hb7⟩
    have hsz := hb7.size
    have HK := hide (blk_below (unhide HK) hb7 (blk_lt (unhide HK)))
    have HU1 := hide ((unhide HU1).below hb7)
    have HP2 := hide ((unhide HP2).below hb7)
    have HB := hide ((unhide HB).trans (hb7.mono (by omega)))
    have hBs : B + 1 ≤ w7.heap.size := by omega
    clear hb7 hsz
    clear HP2
    have d0 : w7.cell? ⟨B, 0, none⟩ = some (.int .i64 W) := blk_cell (unhide HK) 0
    have d1 : w7.cell? ⟨B, 1, none⟩ = some (.int .i64 H) := blk_cell (unhide HK) 1
    have d2 : w7.cell? ⟨B, 2, none⟩ = some (.slice a n c) := blk_cell (unhide HK) 2
    go_wp2_with fail
    clear d0 d1 d2
    refine (unhide HRi _).mono ?_
    rintro e w8 ⟨rfl, hb8⟩
    have hsz := hb8.size
    have HK := hide (blk_below (unhide HK) hb8 (blk_lt (unhide HK)))
    have HU1 := hide ((unhide HU1).below hb8)
    have HB := hide ((unhide HB).trans (hb8.mono (by omega)))
    have hBs : B + 1 ≤ w8.heap.size := by omega
    clear hb8 hsz
    have d0 : w8.cell? ⟨B, 0, none⟩ = some (.int .i64 W) := blk_cell (unhide HK) 0
    have d1 : w8.cell? ⟨B, 1, none⟩ = some (.int .i64 H) := blk_cell (unhide HK) 1
    have d2 : w8.cell? ⟨B, 2, none⟩ = some (.slice a n c) := blk_cell (unhide HK) 2
    go_wp2_with fail
    clear d0 d1 d2
    refine (unhide HWt _ (unhide HB)).mono ?_
    rintro e w9 ⟨u2, d2, rfl, hu2, hb9⟩
    have HU2 := hide hu2
    clear hu2
    have hsz := hb9.size
    have HK := hide (blk_below (unhide HK) hb9 (blk_lt (unhide HK)))
    have HU1 := hide ((unhide HU1).below hb9)
    have HB := hide ((unhide HB).trans (hb9.mono (by omega)))
    have hBs : B + 1 ≤ w9.heap.size := by omega
    clear hb9 hsz
    go_wp2
    go_loopw [13] (fun iv wr => ∃ i nn : Nat, i ≤ K ∧ iv = .int .i64 (i : Int) ∧ wr = w9.drewN nn) (fun iv _ => K - (intOf iv).toNat)
    case atStart => exact ⟨0, 0, by omega, rfl, rfl⟩
    obtain ⟨i, nn, hi, rfl, rfl⟩ := hrel
    by_cases hlt : i < K
    · have g1 : decide ((i : Int) < (K : Int)) = true := decide_eq_true (by omega)
      have g1n : decide (i < K) = true := decide_eq_true hlt
      have gii : (i : Int) < (K : Int) := by omega
      obtain ⟨b1, o1, rfl, _, h1⟩ := (unhide HU1).resolve_left (by omega)
      obtain ⟨b2, o2, rfl, _, h2⟩ := (unhide HU2).resolve_left (by omega)
      obtain ⟨⟨x0, x1, x2, x3⟩, x4⟩ := h1 i hlt
      obtain ⟨⟨y0, y1, y2, y3⟩, y4⟩ := h2 i hlt
      clear h1 h2 HU1 HU2 HSW HPW HOw HRi HCn HWt HEe HEm HEo HUn HPX HCo HR
      go_wp2
      go_quiet (fail)
      go_wp2
      go_roundw
      case rel => exact ⟨i + 1, _, by omega, by go_num, rfl⟩
      case measure => simp [intOf]; omega
    obtain rfl : i = K := by omega
    have g1 : decide ((i : Int) < (i : Int)) = false := by simp
    have hbD := below_drewN (Below.refl w9.heap.size w9) nn
    generalize w9.drewN nn = w10 at *
    have hsz := hbD.size
    have HK := hide (blk_below (unhide HK) hbD (blk_lt (unhide HK)))
    have HU1 := hide ((unhide HU1).below hbD)
    have HU2 := hide ((unhide HU2).below hbD)
    have HB := hide ((unhide HB).trans (hbD.mono (by omega)))
    have hBs : B + 1 ≤ w10.heap.size := by omega
    clear hbD hsz
    clear HU1 HU2
    clear HPW HOw HRi HCn HWt HEe HEm HEo HUn HPX HCo HR HEx
    rcases (show (mo < 1 ∧ ¬ mo > 256) ∨ (¬ mo < 1 ∧ mo > 256) by omega) with ⟨m1, m2⟩ | ⟨m1, m2⟩
    all_goals
      first | have e1 : decide (mo < 1) = true := decide_eq_true m1 | have e1 : decide (mo < 1) = false := decide_eq_false m1
      first | have e2 : decide (mo > 256) = true := decide_eq_true m2 | have e2 : decide (mo > 256) = false := decide_eq_false m2
      first | have e2' : decide ((256 : Int) < mo) = true := decide_eq_true m2 | have e2' : decide ((256 : Int) < mo) = false := decide_eq_false m2
      by_cases m3 : (i : Int) > mo
      all_goals
        first | have e3 : decide ((i : Int) > mo) = true := decide_eq_true m3 | have e3 : decide ((i : Int) > mo) = false := decide_eq_false m3
        first | have e3' : decide (mo < (i : Int)) = true := decide_eq_true m3 | have e3' : decide (mo < (i : Int)) = false := decide_eq_false m3
        clear m3
        go_wp2_with fail
        refine (unhide HC1 _ (unhide HB)).mono ?_
        rintro e wz ⟨rfl, hbz⟩
        have HBz := hide ((unhide HB).trans (hbz.mono (by omega)))
        clear hbz
        go_wp2
        go_ret
        exact ⟨rfl, bel_atC (unhide HBE) (unhide HBz)⟩
  obtain ⟨mo, rfl⟩ := Int.eq_ofNat_of_zero_le (show 0 ≤ mo by omega)
  have HE0 : Hid (cE W H n (mo : Int) = 0) := cE_right hR hb2.1 hb2.2
  have e1 : decide ((mo : Int) < 1) = false := decide_eq_false (by omega)
  have e2 : decide ((mo : Int) > 256) = false := decide_eq_false (by omega)
  have e2' : decide ((256 : Int) < (mo : Int)) = false := e2
  have e2n : decide (256 < mo) = false := decide_eq_false (by omega)
  have e1n : decide (mo < 1) = false := decide_eq_false (by omega)
  clear hR
  by_cases hm : mo < K
  rotate_left
  · have e3 : decide ((K : Int) > (mo : Int)) = false := decide_eq_false (by omega)
    have e3' : decide ((mo : Int) < (K : Int)) = false := e3
    have e3n : decide (mo < K) = false := decide_eq_false hm
    have hKm : (K : Int) ≤ (mo : Int) := by omega
    clear hb2
    have d0 : w3.cell? ⟨B, 0, none⟩ = some (.int .i64 W) := blk_cell (unhide HK) 0
    have d1 : w3.cell? ⟨B, 1, none⟩ = some (.int .i64 H) := blk_cell (unhide HK) 1
    have d2 : w3.cell? ⟨B, 2, none⟩ = some (.slice a n c) := blk_cell (unhide HK) 2
    go_wp2_with fail
    clear d0 d1 d2
    refine (unhide HOw _ (unhide HB)).mono ?_
    rintro e w4 ⟨a1, c1, rfl, hp1, hb4⟩
    have HP1 := hide hp1
    clear hp1
    have hsz := hb4.size
    have HK := hide (blk_below (unhide HK) hb4 (blk_lt (unhide HK)))
    have HB := hide ((unhide HB).trans (hb4.mono (by omega)))
    have hBs : B + 1 ≤ w4.heap.size := by omega
    clear hb4 hsz
    go_wp2_with fail
    refine (unhide HCn a1 c1 _ (unhide HP1)).mono ?_
    rintro e w5 ⟨u1, d1, rfl, hu1, hb5⟩
    have HU1 := hide hu1
    clear hu1
    have hsz := hb5.size
    have HK := hide (blk_below (unhide HK) hb5 (blk_lt (unhide HK)))
    have HP1 := hide ((unhide HP1).below hb5)
    have HB := hide ((unhide HB).trans (hb5.mono (by omega)))
    have hBs : B + 1 ≤ w5.heap.size := by omega
    clear hb5 hsz
    clear HP1
    have d0 : w5.cell? ⟨B, 0, none⟩ = some (.int .i64 W) := blk_cell (unhide HK) 0
    have d1 : w5.cell? ⟨B, 1, none⟩ = some (.int .i64 H) := blk_cell (unhide HK) 1
    have d2 : w5.cell? ⟨B, 2, none⟩ = some (.slice a n c) := blk_cell (unhide HK) 2
    go_wp2_with fail
    clear d0 d1 d2
    refine (unhide HOw _ (unhide HB)).mono ?_
    rintro e w6 ⟨a2, c2, rfl, hp2, hb6⟩
    have HP2 := hide hp2
    clear hp2
    have hsz := hb6.size
    have HK := hide (blk_below (unhide HK) hb6 (blk_lt (unhide HK)))
    have HU1 := hide ((unhide HU1).below hb6)
    have HB := hide ((unhide HB).trans (hb6.mono (by omega)))
    have hBs : B + 1 ≤ w6.heap.size := by omega
    clear hb6 hsz
    go_wp2_with fail
    refine (unhide HEo a2 c2 _ (unhide HB) mo (unhide HP2) (unhide HE0) hKm).mono ?_
    rintro e w7 ⟨a3, c3, a4, c4, rfl, hp3, ho4, hb7⟩
    have HP3 := hide hp3
    have HN4 := hide (own_nm ho4 (nmL_length p n) hn1)
    clear hp3 ho4
    have hsz := hb7.size
    have HK := hide (blk_below (unhide HK) hb7 (blk_lt (unhide HK)))
    have HU1 := hide ((unhide HU1).below hb7)
    have HP2 := hide ((unhide HP2).below hb7)
    have HB := hide ((unhide HB).trans (hb7.mono (by omega)))
    have hBs : B + 1 ≤ w7.heap.size := by omega
    clear hb7 hsz
    clear HP2
    have d0 : w7.cell? ⟨B, 0, none⟩ = some (.int .i64 W) := blk_cell (unhide HK) 0
    have d1 : w7.cell? ⟨B, 1, none⟩ = some (.int .i64 H) := blk_cell (unhide HK) 1
    have d2 : w7.cell? ⟨B, 2, none⟩ = some (.slice a n c) := blk_cell (unhide HK) 2
    go_wp2_with fail
    clear d0 d1 d2
    refine (unhide HRi _).mono ?_
    rintro e w8 ⟨rfl, hb8⟩
    have hsz := hb8.size
    have HK := hide (blk_below (unhide HK) hb8 (blk_lt (unhide HK)))
    have HU1 := hide ((unhide HU1).below hb8)
    have HP3 := hide ((unhide HP3).below hb8)
    have HN4 := hide ((unhide HN4).below hb8)
    have HB := hide ((unhide HB).trans (hb8.mono (by omega)))
    have hBs : B + 1 ≤ w8.heap.size := by omega
    clear hb8 hsz
    have d0 : w8.cell? ⟨B, 0, none⟩ = some (.int .i64 W) := blk_cell (unhide HK) 0
    have d1 : w8.cell? ⟨B, 1, none⟩ = some (.int .i64 H) := blk_cell (unhide HK) 1
    have d2 : w8.cell? ⟨B, 2, none⟩ = some (.slice a n c) := blk_cell (unhide HK) 2
    go_wp2_with fail
    clear d0 d1 d2
    refine (unhide HWt _ (unhide HB)).mono ?_
    rintro e w9 ⟨u2, d2, rfl, hu2, hb9⟩
    have HU2 := hide hu2
    clear hu2
    have hsz := hb9.size
    have HK := hide (blk_below (unhide HK) hb9 (blk_lt (unhide HK)))
    have HU1 := hide ((unhide HU1).below hb9)
    have HP3 := hide ((unhide HP3).below hb9)
    have HN4 := hide ((unhide HN4).below hb9)
    have HB := hide ((unhide HB).trans (hb9.mono (by omega)))
    have hBs : B + 1 ≤ w9.heap.size := by omega
    clear hb9 hsz
    go_wp2
    go_loopw [13] (fun iv wr => ∃ i nn : Nat, i ≤ K ∧ iv = .int .i64 (i : Int) ∧ wr = w9.drewN nn) (fun iv _ => K - (intOf iv).toNat)
    case atStart => exact ⟨0, 0, by omega, rfl, rfl⟩
    obtain ⟨i, nn, hi, rfl, rfl⟩ := hrel
    by_cases hlt : i < K
    · have g1 : decide ((i : Int) < (K : Int)) = true := decide_eq_true (by omega)
      have g1n : decide (i < K) = true := decide_eq_true hlt
      have gii : (i : Int) < (K : Int) := by omega
      obtain ⟨b1, o1, rfl, _, h1⟩ := (unhide HU1).resolve_left (by omega)
      obtain ⟨b2, o2, rfl, _, h2⟩ := (unhide HU2).resolve_left (by omega)
      obtain ⟨⟨x0, x1, x2, x3⟩, x4⟩ := h1 i hlt
      obtain ⟨⟨y0, y1, y2, y3⟩, y4⟩ := h2 i hlt
      clear h1 h2 HU1 HU2 HSW HPW HOw HRi HCn HWt HEe HEm HEo HUn HPX HCo HR
      go_wp2
      go_quiet (fail)
      go_wp2
      go_roundw
      case rel => exact ⟨i + 1, _, by omega, by go_num, rfl⟩
      case measure => simp [intOf]; omega
    obtain rfl : i = K := by omega
    have g1 : decide ((i : Int) < (i : Int)) = false := by simp
    have hbD := below_drewN (Below.refl w9.heap.size w9) nn
    generalize w9.drewN nn = w10 at *
    have hsz := hbD.size
    have HK := hide (blk_below (unhide HK) hbD (blk_lt (unhide HK)))
    have HU1 := hide ((unhide HU1).below hbD)
    have HP3 := hide ((unhide HP3).below hbD)
    have HN4 := hide ((unhide HN4).below hbD)
    have HU2 := hide ((unhide HU2).below hbD)
    have HB := hide ((unhide HB).trans (hbD.mono (by omega)))
    have hBs : B + 1 ≤ w10.heap.size := by omega
    clear hbD hsz
    clear HU1 HU2
    clear HOw HRi HCn HWt HEe HEm HEo HCo HR HE0
    have d0 : w10.cell? ⟨B, 0, none⟩ = some (.int .i64 W) := blk_cell (unhide HK) 0
    have d1 : w10.cell? ⟨B, 1, none⟩ = some (.int .i64 H) := blk_cell (unhide HK) 1
    have d2 : w10.cell? ⟨B, 2, none⟩ = some (.slice a n c) := blk_cell (unhide HK) 2
    go_wp2_with fail
    clear d0 d1 d2
    refine (unhide HUn _ (unhide HB)).mono ?_
    rintro e w11 ⟨a5, c5, a6, c6, rfl, ⟨ho5, ho6⟩, hb11⟩
    have HN6 := hide (own_nm ho6 (nmL_length p n) hn1)
    rw [unhide HPX] at ho5
    have HP5 := hide (own_px ho5 (by unfold maxLen; omega))
    clear ho5 ho6
    have hsz := hb11.size
    have HK := hide (blk_below (unhide HK) hb11 (blk_lt (unhide HK)))
    have HP3 := hide ((unhide HP3).below hb11)
    have HN4 := hide ((unhide HN4).below hb11)
    have HB := hide ((unhide HB).trans (hb11.mono (by omega)))
    have hBs : B + 1 ≤ w11.heap.size := by omega
    clear hb11 hsz
    go_wp2_with fail
    refine (samePixels_any a3 a5 i c3 c5 _ _ (unhide HP3) (unhide HP5) (by omega)).mono ?_
    rintro e w12 ⟨rfl, hb12⟩
    have hsz := hb12.size
    have HK := hide (blk_below (unhide HK) hb12 (blk_lt (unhide HK)))
    have HP3 := hide ((unhide HP3).below hb12)
    have HN4 := hide ((unhide HN4).below hb12)
    have HN6 := hide ((unhide HN6).below hb12)
    have HP5 := hide ((unhide HP5).below hb12)
    have HB := hide ((unhide HB).trans (hb12.mono (by omega)))
    have hBs : B + 1 ≤ w12.heap.size := by omega
    clear hb12 hsz
    go_wp2_with fail
    refine (sameNm_any a4 a6 n c4 c6 _ _ (unhide HN4) (unhide HN6) (nmL_length p n) (by omega)).mono ?_
    rintro e w13 ⟨rfl, hb13⟩
    have hsz := hb13.size
    have HK := hide (blk_below (unhide HK) hb13 (blk_lt (unhide HK)))
    have HP3 := hide ((unhide HP3).below hb13)
    have HN4 := hide ((unhide HN4).below hb13)
    have HN6 := hide ((unhide HN6).below hb13)
    have HP5 := hide ((unhide HP5).below hb13)
    have HB := hide ((unhide HB).trans (hb13.mono (by omega)))
    have hBs : B + 1 ≤ w13.heap.size := by omega
    clear hb13 hsz
    clear HPW HUn HPX HSW HP3 HP5 HN4 HN6 HK
    go_wp2
    go_ret
    exact ⟨rfl, bel_atC (unhide HBE) (unhide HB)⟩
  have e3 : decide ((K : Int) > (mo : Int)) = true := decide_eq_true (by omega)
  have e3' : decide ((mo : Int) < (K : Int)) = true := e3
  have e3n : decide (mo < K) = true := decide_eq_true hm
  have hKm : (mo : Int) < (K : Int) := by omega
  clear hb2
  have HC6 := hide (fun wr hb => unhide HCo 6 7 wr hb (by omega) rfl)
  generalize sentV A 6 = s6 at *
  have d0 : w3.cell? ⟨B, 0, none⟩ = some (.int .i64 W) := blk_cell (unhide HK) 0
  have d1 : w3.cell? ⟨B, 1, none⟩ = some (.int .i64 H) := blk_cell (unhide HK) 1
  have d2 : w3.cell? ⟨B, 2, none⟩ = some (.slice a n c) := blk_cell (unhide HK) 2
  go_wp2_with fail
  clear d0 d1 d2
  refine (unhide HOw _ (unhide HB)).mono ?_
  rintro e w4 ⟨a1, c1, rfl, hp1, hb4⟩
  have HP1 := hide hp1
  clear hp1
  have hsz := hb4.size
  have HK := hide (blk_below (unhide HK) hb4 (blk_lt (unhide HK)))
  have HB := hide ((unhide HB).trans (hb4.mono (by omega)))
  have hBs : B + 1 ≤ w4.heap.size := by omega
  clear hb4 hsz
  go_wp2_with fail
  refine (unhide HCn a1 c1 _ (unhide HP1)).mono ?_
  rintro e w5 ⟨u1, d1, rfl, hu1, hb5⟩
  have HU1 := hide hu1
  clear hu1
  have hsz := hb5.size
  have HK := hide (blk_below (unhide HK) hb5 (blk_lt (unhide HK)))
  have HP1 := hide ((unhide HP1).below hb5)
  have HB := hide ((unhide HB).trans (hb5.mono (by omega)))
  have hBs : B + 1 ≤ w5.heap.size := by omega
  clear hb5 hsz
  clear HP1
  have d0 : w5.cell? ⟨B, 0, none⟩ = some (.int .i64 W) := blk_cell (unhide HK) 0
  have d1 : w5.cell? ⟨B, 1, none⟩ = some (.int .i64 H) := blk_cell (unhide HK) 1
  have d2 : w5.cell? ⟨B, 2, none⟩ = some (.slice a n c) := blk_cell (unhide HK) 2
  go_wp2_with fail
  clear d0 d1 d2
  refine (unhide HOw _ (unhide HB)).mono ?_
  rintro e w6 ⟨a2, c2, rfl, hp2, hb6⟩
  have HP2 := hide hp2
  clear hp2
  have hsz := hb6.size
  have HK := hide (blk_below (unhide HK) hb6 (blk_lt (unhide HK)))
  have HU1 := hide ((unhide HU1).below hb6)
  have HB := hide ((unhide HB).trans (hb6.mono (by omega)))
  have hBs : B + 1 ≤ w6.heap.size := by omega
  clear hb6 hsz
  go_wp2_with fail
  refine (unhide HEm a2 c2 _ (unhide HB) mo (unhide HP2) (unhide HE0) hKm).mono ?_
  rintro e w7 ⟨rfl, hb7⟩
  have hsz := hb7.size
  have HK := hide (blk_below (unhide HK) hb7 (blk_lt (unhide HK)))
  have HU1 := hide ((unhide HU1).below hb7)
  have HP2 := hide ((unhide HP2).below hb7)
  have HB := hide ((unhide HB).trans (hb7.mono (by omega)))
  have hBs : B + 1 ≤ w7.heap.size := by omega
  clear hb7 hsz
  clear HP2
  have d0 : w7.cell? ⟨B, 0, none⟩ = some (.int .i64 W) := blk_cell (unhide HK) 0
  have d1 : w7.cell? ⟨B, 1, none⟩ = some (.int .i64 H) := blk_cell (unhide HK) 1
  have d2 : w7.cell? ⟨B, 2, none⟩ = some (.slice a n c) := blk_cell (unhide HK) 2
  go_wp2_with fail
  clear d0 d1 d2
  refine (unhide HRi _).mono ?_
  rintro e w8 ⟨rfl, hb8⟩
  have hsz := hb8.size
  have HK := hide (blk_below (unhide HK) hb8 (blk_lt (unhide HK)))
  have HU1 := hide ((unhide HU1).below hb8)
  have HB := hide ((unhide HB).trans (hb8.mono (by omega)))
  have hBs : B + 1 ≤ w8.heap.size := by omega
  clear hb8 hsz
  have d0 : w8.cell? ⟨B, 0, none⟩ = some (.int .i64 W) := blk_cell (unhide HK) 0
  have d1 : w8.cell? ⟨B, 1, none⟩ = some (.int .i64 H) := blk_cell (unhide HK) 1
  have d2 : w8.cell? ⟨B, 2, none⟩ = some (.slice a n c) := blk_cell (unhide HK) 2
  go_wp2_with fail
  clear d0 d1 d2
  refine (unhide HWt _ (unhide HB)).mono ?_
  rintro e w9 ⟨u2, d2, rfl, hu2, hb9⟩
  have HU2 := hide hu2
  clear hu2
  have hsz := hb9.size
  have HK := hide (blk_below (unhide HK) hb9 (blk_lt (unhide HK)))
  have HU1 := hide ((unhide HU1).below hb9)
  have HB := hide ((unhide HB).trans (hb9.mono (by omega)))
  have hBs : B + 1 ≤ w9.heap.size := by omega
  clear hb9 hsz
  go_wp2
  go_loopw [13] (fun iv wr => ∃ i nn : Nat, i ≤ K ∧ iv = .int .i64 (i : Int) ∧ wr = w9.drewN nn) (fun iv _ => K - (intOf iv).toNat)
  case atStart => exact ⟨0, 0, by omega, rfl, rfl⟩
  obtain ⟨i, nn, hi, rfl, rfl⟩ := hrel
  by_cases hlt : i < K
  · have g1 : decide ((i : Int) < (K : Int)) = true := decide_eq_true (by omega)
    have g1n : decide (i < K) = true := decide_eq_true hlt
    have gii : (i : Int) < (K : Int) := by omega
    obtain ⟨b1, o1, rfl, _, h1⟩ := (unhide HU1).resolve_left (by omega)
    obtain ⟨b2, o2, rfl, _, h2⟩ := (unhide HU2).resolve_left (by omega)
    obtain ⟨⟨x0, x1, x2, x3⟩, x4⟩ := h1 i hlt
    obtain ⟨⟨y0, y1, y2, y3⟩, y4⟩ := h2 i hlt
    clear h1 h2 HU1 HU2 HSW HPW HOw HRi HCn HWt HEe HEm HEo HUn HPX HCo HR
    go_wp2
    go_quiet (fail)
    go_wp2
    go_roundw
    case rel => exact ⟨i + 1, _, by omega, by go_num, rfl⟩
    case measure => simp [intOf]; omega
  obtain rfl : i = K := by omega
  have g1 : decide ((i : Int) < (i : Int)) = false := by simp
  have hbD := below_drewN (Below.refl w9.heap.size w9) nn
  generalize w9.drewN nn = w10 at *
  have hsz := hbD.size
  have HK := hide (blk_below (unhide HK) hbD (blk_lt (unhide HK)))
  have HU1 := hide ((unhide HU1).below hbD)
  have HU2 := hide ((unhide HU2).below hbD)
  have HB := hide ((unhide HB).trans (hbD.mono (by omega)))
  have hBs : B + 1 ≤ w10.heap.size := by omega
  clear hbD hsz
  clear HU1 HU2
  clear HPW HOw HRi HCn HWt HEe HEm HEo HUn HPX HCo HR HE0
  go_wp2_with fail
  refine (unhide HC6 _ (unhide HB)).mono ?_
  rintro e w11 ⟨rfl, hb11⟩
  have hsz := hb11.size
  have HK := hide (blk_below (unhide HK) hb11 (blk_lt (unhide HK)))
  have HB := hide ((unhide HB).trans (hb11.mono (by omega)))
  have hBs : B + 1 ≤ w11.heap.size := by omega
  clear hb11 hsz
  clear HSW HC6 HK
  go_wp2
  go_ret
  exact ⟨rfl, bel_atC (unhide HBE) (unhide HB)⟩
end Go.Proofs.YtpfobocdbmiagaaDoor
