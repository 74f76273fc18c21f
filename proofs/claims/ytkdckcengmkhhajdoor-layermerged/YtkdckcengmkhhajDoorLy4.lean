/- What of a layer is not right: the program's, whole. -/
import Derived.Test.YtkdckcengmkhhajDoorLy3
namespace Go.Proofs.YtkdckcengmkhhajDoor
open Go.RowKit

theorem bel_at {B : Nat} {w w' : World} (h : B = w.heap.size) (hb : Below B w w') : Below w.heap.size w w' := h ▸ hb
theorem errV_some (a : Nat → Addr) (c : Nat) (h : c ≠ 0) : errV a c = sentV a (c - 1) := by unfold errV; rw [if_neg h]
theorem ret_errV {a : Nat → Addr} {c d : Nat} {v : Value} (h : c = d) (hv : v = errV a d) : Ending.returned v = .returned (errV a c) := by rw [h, hv]
theorem nine {w : World} {k : Nat} {v0 v1 v2 v3 v4 v5 v6 v7 v8 : Value} {t : TypeId} (h : w.heap[k]? = some (.cells #[v0, v1, v2, v3, v4, v5, v6, v7, v8] t)) :
    (w.cell? ⟨k, 0, none⟩ = some v0 ∧ w.cell? ⟨k, 1, none⟩ = some v1 ∧ w.cell? ⟨k, 2, none⟩ = some v2 ∧ w.cell? ⟨k, 3, none⟩ = some v3 ∧ w.cell? ⟨k, 4, none⟩ = some v4) ∧
      w.cell? ⟨k, 5, none⟩ = some v5 ∧ w.cell? ⟨k, 6, none⟩ = some v6 ∧ w.cell? ⟨k, 7, none⟩ = some v7 ∧ w.cell? ⟨k, 8, none⟩ = some v8 := by
  refine ⟨⟨?_, ?_, ?_, ?_, ?_⟩, ?_, ?_, ?_, ?_⟩ <;> rw [blk_cell h] <;> rfl

theorem near2L_any (x y : Int) (w : World) :
    Calls Tryd.prog 62 #[.slice (some ⟨w.heap.size, 0, none⟩) 2 2] (w.alloc (.cells #[.int .i64 x, .int .i64 y] 3)) fun e w' => e = .returned (.bool (decide ((-10000 ≤ x ∧ x ≤ 10000) ∧ (-10000 ≤ y ∧ y ≤ 10000)))) ∧ w' = w.alloc (.cells #[.int .i64 x, .int .i64 y] 3) := by
  refine areNear_any w.heap.size 2 2 (fun i => if i = 0 then x else y) _ (by omega) (fun i hi => ?_) _ ?_
  · rcases (show i = 0 ∨ i = 1 by omega) with rfl | rfl <;> simp
  · rw [decide_eq_true_iff]
    constructor
    · rintro ⟨h1, h2⟩ i hi
      rcases (show i = 0 ∨ i = 1 by omega) with rfl | rfl
      · exact h1
      · exact h2
    · exact fun h => ⟨h 0 (by omega), h 1 (by omega)⟩

set_option maxHeartbeats 4000000 in
set_option maxRecDepth 100000 in
theorem wrong_any (s : Option Addr) (k c : Nat) (L : Nat → Ly) (a : Nat → Option Addr) (cp : Nat → Nat) (w : World) (aS : Nat → Addr) (hS : Er3 w aS) (hL : IsLy w s k L a cp) :
    Calls Tryd.prog 42 #[(L k).val (a k) (cp k), .slice s k c] w fun e w' => e = .returned (errV aS (wrN L k)) ∧ Below w.heap.size w w' := by
  have hHA := hide (al1 w (.cells #[.string (L k).name, .int .i64 (L k).x, .int .i64 (L k).y, .bool (L k).hid, .int .i64 (L k).op, .int .i64 (L k).mo, .int .i64 (L k).wd, .int .i64 (L k).hg, .slice (a k) (L k).n (cp k)] 54))
  have HN := hide (isName_any (L k).name)
  have HL := hide (fun wr (hb : Below w.heap.size w wr) => (numberOf_any s k c L a cp (L k).name wr (hL.below hb)).mono (fun e w' (h : (∃ z : Int, e = .returned (.int .i64 z) ∧ Fst L k (L k).name z) ∧ Below wr.heap.size wr w') => (⟨by obtain ⟨z, he, hz⟩ := h.1; exact ⟨z, he, hz.yes⟩, h.2⟩ : (∃ z : Int, e = .returned (.int .i64 z) ∧ (0 ≤ z ↔ Hs L k (L k).name)) ∧ Below wr.heap.size wr w')))
  have HS := hide (fun wr (hb : Below w.heap.size w wr) => hS.below hb)
  have HR := hide (fun wr => isRight_any (L k).wd (L k).hg (a k) (L k).n (cp k) wr)
  have H5 := hide (wrN_name (L := L) (k := k))
  have H2 := hide (wrN_pl (L := L) (k := k))
  have H3 := hide (wrN_right (L := L) (k := k))
  have H0 := hide (wrN_fine (L := L) (k := k))
  have HNi := hide (nmB_iff (L k).name)
  have HP : Hid (Pl (L k) ↔ (-10000 ≤ (L k).x ∧ (L k).x ≤ 10000) ∧ (-10000 ≤ (L k).y ∧ (L k).y ≤ 10000) ∧ (0 ≤ (L k).op ∧ (L k).op ≤ 255) ∧ (0 ≤ (L k).mo ∧ (L k).mo ≤ 5)) := Iff.rfl
  clear hS hL
  unfold Ly.val
  generalize L k = l at *
  generalize a k = ak at *
  generalize cp k = ck at *
  generalize wrN L k = N at *
  generalize Hs L k l.name = Hsk at *
  generalize Pl l = Plk at *
  obtain ⟨nm, x, y, hi, op, mo, wd, hg, n, q⟩ := l
  simp only at *
  generalize NmOk nm = Nmk at *
  go_enter Tryd.func42, Tryd.ntmps42
  go_wp2_with fail
  generalize w.alloc (.cells #[.string nm, .int .i64 x, .int .i64 y, .bool hi, .int .i64 op, .int .i64 mo, .int .i64 wd, .int .i64 hg, .slice ak n ck] 54) = w1 at *
  obtain ⟨B, hB⟩ : ∃ B, B = w.heap.size := ⟨_, rfl⟩
  rw [← hB] at HL HS hHA ⊢
  obtain ⟨hs1, k0, hb1⟩ := unhide hHA
  have HB := hide hb1
  have hBs : B ≤ w1.heap.size := by omega
  have hlB : B < w1.heap.size := by omega
  have HBE := hide hB
  clear hHA hb1 hs1 hB
  refine (unhide HN w1).mono ?_
  rintro e w2 ⟨rfl, rfl⟩
  obtain ⟨⟨c0, c1, c2, c3, c4⟩, c5, c6, c7, c8⟩ := nine k0
  rcases hr : nmB nm with _ | _
  · have e4 : w2.cell? ⟨4, 0, none⟩ = some (sentV aS 4) := (unhide HS _ (unhide HB)).cell 4 (by omega)
    have HE : Hid (N = 5) := unhide H5 (fun q => by have := (unhide HNi).2 q.1; rw [hr] at this; cases this)
    clear HL HS HR H5 H2 H3 H0 HNi HP hr HN k0 c1 c2 c3 c4 c5 c6 c7 c8
    unfold sentV at e4
    go_wp2
    go_ret
    exact ⟨ret_errV (unhide HE) rfl, bel_at (unhide HBE) (unhide HB)⟩
  have HN1 : Hid Nmk := (unhide HNi).1 hr
  clear HNi hr HN
  go_wp2_with fail
  refine (unhide HL _ (unhide HB)).mono ?_
  rintro e w3 ⟨⟨z, rfl, hz⟩, hb3⟩
  have k0 := blk_below k0 hb3 (blk_lt k0)
  have HB3 := hide ((unhide HB).trans (hb3.mono hBs))
  have hBs3 : B ≤ w3.heap.size := by have := hb3.size; omega
  have hlB3 : B < w3.heap.size := by have := hb3.size; omega
  clear HL HB hb3 c0 c1 c2 c3 c4 c5 c6 c7 c8 hBs hlB
  obtain ⟨⟨c0, c1, c2, c3, c4⟩, c5, c6, c7, c8⟩ := nine k0
  rcases Int.lt_or_le z 0 with hz0 | hz0
  rotate_left
  · have g1 : decide (z ≥ 0) = true := decide_eq_true hz0
    have g1' : decide (0 ≤ z) = true := g1
    have e4 : w3.cell? ⟨4, 0, none⟩ = some (sentV aS 4) := (unhide HS _ (unhide HB3)).cell 4 (by omega)
    have HE : Hid (N = 5) := unhide H5 (fun q => q.2 (hz.1 hz0))
    clear HS HR H5 H2 H3 H0 HP k0 c1 c2 c3 c4 c5 c6 c7 c8 hz hz0
    unfold sentV at e4
    go_wp2
    go_ret
    exact ⟨ret_errV (unhide HE) rfl, bel_at (unhide HBE) (unhide HB3)⟩
  have g1 : decide (z ≥ 0) = false := decide_eq_false (by omega)
  have g1' : decide (0 ≤ z) = false := g1
  have HNH : Hid (Nmk ∧ ¬ Hsk) := ⟨unhide HN1, fun q => by have := hz.2 q; omega⟩
  clear hz hz0 HN1 H5
  go_wp2_with fail
  refine (near2L_any x y w3).mono ?_
  have hb4 : Below w3.heap.size w3 (w3.alloc (.cells #[.int .i64 x, .int .i64 y] 3)) := (Below.refl _ _).alloc (Nat.le_refl _) _
  generalize w3.alloc (.cells #[.int .i64 x, .int .i64 y] 3) = w4 at *
  rintro e w4' ⟨rfl, hw4⟩
  subst hw4
  have k0 := blk_below k0 hb4 (blk_lt k0)
  have HB4 := hide ((unhide HB3).trans (hb4.mono hBs3))
  have hBs4 : B ≤ w4'.heap.size := by have := hb4.size; omega
  have hlB4 : B < w4'.heap.size := by have := hb4.size; omega
  clear HB3 hb4 c0 c1 c2 c3 c4 c5 c6 c7 c8 hBs3 hlB3
  obtain ⟨⟨c0, c1, c2, c3, c4⟩, c5, c6, c7, c8⟩ := nine k0
  have HO := hide (fun wr (hb : Below B w wr) => isOpacity_any op wr aS (unhide HS _ hb))
  have HMo := hide (fun wr (hb : Below B w wr) => isModeL_any mo wr aS (unhide HS _ hb))
  by_cases h1 : (-10000 ≤ x ∧ x ≤ 10000) ∧ (-10000 ≤ y ∧ y ≤ 10000)
  rotate_left
  · rw [decide_eq_false h1]
    have e1 : w4'.cell? ⟨0, 0, none⟩ = some (sentV aS 1) := (unhide HS _ (unhide HB4)).cell 1 (by omega)
    have HE : Hid (N = 2) := unhide H2 (unhide HNH) (fun q => h1 ⟨((unhide HP).1 q).1, ((unhide HP).1 q).2.1⟩)
    clear HS HR H2 H3 H0 HP k0 c0 c1 c2 c3 c5 c6 c7 c8 h1 HO HMo HNH
    unfold sentV at e1
    go_wp2
    go_ret
    exact ⟨ret_errV (unhide HE) rfl, bel_at (unhide HBE) (unhide HB4)⟩
  rw [decide_eq_true h1]
  have H1 := hide h1
  clear h1
  go_wp2_with fail
  refine (unhide HO _ (unhide HB4)).mono ?_
  rintro e w5 ⟨rfl, hb5⟩
  have k0 := blk_below k0 hb5 (blk_lt k0)
  have HB5 := hide ((unhide HB4).trans (hb5.mono hBs4))
  have hBs5 : B ≤ w5.heap.size := by have := hb5.size; omega
  have hlB5 : B < w5.heap.size := by have := hb5.size; omega
  clear HB4 hb5 c0 c1 c2 c3 c4 c5 c6 c7 c8 hBs4 hlB4 HO
  obtain ⟨⟨c0, c1, c2, c3, c4⟩, c5, c6, c7, c8⟩ := nine k0
  by_cases h2 : 0 ≤ op ∧ op ≤ 255
  rotate_left
  · rw [decide_eq_false h2]
    have e1 : w5.cell? ⟨0, 0, none⟩ = some (sentV aS 1) := (unhide HS _ (unhide HB5)).cell 1 (by omega)
    have HE : Hid (N = 2) := unhide H2 (unhide HNH) (fun q => h2 ((unhide HP).1 q).2.2.1)
    clear HS HR H2 H3 H0 HP k0 c0 c1 c2 c3 c4 c6 c7 c8 h2 H1 HMo HNH
    unfold sentV at e1
    go_wp2
    go_ret
    exact ⟨ret_errV (unhide HE) rfl, bel_at (unhide HBE) (unhide HB5)⟩
  rw [decide_eq_true h2]
  have HO2 := hide h2
  clear h2
  go_wp2_with fail
  refine (unhide HMo _ (unhide HB5)).mono ?_
  rintro e w6 ⟨rfl, hb6⟩
  have k0 := blk_below k0 hb6 (blk_lt k0)
  have HB6 := hide ((unhide HB5).trans (hb6.mono hBs5))
  have hBs6 : B ≤ w6.heap.size := by have := hb6.size; omega
  have hlB6 : B < w6.heap.size := by have := hb6.size; omega
  clear HB5 hb6 c0 c1 c2 c3 c4 c5 c6 c7 c8 hBs5 hlB5 HMo
  obtain ⟨⟨c0, c1, c2, c3, c4⟩, c5, c6, c7, c8⟩ := nine k0
  by_cases h3 : 0 ≤ mo ∧ mo ≤ 5
  rotate_left
  · rw [decide_eq_false h3]
    have e1 : w6.cell? ⟨0, 0, none⟩ = some (sentV aS 1) := (unhide HS _ (unhide HB6)).cell 1 (by omega)
    have HE : Hid (N = 2) := unhide H2 (unhide HNH) (fun q => h3 ((unhide HP).1 q).2.2.2)
    clear HS HR H2 H3 H0 HP k0 c0 c1 c2 c3 c4 c5 c6 c7 c8 h3 H1 HNH HO2
    unfold sentV at e1
    go_wp2
    go_ret
    exact ⟨ret_errV (unhide HE) rfl, bel_at (unhide HBE) (unhide HB6)⟩
  rw [decide_eq_true h3]
  have HPl : Hid Plk := (unhide HP).2 ⟨(unhide H1).1, (unhide H1).2, unhide HO2, h3⟩
  clear h3 HO2 H1 HP H2
  go_wp2_with fail
  refine (unhide HR _).mono ?_
  rintro e w7 ⟨rfl, hb7⟩
  have HB7 := hide ((unhide HB6).trans (hb7.mono hBs6))
  clear HB6 hb7 c0 c1 c2 c3 c4 c5 c6 c7 c8 hBs6 hlB6 HR k0
  by_cases h4 : RightP wd hg n
  rotate_left
  · rw [decide_eq_false h4]
    have e1 : w7.cell? ⟨2, 0, none⟩ = some (sentV aS 2) := (unhide HS _ (unhide HB7)).cell 2 (by omega)
    have HE : Hid (N = 3) := unhide H3 (unhide HNH) (unhide HPl) h4
    clear HS H3 H0 HPl HNH h4
    unfold sentV at e1
    go_wp2
    go_ret
    exact ⟨ret_errV (unhide HE) rfl, bel_at (unhide HBE) (unhide HB7)⟩
  rw [decide_eq_true h4]
  have HE : Hid (N = 0) := unhide H0 (unhide HNH) (unhide HPl) h4
  clear HS H3 H0 HPl HNH h4
  go_wp2
  go_ret
  exact ⟨ret_errV (unhide HE) rfl, bel_at (unhide HBE) (unhide HB7)⟩
end Go.Proofs.YtkdckcengmkhhajDoor
