/- Any document of layers, flattened; any pixel of it: the law. -/
import Derived.Test.YtjhnneplknhmkajDoorMg7
import Derived.Test.YtjhnneplknhmkajDoorLyD
import Derived.Test.YtjhnneplknhmkajDoorLyF
import Derived.Test.YtjhnneplknhmkajDoorLyT
import Derived.Test.YtjhnneplknhmkajDoorMg11
namespace Go.Proofs.YtjhnneplknhmkajDoor
open Go.RowKit

/-- No pixels: the same picture. -/
theorem same_none (a b : Option Addr) (c d : Nat) (w : World) :
    Calls Tryd.prog 14 #[.agg #[.int .i64 0, .int .i64 0, .slice a 0 c], .agg #[.int .i64 0, .int .i64 0, .slice b 0 d]] w fun e w' => e = .returned (.bool true) ∧ Below w.heap.size w w' :=
  samePicture_any 0 0 a b 0 c d (fun _ => ⟨0, 0, 0, 0⟩) w (.inl rfl) (.inl rfl) (by omega)

set_option maxHeartbeats 16000000 in
set_option maxRecDepth 100000 in
theorem layerFlat_any (W H : Int) (s : Option Addr) (n c : Nat) (L : Nat → Ly) (a : Nat → Option Addr) (cp : Nat → Nat) (x y : Int) (w : World) (aS : Nat → Addr) (hS : Sent w aS) (hL : IsLy w s n L a cp) (hZ : ∀ i, i < n → (L i).n ≤ 140737488355328) :
    Calls Tryd.prog 3 #[.agg #[.int .i64 W, .int .i64 H, .slice s n c], .int .i64 x, .int .i64 y] w fun e w' => e = .returned (.bool true) ∧ Below w.heap.size w w' := by
  obtain ⟨cc, zz, hC⟩ := chk_ex W H n L
  have HSW := hide (fun wr (hb : Below w.heap.size w wr) => hS.below hb)
  have HLW := hide (fun wr (hb : Below w.heap.size w wr) => hL.below hb)
  have HT := hide (fun wr (hb : Below w.heap.size w wr) => tame_any W H s n c L a cp wr (hL.below hb) hZ)
  have HCk := hide (fun wr (hb : Below w.heap.size w wr) => checkOf_any W H s n c L a cp wr (hL.below hb) cc zz hC)
  have HDo := hide (fun wr (hb : Below w.heap.size w wr) (hn : n ≤ 12) hz => docOf_any W H s n c L a cp wr (hL.below hb) hn hz)
  have HChk := hide hC
  have hHA0 := hide (al1 w (.cells #[.int .i64 W, .int .i64 H, .slice s n c] 24))
  obtain ⟨B, hB⟩ : ∃ B, B = w.heap.size := ⟨_, rfl⟩
  clear hS hL hZ hC
  go_enter Tryd.func3, Tryd.ntmps3
  go_wp2_with fail
  generalize w.alloc (.cells #[.int .i64 W, .int .i64 H, .slice s n c] 24) = w1 at *
  rw [← hB] at HSW HLW HT HCk HDo hHA0 ⊢
  obtain ⟨hs0, kB, hb0⟩ := unhide hHA0
  have HB := hide hb0
  have HBE := hide hB
  have hBs : B + 1 ≤ w1.heap.size := by omega
  clear hHA0 hb0 hs0 hB
  refine (still_any _ aS (unhide HSW _ (unhide HB))).mono ?_
  rintro e w2 ⟨rfl, hb2⟩
  have hsz := hb2.size
  have kB := blk_below kB hb2 (blk_lt kB)
  have HB := hide ((unhide HB).trans (hb2.mono (by omega)))
  have hBs : B + 1 ≤ w2.heap.size := by omega
  clear hb2 hsz
  have d0 : w2.cell? ⟨B, 0, none⟩ = some (.int .i64 W) := blk_cell kB 0
  have d1 : w2.cell? ⟨B, 1, none⟩ = some (.int .i64 H) := blk_cell kB 1
  have d2 : w2.cell? ⟨B, 2, none⟩ = some (.slice s n c) := blk_cell kB 2
  have hld : B < w2.heap.size := blk_lt kB
  go_wp2_with fail
  clear d0 d1 d2 hld
  refine (unhide HT _ (unhide HB)).mono ?_
  rintro e w3 ⟨⟨r, rfl, hr⟩, hb3⟩
  have hsz := hb3.size
  have kB := blk_below kB hb3 (blk_lt kB)
  have HB := hide ((unhide HB).trans (hb3.mono (by omega)))
  have hBs : B + 1 ≤ w3.heap.size := by omega
  clear hb3 hsz
  rcases r with _ | _
  · clear HT HCk HDo HLW HSW HChk kB
    go_wp2
    go_ret
    exact ⟨rfl, bel_at (unhide HBE) (unhide HB)⟩
  obtain ⟨hn12, hz4⟩ := hr rfl
  have HZ4 := hide hz4
  clear hr hz4 HT
  have d0 : w3.cell? ⟨B, 0, none⟩ = some (.int .i64 W) := blk_cell kB 0
  have d1 : w3.cell? ⟨B, 1, none⟩ = some (.int .i64 H) := blk_cell kB 1
  have d2 : w3.cell? ⟨B, 2, none⟩ = some (.slice s n c) := blk_cell kB 2
  have hld : B < w3.heap.size := blk_lt kB
  go_wp2_with fail
  clear d0 d1 d2 hld
  refine (unhide HCk _ (unhide HB)).mono ?_
  rintro e w4 ⟨rfl, hb4⟩
  have hsz := hb4.size
  have kB := blk_below kB hb4 (blk_lt kB)
  have HB := hide ((unhide HB).trans (hb4.mono (by omega)))
  have hBs : B + 1 ≤ w4.heap.size := by omega
  clear hb4 hsz
  have d0 : w4.cell? ⟨B, 0, none⟩ = some (.int .i64 W) := blk_cell kB 0
  have d1 : w4.cell? ⟨B, 1, none⟩ = some (.int .i64 H) := blk_cell kB 1
  have d2 : w4.cell? ⟨B, 2, none⟩ = some (.slice s n c) := blk_cell kB 2
  have hld : B < w4.heap.size := blk_lt kB
  have hHA := hide (al1 w4 (.cells #[.int .i64 (cc : Int), .int .i64 zz] 28))
  go_wp2_with fail
  clear d0 d1 d2 hld
  generalize w4.alloc (.cells #[.int .i64 (cc : Int), .int .i64 zz] 28) = w5 at *
  obtain ⟨hsA, kF, hbA⟩ := unhide hHA
  obtain ⟨F, hF⟩ : ∃ T, T = w4.heap.size := ⟨_, rfl⟩
  rw [← hF] at kF ⊢
  have hgeF : B + 1 ≤ F := by omega
  clear hHA hF hsA
  have hsz := hbA.size
  have kB := blk_below kB hbA (blk_lt kB)
  have HB := hide ((unhide HB).trans (hbA.mono (by omega)))
  have hBs : B + 1 ≤ w5.heap.size := by omega
  clear hbA hsz
  clear HCk
  refine (unhide HDo _ (unhide HB) hn12 (unhide HZ4)).mono ?_
  rintro e w6 ⟨s1, c1, a1, p1, rfl, hl1, hc1, hb6⟩
  have HL1 := hide hl1
  clear hl1
  have hsz := hb6.size
  have kB := blk_below kB hb6 (blk_lt kB)
  have kF := blk_below kF hb6 (blk_lt kF)
  have HB := hide ((unhide HB).trans (hb6.mono (by omega)))
  have hBs : B + 1 ≤ w6.heap.size := by omega
  clear hb6 hsz
  have HL1 := hide ((unhide HL1))
  by_cases h0 : cc = 0
  rotate_left
  · have hpos : decide ((cc : Int) > 0) = true := decide_eq_true (by omega)
    have hpos' : decide ((0 : Int) < (cc : Int)) = true := hpos
    have hposn : decide (0 < cc) = true := decide_eq_true (by omega)
    have HFl := hide (fun s2 c2 a2 p2 wr (hb : Below B w wr) (hl : IsLy wr s2 n L a2 p2) hc => flatten_bad W H s2 n c2 L a2 p2 wr aS (unhide HSW _ hb) hl cc zz (unhide HChk) hc h0)
    have HLo := hide (fun s2 c2 a2 p2 wr (hb : Below B w wr) (hl : IsLy wr s2 n L a2 p2) hc => look_bad W H x y s2 n c2 L a2 p2 wr aS (unhide HSW _ hb) hl cc zz (unhide HChk) hc h0)
    have HCc := hide (fun s2 c2 a2 p2 wr (hb : Below B w wr) (hl : IsLy wr s2 n L a2 p2) hc => check_any W H s2 n c2 L a2 p2 wr aS (unhide HSW _ hb) hl cc zz (unhide HChk) hc)
    go_wp2_with fail
    refine (unhide HFl s1 c1 a1 p1 _ (unhide HB) (unhide HL1) hc1).mono ?_
    rintro e w7 ⟨v1, rfl, hE1, hb7⟩
    have HE1 := hide (hE1)
    clear hE1 HL1
    have hsz := hb7.size
    have kB := blk_below kB hb7 (blk_lt kB)
    have kF := blk_below kF hb7 (blk_lt kF)
    have HB := hide ((unhide HB).trans (hb7.mono (by omega)))
    have hBs : B + 1 ≤ w7.heap.size := by omega
    clear hb7 hsz
    obtain ⟨t1, u1, hv1⟩ := (unhide HE1).yes h0
    subst hv1
    have d0 : w7.cell? ⟨B, 0, none⟩ = some (.int .i64 W) := blk_cell kB 0
    have d1 : w7.cell? ⟨B, 1, none⟩ = some (.int .i64 H) := blk_cell kB 1
    have d2 : w7.cell? ⟨B, 2, none⟩ = some (.slice s n c) := blk_cell kB 2
    have hld : B < w7.heap.size := blk_lt kB
    have hHA := hide (al1 w7 (.cells #[.int .i64 0, .int .i64 0, .slice none 0 0] 32))
    go_wp2_with fail
    clear d0 d1 d2 hld
    generalize w7.alloc (.cells #[.int .i64 0, .int .i64 0, .slice none 0 0] 32) = w8 at *
    obtain ⟨hsA, kP, hbA⟩ := unhide hHA
    obtain ⟨P, hP⟩ : ∃ T, T = w7.heap.size := ⟨_, rfl⟩
    rw [← hP] at kP ⊢
    have hgeP : B + 1 ≤ P := by omega
    clear hHA hP hsA
    have hsz := hbA.size
    have kB := blk_below kB hbA (blk_lt kB)
    have kF := blk_below kF hbA (blk_lt kF)
    have HE1 := hide ((unhide HE1).below hbA)
    have HB := hide ((unhide HB).trans (hbA.mono (by omega)))
    have hBs : B + 1 ≤ w8.heap.size := by omega
    clear hbA hsz
    refine (unhide HDo _ (unhide HB) hn12 (unhide HZ4)).mono ?_
    rintro e w9 ⟨s2, c2, a2, p2, rfl, hl2, hc2, hb9⟩
    have HL2 := hide hl2
    clear hl2
    have hsz := hb9.size
    have kB := blk_below kB hb9 (blk_lt kB)
    have kF := blk_below kF hb9 (blk_lt kF)
    have kP := blk_below kP hb9 (blk_lt kP)
    have HE1 := hide ((unhide HE1).below hb9)
    have HB := hide ((unhide HB).trans (hb9.mono (by omega)))
    have hBs : B + 1 ≤ w9.heap.size := by omega
    clear hb9 hsz
    go_wp2_with fail
    refine (unhide HLo s2 c2 a2 p2 _ (unhide HB) (unhide HL2) hc2).mono ?_
    rintro e w10 ⟨v2, rfl, hE2, hb10⟩
    have HE2 := hide hE2
    clear hE2 HL2
    have hsz := hb10.size
    have kB := blk_below kB hb10 (blk_lt kB)
    have kF := blk_below kF hb10 (blk_lt kF)
    have kP := blk_below kP hb10 (blk_lt kP)
    have HE1 := hide ((unhide HE1).below hb10)
    have HB := hide ((unhide HB).trans (hb10.mono (by omega)))
    have hBs : B + 1 ≤ w10.heap.size := by omega
    clear hb10 hsz
    obtain ⟨t2, u2, hv2⟩ := (unhide HE2).yes h0
    subst hv2
    have hHA := hide (al1 w10 (.cells #[.int .u8 0, .int .u8 0, .int .u8 0, .int .u8 0] 42))
    go_wp2
    generalize w10.alloc (.cells #[.int .u8 0, .int .u8 0, .int .u8 0, .int .u8 0] 42) = w11 at *
    obtain ⟨hsA, kX, hbA⟩ := unhide hHA
    obtain ⟨X, hX⟩ : ∃ T, T = w10.heap.size := ⟨_, rfl⟩
    rw [← hX] at kX ⊢
    have hgeX : B + 1 ≤ X := by omega
    clear hHA hX hsA
    have hsz := hbA.size
    have kB := blk_below kB hbA (blk_lt kB)
    have kF := blk_below kF hbA (blk_lt kF)
    have kP := blk_below kP hbA (blk_lt kP)
    have HE1 := hide ((unhide HE1).below hbA)
    have HE2 := hide ((unhide HE2).below hbA)
    have HB := hide ((unhide HB).trans (hbA.mono (by omega)))
    have hBs : B + 1 ≤ w11.heap.size := by omega
    clear hbA hsz
    have d0 : w11.cell? ⟨B, 0, none⟩ = some (.int .i64 W) := blk_cell kB 0
    have d1 : w11.cell? ⟨B, 1, none⟩ = some (.int .i64 H) := blk_cell kB 1
    have d2 : w11.cell? ⟨B, 2, none⟩ = some (.slice s n c) := blk_cell kB 2
    have hld : B < w11.heap.size := blk_lt kB
    have f0 : w11.cell? ⟨F, 0, none⟩ = some (.int .i64 (cc : Int)) := blk_cell kF 0
    have f1 : w11.cell? ⟨F, 1, none⟩ = some (.int .i64 zz) := blk_cell kF 1
    have hlf : F < w11.heap.size := blk_lt kF
    have hdr := (Below.refl w11.heap.size w11).drew
    have KS := hide (fun (w' : World) (h : Below w11.heap.size w11 w') => (⟨(h.cell (p := ⟨B, 0, none⟩) hld).trans d0, (h.cell (p := ⟨B, 1, none⟩) hld).trans d1, (h.cell (p := ⟨B, 2, none⟩) hld).trans d2, (h.cell (p := ⟨F, 0, none⟩) hlf).trans f0, (h.cell (p := ⟨F, 1, none⟩) hlf).trans f1⟩ : w'.cell? ⟨B, 0, none⟩ = some (.int .i64 W) ∧ w'.cell? ⟨B, 1, none⟩ = some (.int .i64 H) ∧ w'.cell? ⟨B, 2, none⟩ = some (.slice s n c) ∧ w'.cell? ⟨F, 0, none⟩ = some (.int .i64 (cc : Int)) ∧ w'.cell? ⟨F, 1, none⟩ = some (.int .i64 zz)))
    go_region_held (fun w' => w'.cell? ⟨B, 0, none⟩ = some (.int .i64 W) ∧ w'.cell? ⟨B, 1, none⟩ = some (.int .i64 H) ∧ w'.cell? ⟨B, 2, none⟩ = some (.slice s n c) ∧ w'.cell? ⟨F, 0, none⟩ = some (.int .i64 (cc : Int)) ∧ w'.cell? ⟨F, 1, none⟩ = some (.int .i64 zz)) (first | with_reducible exact unhide KS _ hdr | with_reducible exact unhide KS _ hq1 | with_reducible exact unhide KS _ hq2 | with_reducible exact unhide KS _ hq3) (first | (go_at_call 10; refine (unhide HDo _ ((unhide HB).trans (hdr.mono (by omega))) hn12 (unhide HZ4)).mono ?_; rintro e w12 ⟨s3, c3, a3, p3, rfl, hl3, hc3, hb1⟩; have hq1 := hdr.trans (hb1.mono (by exact Nat.le_refl _))) | (go_at_call 13; refine (unhide HCc s3 c3 a3 p3 _ ((unhide HB).trans (hq1.mono (by omega))) hl3 hc3).mono ?_; rintro e w13 ⟨v3, rfl, hE3, hb2⟩; have hq2 := hq1.trans (hb2.mono hq1.size)) | (go_at_call 12; refine (faulted3_is v3 cc zz _ aS (unhide HSW _ ((unhide HB).trans (hq2.mono (by omega)))) hE3).mono ?_; rintro e w14 ⟨rfl, hb3⟩; have hq3 := hq2.trans (hb3.mono hq2.size)))
    clear hdr KS hq1 hq2 hb1 hb2 hb3 hl3 hE3 d0 d1 d2 hld f0 f1 hlf
    have hsz := hq3.size
    have kB := blk_below kB hq3 (blk_lt kB)
    have kF := blk_below kF hq3 (blk_lt kF)
    have kP := blk_below kP hq3 (blk_lt kP)
    have kX := blk_below kX hq3 (blk_lt kX)
    have HE1 := hide ((unhide HE1).below hq3)
    have HE2 := hide ((unhide HE2).below hq3)
    have HB := hide ((unhide HB).trans (hq3.mono (by omega)))
    have hBs : B + 1 ≤ w14.heap.size := by omega
    clear hq3 hsz
    have f0 : w14.cell? ⟨F, 0, none⟩ = some (.int .i64 (cc : Int)) := blk_cell kF 0
    have f1 : w14.cell? ⟨F, 1, none⟩ = some (.int .i64 zz) := blk_cell kF 1
    have hlf : F < w14.heap.size := blk_lt kF
    go_wp2_with fail
    clear f0 f1 hlf
    refine (faulted3_is (.iface t1 u1) cc zz _ aS (unhide HSW _ (unhide HB)) (unhide HE1)).mono ?_
    rintro e w15 ⟨rfl, hb15⟩
    have hsz := hb15.size
    have kB := blk_below kB hb15 (blk_lt kB)
    have kF := blk_below kF hb15 (blk_lt kF)
    have kP := blk_below kP hb15 (blk_lt kP)
    have kX := blk_below kX hb15 (blk_lt kX)
    have HE1 := hide ((unhide HE1).below hb15)
    have HE2 := hide ((unhide HE2).below hb15)
    have HB := hide ((unhide HB).trans (hb15.mono (by omega)))
    have hBs : B + 1 ≤ w15.heap.size := by omega
    clear hb15 hsz
    have f0 : w15.cell? ⟨F, 0, none⟩ = some (.int .i64 (cc : Int)) := blk_cell kF 0
    have f1 : w15.cell? ⟨F, 1, none⟩ = some (.int .i64 zz) := blk_cell kF 1
    have hlf : F < w15.heap.size := blk_lt kF
    go_wp2_with fail
    clear f0 f1 hlf
    refine (faulted3_is (.iface t2 u2) cc zz _ aS (unhide HSW _ (unhide HB)) (unhide HE2)).mono ?_
    rintro e w16 ⟨rfl, hb16⟩
    have hsz := hb16.size
    have kB := blk_below kB hb16 (blk_lt kB)
    have kF := blk_below kF hb16 (blk_lt kF)
    have kP := blk_below kP hb16 (blk_lt kP)
    have kX := blk_below kX hb16 (blk_lt kX)
    have HE1 := hide ((unhide HE1).below hb16)
    have HE2 := hide ((unhide HE2).below hb16)
    have HB := hide ((unhide HB).trans (hb16.mono (by omega)))
    have hBs : B + 1 ≤ w16.heap.size := by omega
    clear hb16 hsz
    have g0 : w16.cell? ⟨P, 0, none⟩ = some (.int .i64 0) := blk_cell kP 0
    have g1 : w16.cell? ⟨P, 1, none⟩ = some (.int .i64 0) := blk_cell kP 1
    have g2 : w16.cell? ⟨P, 2, none⟩ = some (.slice none 0 0) := blk_cell kP 2
    have hlg : P < w16.heap.size := blk_lt kP
    go_wp2_with fail
    clear g0 g1 g2 hlg
    refine (same_none none none 0 0 _).mono ?_
    rintro e w17 ⟨rfl, hb17⟩
    have hsz := hb17.size
    have kB := blk_below kB hb17 (blk_lt kB)
    have kF := blk_below kF hb17 (blk_lt kF)
    have kP := blk_below kP hb17 (blk_lt kP)
    have kX := blk_below kX hb17 (blk_lt kX)
    have HE1 := hide ((unhide HE1).below hb17)
    have HE2 := hide ((unhide HE2).below hb17)
    have HB := hide ((unhide HB).trans (hb17.mono (by omega)))
    have hBs : B + 1 ≤ w17.heap.size := by omega
    clear hb17 hsz
    have g0 : w17.cell? ⟨X, 0, none⟩ = some (.int .u8 0) := blk_cell kX 0
    have g1 : w17.cell? ⟨X, 1, none⟩ = some (.int .u8 0) := blk_cell kX 1
    have g2 : w17.cell? ⟨X, 2, none⟩ = some (.int .u8 0) := blk_cell kX 2
    have g3 : w17.cell? ⟨X, 3, none⟩ = some (.int .u8 0) := blk_cell kX 3
    have hlg : X < w17.heap.size := blk_lt kX
    clear HDo HSW HLW HChk HFl HLo HCc HE1 HE2 HZ4
    go_wp2
    go_ret
    exact ⟨rfl, bel_at (unhide HBE) (unhide HB)⟩
  obtain rfl := h0
  obtain ⟨⟨hw, hh, _⟩, hR⟩ := (unhide HChk).fine
  obtain ⟨W, rfl⟩ := Int.eq_ofNat_of_zero_le (show 0 ≤ W by omega)
  obtain ⟨H, rfl⟩ := Int.eq_ofNat_of_zero_le (show 0 ≤ H by omega)
  have HFl := hide (fun s2 c2 a2 p2 wr (hb : Below B w wr) (hl : IsLy wr s2 n L a2 p2) hc => flatten_ok W H s2 n c2 L a2 p2 wr aS (unhide HSW _ hb) hl zz (unhide HChk) hc)
  have HLo := hide (fun s2 c2 a2 p2 wr (hb : Below B w wr) (hl : IsLy wr s2 n L a2 p2) hc h => look_out W H x y s2 n c2 L a2 p2 wr aS (unhide HSW _ hb) hl zz (unhide HChk) hc h)
  have HLi := hide (fun x y s2 c2 a2 p2 wr (hb : Below B w wr) (hl : IsLy wr s2 n L a2 p2) hc hx hy => look_in W H x y s2 n c2 L a2 p2 wr aS (unhide HSW _ hb) hl zz (unhide HChk) hc hx hy)
  have HCc := hide (fun s2 c2 a2 p2 wr (hb : Below B w wr) (hl : IsLy wr s2 n L a2 p2) hc => check_any (W : Int) (H : Int) s2 n c2 L a2 p2 wr aS (unhide HSW _ hb) hl 0 zz (unhide HChk) hc)
  have HFO := hide (fun wr (hb : Below B w wr) => flatOf_any W H s n c L a cp wr (unhide HLW _ hb) hR (by omega) (by omega) (by omega) (by omega) hn12)
  have hMb : W * H ≤ 65536 := Nat.mul_le_mul (show W ≤ 256 by omega) (show H ≤ 256 by omega)
  have HIX := hide (fun x y (hx : x < W) (hy : y < H) => (show y * W + x < W * H by
    have e1 := Nat.mul_le_mul_right W (show y + 1 ≤ H from hy)
    have e2 := Nat.mul_comm W H
    have e3 : (y + 1) * W = y * W + W := Nat.succ_mul _ _
    omega))
  have HGA := hide (fun x y (hx : x < W) => grid_at W (seenP L n) x y hx)
  obtain ⟨G, hG⟩ : ∃ G, G = grid W (seenP L n) := ⟨_, rfl⟩
  obtain ⟨M, hM⟩ : ∃ M, M = W * H := ⟨_, rfl⟩
  rw [← hM] at HFl HFO hMb HIX
  rw [← hG] at HFl HFO HGA
  clear hR hG hM
  go_wp2_with fail
  refine (unhide HFl s1 c1 a1 p1 _ (unhide HB) (unhide HL1) hc1).mono ?_
  rintro e w7 ⟨ai, ci, rfl, hp1, hb7⟩
  have HP1 := hide hp1
  clear hp1 HL1
  have hsz := hb7.size
  have kB := blk_below kB hb7 (blk_lt kB)
  have kF := blk_below kF hb7 (blk_lt kF)
  have HB := hide ((unhide HB).trans (hb7.mono (by omega)))
  have hBs : B + 1 ≤ w7.heap.size := by omega
  clear hb7 hsz
  have d0 : w7.cell? ⟨B, 0, none⟩ = some (.int .i64 (W : Int)) := blk_cell kB 0
  have d1 : w7.cell? ⟨B, 1, none⟩ = some (.int .i64 (H : Int)) := blk_cell kB 1
  have d2 : w7.cell? ⟨B, 2, none⟩ = some (.slice s n c) := blk_cell kB 2
  have hld : B < w7.heap.size := blk_lt kB
  have hHA := hide (al1 w7 (.cells #[.int .i64 (W : Int), .int .i64 (H : Int), .slice ai M ci] 32))
  go_wp2_with fail
  clear d0 d1 d2 hld
  generalize w7.alloc (.cells #[.int .i64 (W : Int), .int .i64 (H : Int), .slice ai M ci] 32) = w8 at *
  obtain ⟨hsA, kP, hbA⟩ := unhide hHA
  obtain ⟨P, hP⟩ : ∃ T, T = w7.heap.size := ⟨_, rfl⟩
  rw [← hP] at kP ⊢
  have hgeP : B + 1 ≤ P := by omega
  clear hHA hP hsA
  have hsz := hbA.size
  have kB := blk_below kB hbA (blk_lt kB)
  have kF := blk_below kF hbA (blk_lt kF)
  have HP1 := hide ((unhide HP1).below hbA)
  have HB := hide ((unhide HB).trans (hbA.mono (by omega)))
  have hBs : B + 1 ≤ w8.heap.size := by omega
  clear hbA hsz
  refine (unhide HDo _ (unhide HB) hn12 (unhide HZ4)).mono ?_
  rintro e w9 ⟨s2, c2, a2, p2, rfl, hl2, hc2, hb9⟩
  have HL2 := hide hl2
  clear hl2
  have hsz := hb9.size
  have kB := blk_below kB hb9 (blk_lt kB)
  have kF := blk_below kF hb9 (blk_lt kF)
  have kP := blk_below kP hb9 (blk_lt kP)
  have HP1 := hide ((unhide HP1).below hb9)
  have HB := hide ((unhide HB).trans (hb9.mono (by omega)))
  have hBs : B + 1 ≤ w9.heap.size := by omega
  clear hb9 hsz
  by_cases hxy : (0 ≤ x ∧ x < (W : Int)) ∧ (0 ≤ y ∧ y < (H : Int))
  rotate_left
  · have hin : ¬ (0 ≤ x ∧ 0 ≤ y ∧ x < (W : Int) ∧ y < (H : Int)) := fun z => hxy ⟨⟨z.1, z.2.2.1⟩, z.2.1, z.2.2.2⟩
    go_wp2_with fail
    refine (unhide HLo s2 c2 a2 p2 _ (unhide HB) (unhide HL2) hc2 hxy).mono ?_
    rintro e w10 ⟨rfl, hb10⟩
    clear HL2
    have hsz := hb10.size
    have kB := blk_below kB hb10 (blk_lt kB)
    have kF := blk_below kF hb10 (blk_lt kF)
    have kP := blk_below kP hb10 (blk_lt kP)
    have HP1 := hide ((unhide HP1).below hb10)
    have HB := hide ((unhide HB).trans (hb10.mono (by omega)))
    have hBs : B + 1 ≤ w10.heap.size := by omega
    clear hb10 hsz
    have hHA := hide (al1 w10 (.cells #[.int .u8 0, .int .u8 0, .int .u8 0, .int .u8 0] 42))
    unfold sentV
    go_wp2
    generalize w10.alloc (.cells #[.int .u8 0, .int .u8 0, .int .u8 0, .int .u8 0] 42) = w11 at *
    obtain ⟨hsA, kX, hbA⟩ := unhide hHA
    obtain ⟨X, hX⟩ : ∃ T, T = w10.heap.size := ⟨_, rfl⟩
    rw [← hX] at kX ⊢
    have hgeX : B + 1 ≤ X := by omega
    clear hHA hX hsA
    have hsz := hbA.size
    have kB := blk_below kB hbA (blk_lt kB)
    have kF := blk_below kF hbA (blk_lt kF)
    have kP := blk_below kP hbA (blk_lt kP)
    have HP1 := hide ((unhide HP1).below hbA)
    have HB := hide ((unhide HB).trans (hbA.mono (by omega)))
    have hBs : B + 1 ≤ w11.heap.size := by omega
    clear hbA hsz
    have hsv : sentV aS 1 = .iface 143 (.pointer (some (aS 1))) := rfl
    have d0 : w11.cell? ⟨B, 0, none⟩ = some (.int .i64 (W : Int)) := blk_cell kB 0
    have d1 : w11.cell? ⟨B, 1, none⟩ = some (.int .i64 (H : Int)) := blk_cell kB 1
    have d2 : w11.cell? ⟨B, 2, none⟩ = some (.slice s n c) := blk_cell kB 2
    have hld : B < w11.heap.size := blk_lt kB
    have f0 : w11.cell? ⟨F, 0, none⟩ = some (.int .i64 ((0 : Nat) : Int)) := blk_cell kF 0
    have f1 : w11.cell? ⟨F, 1, none⟩ = some (.int .i64 zz) := blk_cell kF 1
    have hlf : F < w11.heap.size := blk_lt kF
    have hdr := (Below.refl w11.heap.size w11).drew
    have KS := hide (fun (w' : World) (h : Below w11.heap.size w11 w') => (⟨(h.cell (p := ⟨B, 0, none⟩) hld).trans d0, (h.cell (p := ⟨B, 1, none⟩) hld).trans d1, (h.cell (p := ⟨B, 2, none⟩) hld).trans d2, (h.cell (p := ⟨F, 0, none⟩) hlf).trans f0, (h.cell (p := ⟨F, 1, none⟩) hlf).trans f1⟩ : w'.cell? ⟨B, 0, none⟩ = some (.int .i64 (W : Int)) ∧ w'.cell? ⟨B, 1, none⟩ = some (.int .i64 (H : Int)) ∧ w'.cell? ⟨B, 2, none⟩ = some (.slice s n c) ∧ w'.cell? ⟨F, 0, none⟩ = some (.int .i64 ((0 : Nat) : Int)) ∧ w'.cell? ⟨F, 1, none⟩ = some (.int .i64 zz)))
    go_region_held (fun w' => w'.cell? ⟨B, 0, none⟩ = some (.int .i64 (W : Int)) ∧ w'.cell? ⟨B, 1, none⟩ = some (.int .i64 (H : Int)) ∧ w'.cell? ⟨B, 2, none⟩ = some (.slice s n c) ∧ w'.cell? ⟨F, 0, none⟩ = some (.int .i64 ((0 : Nat) : Int)) ∧ w'.cell? ⟨F, 1, none⟩ = some (.int .i64 zz)) (first | with_reducible exact unhide KS _ hdr | with_reducible exact unhide KS _ hq1 | with_reducible exact unhide KS _ hq2 | with_reducible exact unhide KS _ hq3) (first | (go_at_call 10; refine (unhide HDo _ ((unhide HB).trans (hdr.mono (by omega))) hn12 (unhide HZ4)).mono ?_; rintro e w12 ⟨s3, c3, a3, p3, rfl, hl3, hc3, hb1⟩; have hq1 := hdr.trans (hb1.mono (by exact Nat.le_refl _))) | (go_at_call 13; refine (unhide HCc s3 c3 a3 p3 _ ((unhide HB).trans (hq1.mono (by omega))) hl3 hc3).mono ?_; rintro e w13 ⟨v3, rfl, hE3, hb2⟩; have hq2 := hq1.trans (hb2.mono hq1.size)) | (go_at_call 12; refine (faulted3_is v3 0 zz _ aS (unhide HSW _ ((unhide HB).trans (hq2.mono (by omega)))) hE3).mono ?_; rintro e w14 ⟨rfl, hb3⟩; have hq3 := hq2.trans (hb3.mono hq2.size)))
    clear hdr KS hq1 hq2 hb1 hb2 hb3 hl3 hE3 d0 d1 d2 hld f0 f1 hlf
    have hsz := hq3.size
    have kB := blk_below kB hq3 (blk_lt kB)
    have kF := blk_below kF hq3 (blk_lt kF)
    have kP := blk_below kP hq3 (blk_lt kP)
    have kX := blk_below kX hq3 (blk_lt kX)
    have HP1 := hide ((unhide HP1).below hq3)
    have HB := hide ((unhide HB).trans (hq3.mono (by omega)))
    have hBs : B + 1 ≤ w14.heap.size := by omega
    clear hq3 hsz
    have f0 : w14.cell? ⟨F, 0, none⟩ = some (.int .i64 ((0 : Nat) : Int)) := blk_cell kF 0
    have f1 : w14.cell? ⟨F, 1, none⟩ = some (.int .i64 zz) := blk_cell kF 1
    have hlf : F < w14.heap.size := blk_lt kF
    have d0 : w14.cell? ⟨B, 0, none⟩ = some (.int .i64 (W : Int)) := blk_cell kB 0
    have d1 : w14.cell? ⟨B, 1, none⟩ = some (.int .i64 (H : Int)) := blk_cell kB 1
    have d2 : w14.cell? ⟨B, 2, none⟩ = some (.slice s n c) := blk_cell kB 2
    have hld : B < w14.heap.size := blk_lt kB
    go_wp2_with fail
    clear f0 f1 hlf d0 d1 d2 hld
    refine (unhide HFO _ (unhide HB)).mono ?_
    rintro e w15 ⟨gw, cw, rfl, hpw, hb15⟩
    have HPW := hide hpw
    clear hpw
    have hsz := hb15.size
    have kB := blk_below kB hb15 (blk_lt kB)
    have kF := blk_below kF hb15 (blk_lt kF)
    have kP := blk_below kP hb15 (blk_lt kP)
    have kX := blk_below kX hb15 (blk_lt kX)
    have HP1 := hide ((unhide HP1).below hb15)
    have HB := hide ((unhide HB).trans (hb15.mono (by omega)))
    have hBs : B + 1 ≤ w15.heap.size := by omega
    clear hb15 hsz
    have g0 : w15.cell? ⟨P, 0, none⟩ = some (.int .i64 (W : Int)) := blk_cell kP 0
    have g1 : w15.cell? ⟨P, 1, none⟩ = some (.int .i64 (H : Int)) := blk_cell kP 1
    have g2 : w15.cell? ⟨P, 2, none⟩ = some (.slice ai M ci) := blk_cell kP 2
    have hlg : P < w15.heap.size := blk_lt kP
    have hHA := hide (al1 w15 (.cells #[.int .i64 (W : Int), .int .i64 (H : Int), .slice (some ⟨gw, 0, none⟩) M cw] 32))
    go_wp2_with fail
    clear g0 g1 g2 hlg
    generalize w15.alloc (.cells #[.int .i64 (W : Int), .int .i64 (H : Int), .slice (some ⟨gw, 0, none⟩) M cw] 32) = w16 at *
    obtain ⟨hsA, kW, hbA⟩ := unhide hHA
    obtain ⟨V, hV⟩ : ∃ T, T = w15.heap.size := ⟨_, rfl⟩
    rw [← hV] at kW ⊢
    have hgeV : B + 1 ≤ V := by omega
    clear hHA hV hsA
    have hsz := hbA.size
    have kB := blk_below kB hbA (blk_lt kB)
    have kF := blk_below kF hbA (blk_lt kF)
    have kP := blk_below kP hbA (blk_lt kP)
    have kX := blk_below kX hbA (blk_lt kX)
    have HP1 := hide ((unhide HP1).below hbA)
    have HPW := hide ((unhide HPW).below hbA)
    have HB := hide ((unhide HB).trans (hbA.mono (by omega)))
    have hBs : B + 1 ≤ w16.heap.size := by omega
    clear hbA hsz
    refine (samePicture_any (W : Int) (H : Int) ai (some ⟨gw, 0, none⟩) M ci cw G _ (unhide HP1) (unhide HPW) (by omega)).mono ?_
    rintro e w17 ⟨rfl, hb17⟩
    have hsz := hb17.size
    have kB := blk_below kB hb17 (blk_lt kB)
    have kF := blk_below kF hb17 (blk_lt kF)
    have kP := blk_below kP hb17 (blk_lt kP)
    have kX := blk_below kX hb17 (blk_lt kX)
    have kW := blk_below kW hb17 (blk_lt kW)
    have HP1 := hide ((unhide HP1).below hb17)
    have HPW := hide ((unhide HPW).below hb17)
    have HB := hide ((unhide HB).trans (hb17.mono (by omega)))
    have hBs : B + 1 ≤ w17.heap.size := by omega
    clear hb17 hsz
    have g0 : w17.cell? ⟨V, 0, none⟩ = some (.int .i64 (W : Int)) := blk_cell kW 0
    have g1 : w17.cell? ⟨V, 1, none⟩ = some (.int .i64 (H : Int)) := blk_cell kW 1
    have g2 : w17.cell? ⟨V, 2, none⟩ = some (.slice (some ⟨gw, 0, none⟩) M cw) := blk_cell kW 2
    have hlg : V < w17.heap.size := blk_lt kW
    go_wp2_with fail
    clear g0 g1 g2 hlg
    refine (inP_any (W : Int) (H : Int) x y (some ⟨gw, 0, none⟩) M cw _).mono ?_
    rintro e w18 ⟨rfl, hb18⟩
    have hsz := hb18.size
    have kB := blk_below kB hb18 (blk_lt kB)
    have kF := blk_below kF hb18 (blk_lt kF)
    have kP := blk_below kP hb18 (blk_lt kP)
    have kX := blk_below kX hb18 (blk_lt kX)
    have kW := blk_below kW hb18 (blk_lt kW)
    have HP1 := hide ((unhide HP1).below hb18)
    have HPW := hide ((unhide HPW).below hb18)
    have HB := hide ((unhide HB).trans (hb18.mono (by omega)))
    have hBs : B + 1 ≤ w18.heap.size := by omega
    clear hb18 hsz
    rw [decide_eq_false hin]
    have HCo := hide (coded3_sent 1 2 _ aS (unhide HSW _ (unhide HB)) (by omega) rfl)
    rw [hsv] at HCo
    go_wp2_with fail
    refine (unhide HCo).mono ?_
    rintro e w19 ⟨rfl, hb19⟩
    have hsz := hb19.size
    have kB := blk_below kB hb19 (blk_lt kB)
    have kF := blk_below kF hb19 (blk_lt kF)
    have kP := blk_below kP hb19 (blk_lt kP)
    have kX := blk_below kX hb19 (blk_lt kX)
    have kW := blk_below kW hb19 (blk_lt kW)
    have HP1 := hide ((unhide HP1).below hb19)
    have HPW := hide ((unhide HPW).below hb19)
    have HB := hide ((unhide HB).trans (hb19.mono (by omega)))
    have hBs : B + 1 ≤ w19.heap.size := by omega
    clear hb19 hsz
    have g0 : w19.cell? ⟨X, 0, none⟩ = some (.int .u8 0) := blk_cell kX 0
    have g1 : w19.cell? ⟨X, 1, none⟩ = some (.int .u8 0) := blk_cell kX 1
    have g2 : w19.cell? ⟨X, 2, none⟩ = some (.int .u8 0) := blk_cell kX 2
    have g3 : w19.cell? ⟨X, 3, none⟩ = some (.int .u8 0) := blk_cell kX 3
    have hlg : X < w19.heap.size := blk_lt kX
    clear HDo HSW HLW HChk HFl HLo HLi HCc HFO HP1 HPW HZ4 HGA HIX HCo
    go_wp2
    go_ret
    exact ⟨rfl, bel_at (unhide HBE) (unhide HB)⟩
  obtain ⟨x, rfl⟩ := Int.eq_ofNat_of_zero_le hxy.1.1
  obtain ⟨y, rfl⟩ := Int.eq_ofNat_of_zero_le hxy.2.1
  have hx : x < W := by omega
  have hy : y < H := by omega
  have hin : 0 ≤ (x : Int) ∧ 0 ≤ (y : Int) ∧ (x : Int) < (W : Int) ∧ (y : Int) < (H : Int) := by omega
  go_wp2_with fail
  refine (unhide HLi x y s2 c2 a2 p2 _ (unhide HB) (unhide HL2) hc2 hx hy).mono ?_
  rintro e w10 ⟨rfl, hb10⟩
  clear HL2
  have hsz := hb10.size
  have kB := blk_below kB hb10 (blk_lt kB)
  have kF := blk_below kF hb10 (blk_lt kF)
  have kP := blk_below kP hb10 (blk_lt kP)
  have HP1 := hide ((unhide HP1).below hb10)
  have HB := hide ((unhide HB).trans (hb10.mono (by omega)))
  have hBs : B + 1 ≤ w10.heap.size := by omega
  clear hb10 hsz
  have hGA := unhide HGA x y hx
  have hix := unhide HIX x y hx hy
  generalize seenP L n x y = v at *
  have hHA := hide (al1 w10 (.cells #[.int .u8 (v.r.toNat : Int), .int .u8 (v.g.toNat : Int), .int .u8 (v.b.toNat : Int), .int .u8 (v.a.toNat : Int)] 42))
  unfold Px.val
  go_wp2
  generalize w10.alloc (.cells #[.int .u8 (v.r.toNat : Int), .int .u8 (v.g.toNat : Int), .int .u8 (v.b.toNat : Int), .int .u8 (v.a.toNat : Int)] 42) = w11 at *
  obtain ⟨hsA, kX, hbA⟩ := unhide hHA
  obtain ⟨X, hX⟩ : ∃ T, T = w10.heap.size := ⟨_, rfl⟩
  rw [← hX] at kX ⊢
  have hgeX : B + 1 ≤ X := by omega
  clear hHA hX hsA
  have hsz := hbA.size
  have kB := blk_below kB hbA (blk_lt kB)
  have kF := blk_below kF hbA (blk_lt kF)
  have kP := blk_below kP hbA (blk_lt kP)
  have HP1 := hide ((unhide HP1).below hbA)
  have HB := hide ((unhide HB).trans (hbA.mono (by omega)))
  have hBs : B + 1 ≤ w11.heap.size := by omega
  clear hbA hsz
  have d0 : w11.cell? ⟨B, 0, none⟩ = some (.int .i64 (W : Int)) := blk_cell kB 0
  have d1 : w11.cell? ⟨B, 1, none⟩ = some (.int .i64 (H : Int)) := blk_cell kB 1
  have d2 : w11.cell? ⟨B, 2, none⟩ = some (.slice s n c) := blk_cell kB 2
  have hld : B < w11.heap.size := blk_lt kB
  have f0 : w11.cell? ⟨F, 0, none⟩ = some (.int .i64 ((0 : Nat) : Int)) := blk_cell kF 0
  have f1 : w11.cell? ⟨F, 1, none⟩ = some (.int .i64 zz) := blk_cell kF 1
  have hlf : F < w11.heap.size := blk_lt kF
  have hdr := (Below.refl w11.heap.size w11).drew
  have KS := hide (fun (w' : World) (h : Below w11.heap.size w11 w') => (⟨(h.cell (p := ⟨B, 0, none⟩) hld).trans d0, (h.cell (p := ⟨B, 1, none⟩) hld).trans d1, (h.cell (p := ⟨B, 2, none⟩) hld).trans d2, (h.cell (p := ⟨F, 0, none⟩) hlf).trans f0, (h.cell (p := ⟨F, 1, none⟩) hlf).trans f1⟩ : w'.cell? ⟨B, 0, none⟩ = some (.int .i64 (W : Int)) ∧ w'.cell? ⟨B, 1, none⟩ = some (.int .i64 (H : Int)) ∧ w'.cell? ⟨B, 2, none⟩ = some (.slice s n c) ∧ w'.cell? ⟨F, 0, none⟩ = some (.int .i64 ((0 : Nat) : Int)) ∧ w'.cell? ⟨F, 1, none⟩ = some (.int .i64 zz)))
  go_region_held (fun w' => w'.cell? ⟨B, 0, none⟩ = some (.int .i64 (W : Int)) ∧ w'.cell? ⟨B, 1, none⟩ = some (.int .i64 (H : Int)) ∧ w'.cell? ⟨B, 2, none⟩ = some (.slice s n c) ∧ w'.cell? ⟨F, 0, none⟩ = some (.int .i64 ((0 : Nat) : Int)) ∧ w'.cell? ⟨F, 1, none⟩ = some (.int .i64 zz)) (first | with_reducible exact unhide KS _ hdr | with_reducible exact unhide KS _ hq1 | with_reducible exact unhide KS _ hq2 | with_reducible exact unhide KS _ hq3) (first | (go_at_call 10; refine (unhide HDo _ ((unhide HB).trans (hdr.mono (by omega))) hn12 (unhide HZ4)).mono ?_; rintro e w12 ⟨s3, c3, a3, p3, rfl, hl3, hc3, hb1⟩; have hq1 := hdr.trans (hb1.mono (by exact Nat.le_refl _))) | (go_at_call 13; refine (unhide HCc s3 c3 a3 p3 _ ((unhide HB).trans (hq1.mono (by omega))) hl3 hc3).mono ?_; rintro e w13 ⟨v3, rfl, hE3, hb2⟩; have hq2 := hq1.trans (hb2.mono hq1.size)) | (go_at_call 12; refine (faulted3_is v3 0 zz _ aS (unhide HSW _ ((unhide HB).trans (hq2.mono (by omega)))) hE3).mono ?_; rintro e w14 ⟨rfl, hb3⟩; have hq3 := hq2.trans (hb3.mono hq2.size)))
  clear hdr KS hq1 hq2 hb1 hb2 hb3 hl3 hE3 d0 d1 d2 hld f0 f1 hlf
  have hsz := hq3.size
  have kB := blk_below kB hq3 (blk_lt kB)
  have kF := blk_below kF hq3 (blk_lt kF)
  have kP := blk_below kP hq3 (blk_lt kP)
  have kX := blk_below kX hq3 (blk_lt kX)
  have HP1 := hide ((unhide HP1).below hq3)
  have HB := hide ((unhide HB).trans (hq3.mono (by omega)))
  have hBs : B + 1 ≤ w14.heap.size := by omega
  clear hq3 hsz
  have f0 : w14.cell? ⟨F, 0, none⟩ = some (.int .i64 ((0 : Nat) : Int)) := blk_cell kF 0
  have f1 : w14.cell? ⟨F, 1, none⟩ = some (.int .i64 zz) := blk_cell kF 1
  have hlf : F < w14.heap.size := blk_lt kF
  have d0 : w14.cell? ⟨B, 0, none⟩ = some (.int .i64 (W : Int)) := blk_cell kB 0
  have d1 : w14.cell? ⟨B, 1, none⟩ = some (.int .i64 (H : Int)) := blk_cell kB 1
  have d2 : w14.cell? ⟨B, 2, none⟩ = some (.slice s n c) := blk_cell kB 2
  have hld : B < w14.heap.size := blk_lt kB
  go_wp2_with fail
  clear f0 f1 hlf d0 d1 d2 hld
  refine (unhide HFO _ (unhide HB)).mono ?_
  rintro e w15 ⟨gw, cw, rfl, hpw, hb15⟩
  have HPW := hide hpw
  clear hpw
  have hsz := hb15.size
  have kB := blk_below kB hb15 (blk_lt kB)
  have kF := blk_below kF hb15 (blk_lt kF)
  have kP := blk_below kP hb15 (blk_lt kP)
  have kX := blk_below kX hb15 (blk_lt kX)
  have HP1 := hide ((unhide HP1).below hb15)
  have HB := hide ((unhide HB).trans (hb15.mono (by omega)))
  have hBs : B + 1 ≤ w15.heap.size := by omega
  clear hb15 hsz
  have g0 : w15.cell? ⟨P, 0, none⟩ = some (.int .i64 (W : Int)) := blk_cell kP 0
  have g1 : w15.cell? ⟨P, 1, none⟩ = some (.int .i64 (H : Int)) := blk_cell kP 1
  have g2 : w15.cell? ⟨P, 2, none⟩ = some (.slice ai M ci) := blk_cell kP 2
  have hlg : P < w15.heap.size := blk_lt kP
  have hHA := hide (al1 w15 (.cells #[.int .i64 (W : Int), .int .i64 (H : Int), .slice (some ⟨gw, 0, none⟩) M cw] 32))
  go_wp2_with fail
  clear g0 g1 g2 hlg
  generalize w15.alloc (.cells #[.int .i64 (W : Int), .int .i64 (H : Int), .slice (some ⟨gw, 0, none⟩) M cw] 32) = w16 at *
  obtain ⟨hsA, kW, hbA⟩ := unhide hHA
  obtain ⟨V, hV⟩ : ∃ T, T = w15.heap.size := ⟨_, rfl⟩
  rw [← hV] at kW ⊢
  have hgeV : B + 1 ≤ V := by omega
  clear hHA hV hsA
  have hsz := hbA.size
  have kB := blk_below kB hbA (blk_lt kB)
  have kF := blk_below kF hbA (blk_lt kF)
  have kP := blk_below kP hbA (blk_lt kP)
  have kX := blk_below kX hbA (blk_lt kX)
  have HP1 := hide ((unhide HP1).below hbA)
  have HPW := hide ((unhide HPW).below hbA)
  have HB := hide ((unhide HB).trans (hbA.mono (by omega)))
  have hBs : B + 1 ≤ w16.heap.size := by omega
  clear hbA hsz
  refine (samePicture_any (W : Int) (H : Int) ai (some ⟨gw, 0, none⟩) M ci cw G _ (unhide HP1) (unhide HPW) (by omega)).mono ?_
  rintro e w17 ⟨rfl, hb17⟩
  have hsz := hb17.size
  have kB := blk_below kB hb17 (blk_lt kB)
  have kF := blk_below kF hb17 (blk_lt kF)
  have kP := blk_below kP hb17 (blk_lt kP)
  have kX := blk_below kX hb17 (blk_lt kX)
  have kW := blk_below kW hb17 (blk_lt kW)
  have HP1 := hide ((unhide HP1).below hb17)
  have HPW := hide ((unhide HPW).below hb17)
  have HB := hide ((unhide HB).trans (hb17.mono (by omega)))
  have hBs : B + 1 ≤ w17.heap.size := by omega
  clear hb17 hsz
  have g0 : w17.cell? ⟨V, 0, none⟩ = some (.int .i64 (W : Int)) := blk_cell kW 0
  have g1 : w17.cell? ⟨V, 1, none⟩ = some (.int .i64 (H : Int)) := blk_cell kW 1
  have g2 : w17.cell? ⟨V, 2, none⟩ = some (.slice (some ⟨gw, 0, none⟩) M cw) := blk_cell kW 2
  have hlg : V < w17.heap.size := blk_lt kW
  go_wp2_with fail
  clear g0 g1 g2 hlg
  refine (inP_any (W : Int) (H : Int) (x : Int) (y : Int) (some ⟨gw, 0, none⟩) M cw _).mono ?_
  rintro e w18 ⟨rfl, hb18⟩
  have hsz := hb18.size
  have kB := blk_below kB hb18 (blk_lt kB)
  have kF := blk_below kF hb18 (blk_lt kF)
  have kP := blk_below kP hb18 (blk_lt kP)
  have kX := blk_below kX hb18 (blk_lt kX)
  have kW := blk_below kW hb18 (blk_lt kW)
  have HP1 := hide ((unhide HP1).below hb18)
  have HPW := hide ((unhide HPW).below hb18)
  have HB := hide ((unhide HB).trans (hb18.mono (by omega)))
  have hBs : B + 1 ≤ w18.heap.size := by omega
  clear hb18 hsz
  rw [decide_eq_true hin]
  obtain ⟨t, ht⟩ : ∃ t, t = y * W := ⟨_, rfl⟩
  have hti : (y : Int) * (W : Int) = (t : Int) := by rw [ht]; simp
  rw [← ht] at hGA hix
  obtain ⟨u, hu⟩ : ∃ u, u = t + x := ⟨_, rfl⟩
  rw [← hu] at hGA hix
  have wt : IntKind.i64.wrap (t : Int) = (t : Int) := by rw [IntKind.wrap_i64]; omega
  have wu : IntKind.i64.wrap ((t : Int) + (x : Int)) = (u : Int) := by rw [IntKind.wrap_i64]; omega
  have hui : (u : Int) < (M : Int) := by omega
  obtain ⟨b, off, e, _, hc⟩ := (unhide HPW).resolve_left (by omega)
  injection e with e
  injection e with e1 e2
  subst e1
  obtain rfl : off = 0 := e2.symm
  obtain ⟨q0, q1, q2, q3⟩ := hc u hix
  have hlq := (hc u hix).lt
  rw [hGA, Nat.zero_add] at q0 q1 q2 q3
  clear ht hu hc hGA hix HDo HSW HLW HChk HFl HLo HLi HCc HFO HP1 HZ4 HGA HIX hin hxy
  have g0 : w18.cell? ⟨V, 0, none⟩ = some (.int .i64 (W : Int)) := blk_cell kW 0
  have g1 : w18.cell? ⟨V, 1, none⟩ = some (.int .i64 (H : Int)) := blk_cell kW 1
  have g2 : w18.cell? ⟨V, 2, none⟩ = some (.slice (some ⟨gw, 0, none⟩) M cw) := blk_cell kW 2
  have hlg : V < w18.heap.size := blk_lt kW
  have x0 : w18.cell? ⟨X, 0, none⟩ = some (.int .u8 (v.r.toNat : Int)) := blk_cell kX 0
  have x1 : w18.cell? ⟨X, 1, none⟩ = some (.int .u8 (v.g.toNat : Int)) := blk_cell kX 1
  have x2 : w18.cell? ⟨X, 2, none⟩ = some (.int .u8 (v.b.toNat : Int)) := blk_cell kX 2
  have x3 : w18.cell? ⟨X, 3, none⟩ = some (.int .u8 (v.a.toNat : Int)) := blk_cell kX 3
  have hlx : X < w18.heap.size := blk_lt kX
  go_wp2
  go_region_held (fun w' => w'.cell? ⟨X, 0, none⟩ = some (.int .u8 (v.r.toNat : Int)) ∧ w'.cell? ⟨X, 1, none⟩ = some (.int .u8 (v.g.toNat : Int)) ∧ w'.cell? ⟨X, 2, none⟩ = some (.int .u8 (v.b.toNat : Int)) ∧ w'.cell? ⟨X, 3, none⟩ = some (.int .u8 (v.a.toNat : Int)) ∧ w'.cell? ⟨V, 0, none⟩ = some (.int .i64 (W : Int)) ∧ w'.cell? ⟨V, 2, none⟩ = some (.slice (some ⟨gw, 0, none⟩) M cw) ∧ w'.cell? ⟨gw, u * 4, none⟩ = some (.int .u8 (v.r.toNat : Int)) ∧ w'.cell? ⟨gw, u * 4 + 1, none⟩ = some (.int .u8 (v.g.toNat : Int)) ∧ w'.cell? ⟨gw, u * 4 + 2, none⟩ = some (.int .u8 (v.b.toNat : Int)) ∧ w'.cell? ⟨gw, u * 4 + 3, none⟩ = some (.int .u8 (v.a.toNat : Int))) (exact ⟨x0, x1, x2, x3, g0, g2, q0, q1, q2, q3⟩) (fail)
  have HBd := hide (unhide HB).drew
  go_wp2
  go_ret
  exact ⟨rfl, bel_at (unhide HBE) (unhide HBd)⟩
end Go.Proofs.YtjhnneplknhmkajDoor
