/- The statement on pictures flipped, turned, halved and of another size: the walk. Written by genrl.py. -/
import Derived.Test.YtjchafbihfblnahDoorRw1
import Derived.Test.YtjchafbihfblnahDoorRt9
import Derived.Test.YtjchafbihfblnahDoorRo2
namespace Go.Proofs.YtjchafbihfblnahDoor
open Go.RowKit

set_option maxHeartbeats 4000000 in
set_option maxRecDepth 100000 in
theorem rasterTurns_many (W H : Int) (a : Option Addr) (n c : Nat) (p : Nat → Px) (d : Bool) (z : Int) (u v : Int) (w : World) (A : Nat → Addr) (hS : Sent w A) (hP : IsPx w a n p) (hn3 : ¬ n ≤ 3000) :
    Calls Tryd.prog 6 #[.agg #[.int .i64 W, .int .i64 H, .slice a n c], .bool d, .int .i64 z, .int .i64 u, .int .i64 v] w fun e w' => e = .returned (.bool true) ∧ Below w.heap.size w w' := by
  have HPL := hide plainly_any
  have HSM := hide (fun w => small_any W H a n c w)
  rw [decide_eq_false hn3] at HSM
  have HX := hide hP
  have HS0 := hide hS
  clear hn3 hP hS
  have HA := hide (al1 w (.cells #[.int .i64 W, .int .i64 H, .slice a n c] 26))
  obtain ⟨B, hB⟩ : ∃ B, B = w.heap.size := ⟨_, rfl⟩
  go_enter Tryd.func6, Tryd.ntmps6
  go_wp2_with fail
  generalize (w.alloc (.cells #[.int .i64 W, .int .i64 H, .slice a n c] 26)) = w1 at *
  rw [← hB] at HA ⊢
  obtain ⟨hs1, kp, hb1⟩ := unhide HA
  have HBE := hide hB
  clear HA hB
  have hs : B + 1 ≤ w1.heap.size := by omega
  have HB := hide hb1
  clear hs1 hb1
  have HXp := hide ((unhide HX).under (unhide HB) (fun x hx h0 => by rw [unhide HBE]; exact (unhide HX).lt x hx h0))
  have HSe := hide ((unhide HS0).below (by rw [← unhide HBE]; exact unhide HB))
  clear HX HS0
  refine (unhide HPL _).mono ?_
  rintro e w2 ⟨rfl, hbN⟩
  have hsz := hbN.size
  have kp := blk_below kp hbN (blk_lt kp)
  have HXp := hide ((unhide HXp).below hbN)
  have HSe := hide ((unhide HSe).below hbN)
  have HB := hide ((unhide HB).trans (hbN.mono (by omega)))
  have hs : B + 1 ≤ w2.heap.size := by omega
  clear hbN hsz
  have hlp : B < w2.heap.size := blk_lt kp
  have cp0 : w2.cell? ⟨B, 0, none⟩ = some (.int .i64 W) := blk_cell kp 0
  have cp1 : w2.cell? ⟨B, 1, none⟩ = some (.int .i64 H) := blk_cell kp 1
  have cp2 : w2.cell? ⟨B, 2, none⟩ = some (.slice a n c) := blk_cell kp 2
  go_wp2_with fail
  clear cp0 cp1 cp2 hlp
  refine (unhide HSM _).mono ?_
  rintro e w3 ⟨rfl, hbN⟩
  have hsz := hbN.size
  have kp := blk_below kp hbN (blk_lt kp)
  have HXp := hide ((unhide HXp).below hbN)
  have HSe := hide ((unhide HSe).below hbN)
  have HB := hide ((unhide HB).trans (hbN.mono (by omega)))
  have hs : B + 1 ≤ w3.heap.size := by omega
  clear hbN hsz
  have hlp : B < w3.heap.size := blk_lt kp
  have cp0 : w3.cell? ⟨B, 0, none⟩ = some (.int .i64 W) := blk_cell kp 0
  have cp1 : w3.cell? ⟨B, 1, none⟩ = some (.int .i64 H) := blk_cell kp 1
  have cp2 : w3.cell? ⟨B, 2, none⟩ = some (.slice a n c) := blk_cell kp 2
  go_wp2
  clear cp0 cp1 cp2 hlp
  go_ret
  exact ⟨rfl, by rw [← unhide HBE]; exact unhide HB⟩
set_option maxHeartbeats 4000000 in
set_option maxRecDepth 100000 in
theorem rasterTurns_shape (W H : Int) (a : Option Addr) (n c : Nat) (p : Nat → Px) (d : Bool) (z : Int) (u v : Int) (w : World) (A : Nat → Addr) (hS : Sent w A) (hP : IsPx w a n p) (hn3 : n ≤ 3000) (hR : ¬ RightP W H n) :
    Calls Tryd.prog 6 #[.agg #[.int .i64 W, .int .i64 H, .slice a n c], .bool d, .int .i64 z, .int .i64 u, .int .i64 v] w fun e w' => e = .returned (.bool true) ∧ Below w.heap.size w w' := by
  have HPL := hide plainly_any
  have HSM := hide (fun w => small_any W H a n c w)
  rw [decide_eq_true hn3] at HSM
  have HX := hide hP
  have HS0 := hide hS
  have HRT := hide (fun w => pright_any W H a n c w)
  have HO := hide (fun w (h : IsPx w a n p) => own_isPx W H a n c p w h (by omega))
  rw [decide_eq_false hR] at HRT
  have HF := hide (fun w a c (h : Sent w A) => flip_shape W H a n c d w _ _ (h.cell 2 (by omega)) hR)
  have HTk := hide (fun w a c (h : Sent w A) => turn_shape W H a n c z w _ _ (h.cell 2 (by omega)) hR)
  have HH := hide (fun w a c (h : Sent w A) => half_shape W H a n c  w _ _ (h.cell 2 (by omega)) hR)
  have HSc := hide (fun w a c (h : Sent w A) => scale_shape W H a n c u v w _ _ (h.cell 2 (by omega)) hR)
  have HTe := hide (fun w (h : Sent w A) => told_err 2 3 W H a n c w A h (by omega) rfl)
  clear hn3 hP hS hR
  have HA := hide (al1 w (.cells #[.int .i64 W, .int .i64 H, .slice a n c] 26))
  obtain ⟨B, hB⟩ : ∃ B, B = w.heap.size := ⟨_, rfl⟩
  go_enter Tryd.func6, Tryd.ntmps6
  go_wp2_with fail
  generalize (w.alloc (.cells #[.int .i64 W, .int .i64 H, .slice a n c] 26)) = w1 at *
  rw [← hB] at HA ⊢
  obtain ⟨hs1, kp, hb1⟩ := unhide HA
  have HBE := hide hB
  clear HA hB
  have hs : B + 1 ≤ w1.heap.size := by omega
  have HB := hide hb1
  clear hs1 hb1
  have HXp := hide ((unhide HX).under (unhide HB) (fun x hx h0 => by rw [unhide HBE]; exact (unhide HX).lt x hx h0))
  have HSe := hide ((unhide HS0).below (by rw [← unhide HBE]; exact unhide HB))
  clear HX HS0
  refine (unhide HPL _).mono ?_
  rintro e w2 ⟨rfl, hbN⟩
  have hsz := hbN.size
  have kp := blk_below kp hbN (blk_lt kp)
  have HXp := hide ((unhide HXp).below hbN)
  have HSe := hide ((unhide HSe).below hbN)
  have HB := hide ((unhide HB).trans (hbN.mono (by omega)))
  have hs : B + 1 ≤ w2.heap.size := by omega
  clear hbN hsz
  have hlp : B < w2.heap.size := blk_lt kp
  have cp0 : w2.cell? ⟨B, 0, none⟩ = some (.int .i64 W) := blk_cell kp 0
  have cp1 : w2.cell? ⟨B, 1, none⟩ = some (.int .i64 H) := blk_cell kp 1
  have cp2 : w2.cell? ⟨B, 2, none⟩ = some (.slice a n c) := blk_cell kp 2
  go_wp2_with fail
  clear cp0 cp1 cp2 hlp
  refine (unhide HSM _).mono ?_
  rintro e w3 ⟨rfl, hbN⟩
  have hsz := hbN.size
  have kp := blk_below kp hbN (blk_lt kp)
  have HXp := hide ((unhide HXp).below hbN)
  have HSe := hide ((unhide HSe).below hbN)
  have HB := hide ((unhide HB).trans (hbN.mono (by omega)))
  have hs : B + 1 ≤ w3.heap.size := by omega
  clear hbN hsz
  have hlp : B < w3.heap.size := blk_lt kp
  have cp0 : w3.cell? ⟨B, 0, none⟩ = some (.int .i64 W) := blk_cell kp 0
  have cp1 : w3.cell? ⟨B, 1, none⟩ = some (.int .i64 H) := blk_cell kp 1
  have cp2 : w3.cell? ⟨B, 2, none⟩ = some (.slice a n c) := blk_cell kp 2
  go_wp2_with fail
  clear cp0 cp1 cp2 hlp
  refine (unhide HO w3 (unhide HXp)).mono ?_
  rintro e w4 ⟨a0, c0, rfl, hpx, hbN⟩
  have hsz := hbN.size
  have kp := blk_below kp hbN (blk_lt kp)
  have HXp := hide ((unhide HXp).below hbN)
  have HSe := hide ((unhide HSe).below hbN)
  have HB := hide ((unhide HB).trans (hbN.mono (by omega)))
  have hs : B + 1 ≤ w4.heap.size := by omega
  clear hbN hsz
  have HX0 := hide hpx
  clear hpx
  have hlp : B < w4.heap.size := blk_lt kp
  have cp0 : w4.cell? ⟨B, 0, none⟩ = some (.int .i64 W) := blk_cell kp 0
  have cp1 : w4.cell? ⟨B, 1, none⟩ = some (.int .i64 H) := blk_cell kp 1
  have cp2 : w4.cell? ⟨B, 2, none⟩ = some (.slice a n c) := blk_cell kp 2
  go_wp2_with fail
  clear cp0 cp1 cp2 hlp
  refine (unhide HF w4 _ _ (unhide HSe)).mono ?_
  rintro e w5 ⟨rfl, hbN⟩
  have hsz := hbN.size
  have kp := blk_below kp hbN (blk_lt kp)
  have HXp := hide ((unhide HXp).below hbN)
  have HX0 := hide ((unhide HX0).below hbN)
  have HSe := hide ((unhide HSe).below hbN)
  have HB := hide ((unhide HB).trans (hbN.mono (by omega)))
  have hs : B + 1 ≤ w5.heap.size := by omega
  clear hbN hsz
  clear HX0
  have hlp : B < w5.heap.size := blk_lt kp
  have cp0 : w5.cell? ⟨B, 0, none⟩ = some (.int .i64 W) := blk_cell kp 0
  have cp1 : w5.cell? ⟨B, 1, none⟩ = some (.int .i64 H) := blk_cell kp 1
  have cp2 : w5.cell? ⟨B, 2, none⟩ = some (.slice a n c) := blk_cell kp 2
  have HA := hide (al1 w5 (.cells #[.int .i64 0, .int .i64 0, .slice none 0 0] 26))
  obtain ⟨bF, heqF⟩ : ∃ b, b = w5.heap.size := ⟨_, rfl⟩
  go_wp2_with fail
  clear cp0 cp1 cp2 hlp
  generalize w5.alloc (.cells #[.int .i64 0, .int .i64 0, .slice none 0 0] 26) = w6 at *
  rw [← heqF] at HA ⊢
  obtain ⟨hsA, kF, hbA⟩ := unhide HA
  rw [heqF] at hbA
  have ltFp : B < bF := by rw [heqF]; exact blk_lt kp
  have hgB : B ≤ bF := by rw [heqF]; omega
  clear HA
  have hsz := hbA.size
  have kp := blk_below kp hbA (blk_lt kp)
  have HXp := hide ((unhide HXp).below hbA)
  have HSe := hide ((unhide HSe).below hbA)
  have HB := hide ((unhide HB).trans (hbA.mono (by omega)))
  have hs : B + 1 ≤ w6.heap.size := by omega
  clear hbA hsz
  clear heqF hsA
  refine (unhide HO w6 (unhide HXp)).mono ?_
  rintro e w7 ⟨a1, c1, rfl, hpx, hbN⟩
  have hsz := hbN.size
  have kp := blk_below kp hbN (blk_lt kp)
  have kF := blk_below kF hbN (blk_lt kF)
  have HXp := hide ((unhide HXp).below hbN)
  have HSe := hide ((unhide HSe).below hbN)
  have HB := hide ((unhide HB).trans (hbN.mono (by omega)))
  have hs : B + 1 ≤ w7.heap.size := by omega
  clear hbN hsz
  have HX1 := hide hpx
  clear hpx
  have hlp : B < w7.heap.size := blk_lt kp
  have cp0 : w7.cell? ⟨B, 0, none⟩ = some (.int .i64 W) := blk_cell kp 0
  have cp1 : w7.cell? ⟨B, 1, none⟩ = some (.int .i64 H) := blk_cell kp 1
  have cp2 : w7.cell? ⟨B, 2, none⟩ = some (.slice a n c) := blk_cell kp 2
  have hlF : bF < w7.heap.size := blk_lt kF
  have cF0 : w7.cell? ⟨bF, 0, none⟩ = some (.int .i64 0) := blk_cell kF 0
  have cF1 : w7.cell? ⟨bF, 1, none⟩ = some (.int .i64 0) := blk_cell kF 1
  have cF2 : w7.cell? ⟨bF, 2, none⟩ = some (.slice none 0 0) := blk_cell kF 2
  go_wp2_with fail
  clear cp0 cp1 cp2 cF0 cF1 cF2 hlp hlF
  refine (unhide HTk w7 _ _ (unhide HSe)).mono ?_
  rintro e w8 ⟨rfl, hbN⟩
  have hsz := hbN.size
  have kp := blk_below kp hbN (blk_lt kp)
  have kF := blk_below kF hbN (blk_lt kF)
  have HXp := hide ((unhide HXp).below hbN)
  have HX1 := hide ((unhide HX1).below hbN)
  have HSe := hide ((unhide HSe).below hbN)
  have HB := hide ((unhide HB).trans (hbN.mono (by omega)))
  have hs : B + 1 ≤ w8.heap.size := by omega
  clear hbN hsz
  clear HX1
  have hlp : B < w8.heap.size := blk_lt kp
  have cp0 : w8.cell? ⟨B, 0, none⟩ = some (.int .i64 W) := blk_cell kp 0
  have cp1 : w8.cell? ⟨B, 1, none⟩ = some (.int .i64 H) := blk_cell kp 1
  have cp2 : w8.cell? ⟨B, 2, none⟩ = some (.slice a n c) := blk_cell kp 2
  have hlF : bF < w8.heap.size := blk_lt kF
  have cF0 : w8.cell? ⟨bF, 0, none⟩ = some (.int .i64 0) := blk_cell kF 0
  have cF1 : w8.cell? ⟨bF, 1, none⟩ = some (.int .i64 0) := blk_cell kF 1
  have cF2 : w8.cell? ⟨bF, 2, none⟩ = some (.slice none 0 0) := blk_cell kF 2
  have HA := hide (al1 w8 (.cells #[.int .i64 0, .int .i64 0, .slice none 0 0] 26))
  obtain ⟨bT, heqT⟩ : ∃ b, b = w8.heap.size := ⟨_, rfl⟩
  go_wp2_with fail
  clear cp0 cp1 cp2 cF0 cF1 cF2 hlp hlF
  generalize w8.alloc (.cells #[.int .i64 0, .int .i64 0, .slice none 0 0] 26) = w9 at *
  rw [← heqT] at HA ⊢
  obtain ⟨hsA, kT, hbA⟩ := unhide HA
  rw [heqT] at hbA
  have ltTp : B < bT := by rw [heqT]; exact blk_lt kp
  have ltTF : bF < bT := by rw [heqT]; exact blk_lt kF
  have hgB : B ≤ bT := by rw [heqT]; omega
  clear HA
  have hsz := hbA.size
  have kp := blk_below kp hbA (blk_lt kp)
  have kF := blk_below kF hbA (blk_lt kF)
  have HXp := hide ((unhide HXp).below hbA)
  have HSe := hide ((unhide HSe).below hbA)
  have HB := hide ((unhide HB).trans (hbA.mono (by omega)))
  have hs : B + 1 ≤ w9.heap.size := by omega
  clear hbA hsz
  clear heqT hsA
  refine (unhide HO w9 (unhide HXp)).mono ?_
  rintro e w10 ⟨a2, c2, rfl, hpx, hbN⟩
  have hsz := hbN.size
  have kp := blk_below kp hbN (blk_lt kp)
  have kF := blk_below kF hbN (blk_lt kF)
  have kT := blk_below kT hbN (blk_lt kT)
  have HXp := hide ((unhide HXp).below hbN)
  have HSe := hide ((unhide HSe).below hbN)
  have HB := hide ((unhide HB).trans (hbN.mono (by omega)))
  have hs : B + 1 ≤ w10.heap.size := by omega
  clear hbN hsz
  have HX2 := hide hpx
  clear hpx
  have hlp : B < w10.heap.size := blk_lt kp
  have cp0 : w10.cell? ⟨B, 0, none⟩ = some (.int .i64 W) := blk_cell kp 0
  have cp1 : w10.cell? ⟨B, 1, none⟩ = some (.int .i64 H) := blk_cell kp 1
  have cp2 : w10.cell? ⟨B, 2, none⟩ = some (.slice a n c) := blk_cell kp 2
  have hlF : bF < w10.heap.size := blk_lt kF
  have cF0 : w10.cell? ⟨bF, 0, none⟩ = some (.int .i64 0) := blk_cell kF 0
  have cF1 : w10.cell? ⟨bF, 1, none⟩ = some (.int .i64 0) := blk_cell kF 1
  have cF2 : w10.cell? ⟨bF, 2, none⟩ = some (.slice none 0 0) := blk_cell kF 2
  have hlT : bT < w10.heap.size := blk_lt kT
  have cT0 : w10.cell? ⟨bT, 0, none⟩ = some (.int .i64 0) := blk_cell kT 0
  have cT1 : w10.cell? ⟨bT, 1, none⟩ = some (.int .i64 0) := blk_cell kT 1
  have cT2 : w10.cell? ⟨bT, 2, none⟩ = some (.slice none 0 0) := blk_cell kT 2
  go_wp2_with fail
  clear cp0 cp1 cp2 cF0 cF1 cF2 cT0 cT1 cT2 hlp hlF hlT
  refine (unhide HH w10 _ _ (unhide HSe)).mono ?_
  rintro e w11 ⟨rfl, hbN⟩
  have hsz := hbN.size
  have kp := blk_below kp hbN (blk_lt kp)
  have kF := blk_below kF hbN (blk_lt kF)
  have kT := blk_below kT hbN (blk_lt kT)
  have HXp := hide ((unhide HXp).below hbN)
  have HX2 := hide ((unhide HX2).below hbN)
  have HSe := hide ((unhide HSe).below hbN)
  have HB := hide ((unhide HB).trans (hbN.mono (by omega)))
  have hs : B + 1 ≤ w11.heap.size := by omega
  clear hbN hsz
  clear HX2
  have hlp : B < w11.heap.size := blk_lt kp
  have cp0 : w11.cell? ⟨B, 0, none⟩ = some (.int .i64 W) := blk_cell kp 0
  have cp1 : w11.cell? ⟨B, 1, none⟩ = some (.int .i64 H) := blk_cell kp 1
  have cp2 : w11.cell? ⟨B, 2, none⟩ = some (.slice a n c) := blk_cell kp 2
  have hlF : bF < w11.heap.size := blk_lt kF
  have cF0 : w11.cell? ⟨bF, 0, none⟩ = some (.int .i64 0) := blk_cell kF 0
  have cF1 : w11.cell? ⟨bF, 1, none⟩ = some (.int .i64 0) := blk_cell kF 1
  have cF2 : w11.cell? ⟨bF, 2, none⟩ = some (.slice none 0 0) := blk_cell kF 2
  have hlT : bT < w11.heap.size := blk_lt kT
  have cT0 : w11.cell? ⟨bT, 0, none⟩ = some (.int .i64 0) := blk_cell kT 0
  have cT1 : w11.cell? ⟨bT, 1, none⟩ = some (.int .i64 0) := blk_cell kT 1
  have cT2 : w11.cell? ⟨bT, 2, none⟩ = some (.slice none 0 0) := blk_cell kT 2
  have HA := hide (al1 w11 (.cells #[.int .i64 0, .int .i64 0, .slice none 0 0] 26))
  obtain ⟨bG, heqG⟩ : ∃ b, b = w11.heap.size := ⟨_, rfl⟩
  go_wp2_with fail
  clear cp0 cp1 cp2 cF0 cF1 cF2 cT0 cT1 cT2 hlp hlF hlT
  generalize w11.alloc (.cells #[.int .i64 0, .int .i64 0, .slice none 0 0] 26) = w12 at *
  rw [← heqG] at HA ⊢
  obtain ⟨hsA, kG, hbA⟩ := unhide HA
  rw [heqG] at hbA
  have ltGp : B < bG := by rw [heqG]; exact blk_lt kp
  have ltGF : bF < bG := by rw [heqG]; exact blk_lt kF
  have ltGT : bT < bG := by rw [heqG]; exact blk_lt kT
  have hgB : B ≤ bG := by rw [heqG]; omega
  clear HA
  have hsz := hbA.size
  have kp := blk_below kp hbA (blk_lt kp)
  have kF := blk_below kF hbA (blk_lt kF)
  have kT := blk_below kT hbA (blk_lt kT)
  have HXp := hide ((unhide HXp).below hbA)
  have HSe := hide ((unhide HSe).below hbA)
  have HB := hide ((unhide HB).trans (hbA.mono (by omega)))
  have hs : B + 1 ≤ w12.heap.size := by omega
  clear hbA hsz
  clear heqG hsA
  refine (unhide HO w12 (unhide HXp)).mono ?_
  rintro e w13 ⟨a3, c3, rfl, hpx, hbN⟩
  have hsz := hbN.size
  have kp := blk_below kp hbN (blk_lt kp)
  have kF := blk_below kF hbN (blk_lt kF)
  have kT := blk_below kT hbN (blk_lt kT)
  have kG := blk_below kG hbN (blk_lt kG)
  have HXp := hide ((unhide HXp).below hbN)
  have HSe := hide ((unhide HSe).below hbN)
  have HB := hide ((unhide HB).trans (hbN.mono (by omega)))
  have hs : B + 1 ≤ w13.heap.size := by omega
  clear hbN hsz
  have HX3 := hide hpx
  clear hpx
  have hlp : B < w13.heap.size := blk_lt kp
  have cp0 : w13.cell? ⟨B, 0, none⟩ = some (.int .i64 W) := blk_cell kp 0
  have cp1 : w13.cell? ⟨B, 1, none⟩ = some (.int .i64 H) := blk_cell kp 1
  have cp2 : w13.cell? ⟨B, 2, none⟩ = some (.slice a n c) := blk_cell kp 2
  have hlF : bF < w13.heap.size := blk_lt kF
  have cF0 : w13.cell? ⟨bF, 0, none⟩ = some (.int .i64 0) := blk_cell kF 0
  have cF1 : w13.cell? ⟨bF, 1, none⟩ = some (.int .i64 0) := blk_cell kF 1
  have cF2 : w13.cell? ⟨bF, 2, none⟩ = some (.slice none 0 0) := blk_cell kF 2
  have hlT : bT < w13.heap.size := blk_lt kT
  have cT0 : w13.cell? ⟨bT, 0, none⟩ = some (.int .i64 0) := blk_cell kT 0
  have cT1 : w13.cell? ⟨bT, 1, none⟩ = some (.int .i64 0) := blk_cell kT 1
  have cT2 : w13.cell? ⟨bT, 2, none⟩ = some (.slice none 0 0) := blk_cell kT 2
  have hlG : bG < w13.heap.size := blk_lt kG
  have cG0 : w13.cell? ⟨bG, 0, none⟩ = some (.int .i64 0) := blk_cell kG 0
  have cG1 : w13.cell? ⟨bG, 1, none⟩ = some (.int .i64 0) := blk_cell kG 1
  have cG2 : w13.cell? ⟨bG, 2, none⟩ = some (.slice none 0 0) := blk_cell kG 2
  go_wp2_with fail
  clear cp0 cp1 cp2 cF0 cF1 cF2 cT0 cT1 cT2 cG0 cG1 cG2 hlp hlF hlT hlG
  refine (unhide HSc w13 _ _ (unhide HSe)).mono ?_
  rintro e w14 ⟨rfl, hbN⟩
  have hsz := hbN.size
  have kp := blk_below kp hbN (blk_lt kp)
  have kF := blk_below kF hbN (blk_lt kF)
  have kT := blk_below kT hbN (blk_lt kT)
  have kG := blk_below kG hbN (blk_lt kG)
  have HXp := hide ((unhide HXp).below hbN)
  have HX3 := hide ((unhide HX3).below hbN)
  have HSe := hide ((unhide HSe).below hbN)
  have HB := hide ((unhide HB).trans (hbN.mono (by omega)))
  have hs : B + 1 ≤ w14.heap.size := by omega
  clear hbN hsz
  clear HX3
  have hlp : B < w14.heap.size := blk_lt kp
  have cp0 : w14.cell? ⟨B, 0, none⟩ = some (.int .i64 W) := blk_cell kp 0
  have cp1 : w14.cell? ⟨B, 1, none⟩ = some (.int .i64 H) := blk_cell kp 1
  have cp2 : w14.cell? ⟨B, 2, none⟩ = some (.slice a n c) := blk_cell kp 2
  have hlF : bF < w14.heap.size := blk_lt kF
  have cF0 : w14.cell? ⟨bF, 0, none⟩ = some (.int .i64 0) := blk_cell kF 0
  have cF1 : w14.cell? ⟨bF, 1, none⟩ = some (.int .i64 0) := blk_cell kF 1
  have cF2 : w14.cell? ⟨bF, 2, none⟩ = some (.slice none 0 0) := blk_cell kF 2
  have hlT : bT < w14.heap.size := blk_lt kT
  have cT0 : w14.cell? ⟨bT, 0, none⟩ = some (.int .i64 0) := blk_cell kT 0
  have cT1 : w14.cell? ⟨bT, 1, none⟩ = some (.int .i64 0) := blk_cell kT 1
  have cT2 : w14.cell? ⟨bT, 2, none⟩ = some (.slice none 0 0) := blk_cell kT 2
  have hlG : bG < w14.heap.size := blk_lt kG
  have cG0 : w14.cell? ⟨bG, 0, none⟩ = some (.int .i64 0) := blk_cell kG 0
  have cG1 : w14.cell? ⟨bG, 1, none⟩ = some (.int .i64 0) := blk_cell kG 1
  have cG2 : w14.cell? ⟨bG, 2, none⟩ = some (.slice none 0 0) := blk_cell kG 2
  have HA := hide (al1 w14 (.cells #[.int .i64 0, .int .i64 0, .slice none 0 0] 26))
  obtain ⟨bD, heqD⟩ : ∃ b, b = w14.heap.size := ⟨_, rfl⟩
  go_wp2_with fail
  clear cp0 cp1 cp2 cF0 cF1 cF2 cT0 cT1 cT2 cG0 cG1 cG2 hlp hlF hlT hlG
  generalize w14.alloc (.cells #[.int .i64 0, .int .i64 0, .slice none 0 0] 26) = w15 at *
  rw [← heqD] at HA ⊢
  obtain ⟨hsA, kD, hbA⟩ := unhide HA
  rw [heqD] at hbA
  have ltDp : B < bD := by rw [heqD]; exact blk_lt kp
  have ltDF : bF < bD := by rw [heqD]; exact blk_lt kF
  have ltDT : bT < bD := by rw [heqD]; exact blk_lt kT
  have ltDG : bG < bD := by rw [heqD]; exact blk_lt kG
  have hgB : B ≤ bD := by rw [heqD]; omega
  clear HA
  have hsz := hbA.size
  have kp := blk_below kp hbA (blk_lt kp)
  have kF := blk_below kF hbA (blk_lt kF)
  have kT := blk_below kT hbA (blk_lt kT)
  have kG := blk_below kG hbA (blk_lt kG)
  have HXp := hide ((unhide HXp).below hbA)
  have HSe := hide ((unhide HSe).below hbA)
  have HB := hide ((unhide HB).trans (hbA.mono (by omega)))
  have hs : B + 1 ≤ w15.heap.size := by omega
  clear hbA hsz
  clear heqD hsA
  refine (unhide HRT _).mono ?_
  rintro e w16 ⟨rfl, hbN⟩
  have hsz := hbN.size
  have kp := blk_below kp hbN (blk_lt kp)
  have kF := blk_below kF hbN (blk_lt kF)
  have kT := blk_below kT hbN (blk_lt kT)
  have kG := blk_below kG hbN (blk_lt kG)
  have kD := blk_below kD hbN (blk_lt kD)
  have HXp := hide ((unhide HXp).below hbN)
  have HSe := hide ((unhide HSe).below hbN)
  have HB := hide ((unhide HB).trans (hbN.mono (by omega)))
  have hs : B + 1 ≤ w16.heap.size := by omega
  clear hbN hsz
  have hlp : B < w16.heap.size := blk_lt kp
  have cp0 : w16.cell? ⟨B, 0, none⟩ = some (.int .i64 W) := blk_cell kp 0
  have cp1 : w16.cell? ⟨B, 1, none⟩ = some (.int .i64 H) := blk_cell kp 1
  have cp2 : w16.cell? ⟨B, 2, none⟩ = some (.slice a n c) := blk_cell kp 2
  have hlF : bF < w16.heap.size := blk_lt kF
  have cF0 : w16.cell? ⟨bF, 0, none⟩ = some (.int .i64 0) := blk_cell kF 0
  have cF1 : w16.cell? ⟨bF, 1, none⟩ = some (.int .i64 0) := blk_cell kF 1
  have cF2 : w16.cell? ⟨bF, 2, none⟩ = some (.slice none 0 0) := blk_cell kF 2
  have hlT : bT < w16.heap.size := blk_lt kT
  have cT0 : w16.cell? ⟨bT, 0, none⟩ = some (.int .i64 0) := blk_cell kT 0
  have cT1 : w16.cell? ⟨bT, 1, none⟩ = some (.int .i64 0) := blk_cell kT 1
  have cT2 : w16.cell? ⟨bT, 2, none⟩ = some (.slice none 0 0) := blk_cell kT 2
  have hlG : bG < w16.heap.size := blk_lt kG
  have cG0 : w16.cell? ⟨bG, 0, none⟩ = some (.int .i64 0) := blk_cell kG 0
  have cG1 : w16.cell? ⟨bG, 1, none⟩ = some (.int .i64 0) := blk_cell kG 1
  have cG2 : w16.cell? ⟨bG, 2, none⟩ = some (.slice none 0 0) := blk_cell kG 2
  have hlD : bD < w16.heap.size := blk_lt kD
  have cD0 : w16.cell? ⟨bD, 0, none⟩ = some (.int .i64 0) := blk_cell kD 0
  have cD1 : w16.cell? ⟨bD, 1, none⟩ = some (.int .i64 0) := blk_cell kD 1
  have cD2 : w16.cell? ⟨bD, 2, none⟩ = some (.slice none 0 0) := blk_cell kD 2
  go_wp2_with fail
  clear cp0 cp1 cp2 cF0 cF1 cF2 cT0 cT1 cT2 cG0 cG1 cG2 cD0 cD1 cD2 hlp hlF hlT hlG hlD
  refine (unhide HTe w16 (unhide HSe)).mono ?_
  rintro e w17 ⟨rfl, hbN⟩
  have hsz := hbN.size
  have kp := blk_below kp hbN (blk_lt kp)
  have kF := blk_below kF hbN (blk_lt kF)
  have kT := blk_below kT hbN (blk_lt kT)
  have kG := blk_below kG hbN (blk_lt kG)
  have kD := blk_below kD hbN (blk_lt kD)
  have HXp := hide ((unhide HXp).below hbN)
  have HSe := hide ((unhide HSe).below hbN)
  have HB := hide ((unhide HB).trans (hbN.mono (by omega)))
  have hs : B + 1 ≤ w17.heap.size := by omega
  clear hbN hsz
  have hlp : B < w17.heap.size := blk_lt kp
  have cp0 : w17.cell? ⟨B, 0, none⟩ = some (.int .i64 W) := blk_cell kp 0
  have cp1 : w17.cell? ⟨B, 1, none⟩ = some (.int .i64 H) := blk_cell kp 1
  have cp2 : w17.cell? ⟨B, 2, none⟩ = some (.slice a n c) := blk_cell kp 2
  have hlF : bF < w17.heap.size := blk_lt kF
  have cF0 : w17.cell? ⟨bF, 0, none⟩ = some (.int .i64 0) := blk_cell kF 0
  have cF1 : w17.cell? ⟨bF, 1, none⟩ = some (.int .i64 0) := blk_cell kF 1
  have cF2 : w17.cell? ⟨bF, 2, none⟩ = some (.slice none 0 0) := blk_cell kF 2
  have hlT : bT < w17.heap.size := blk_lt kT
  have cT0 : w17.cell? ⟨bT, 0, none⟩ = some (.int .i64 0) := blk_cell kT 0
  have cT1 : w17.cell? ⟨bT, 1, none⟩ = some (.int .i64 0) := blk_cell kT 1
  have cT2 : w17.cell? ⟨bT, 2, none⟩ = some (.slice none 0 0) := blk_cell kT 2
  have hlG : bG < w17.heap.size := blk_lt kG
  have cG0 : w17.cell? ⟨bG, 0, none⟩ = some (.int .i64 0) := blk_cell kG 0
  have cG1 : w17.cell? ⟨bG, 1, none⟩ = some (.int .i64 0) := blk_cell kG 1
  have cG2 : w17.cell? ⟨bG, 2, none⟩ = some (.slice none 0 0) := blk_cell kG 2
  have hlD : bD < w17.heap.size := blk_lt kD
  have cD0 : w17.cell? ⟨bD, 0, none⟩ = some (.int .i64 0) := blk_cell kD 0
  have cD1 : w17.cell? ⟨bD, 1, none⟩ = some (.int .i64 0) := blk_cell kD 1
  have cD2 : w17.cell? ⟨bD, 2, none⟩ = some (.slice none 0 0) := blk_cell kD 2
  go_wp2_with fail
  clear cp0 cp1 cp2 cF0 cF1 cF2 cT0 cT1 cT2 cG0 cG1 cG2 cD0 cD1 cD2 hlp hlF hlT hlG hlD
  refine (unhide HTe w17 (unhide HSe)).mono ?_
  rintro e w18 ⟨rfl, hbN⟩
  have hsz := hbN.size
  have kp := blk_below kp hbN (blk_lt kp)
  have kF := blk_below kF hbN (blk_lt kF)
  have kT := blk_below kT hbN (blk_lt kT)
  have kG := blk_below kG hbN (blk_lt kG)
  have kD := blk_below kD hbN (blk_lt kD)
  have HXp := hide ((unhide HXp).below hbN)
  have HSe := hide ((unhide HSe).below hbN)
  have HB := hide ((unhide HB).trans (hbN.mono (by omega)))
  have hs : B + 1 ≤ w18.heap.size := by omega
  clear hbN hsz
  have hlp : B < w18.heap.size := blk_lt kp
  have cp0 : w18.cell? ⟨B, 0, none⟩ = some (.int .i64 W) := blk_cell kp 0
  have cp1 : w18.cell? ⟨B, 1, none⟩ = some (.int .i64 H) := blk_cell kp 1
  have cp2 : w18.cell? ⟨B, 2, none⟩ = some (.slice a n c) := blk_cell kp 2
  have hlF : bF < w18.heap.size := blk_lt kF
  have cF0 : w18.cell? ⟨bF, 0, none⟩ = some (.int .i64 0) := blk_cell kF 0
  have cF1 : w18.cell? ⟨bF, 1, none⟩ = some (.int .i64 0) := blk_cell kF 1
  have cF2 : w18.cell? ⟨bF, 2, none⟩ = some (.slice none 0 0) := blk_cell kF 2
  have hlT : bT < w18.heap.size := blk_lt kT
  have cT0 : w18.cell? ⟨bT, 0, none⟩ = some (.int .i64 0) := blk_cell kT 0
  have cT1 : w18.cell? ⟨bT, 1, none⟩ = some (.int .i64 0) := blk_cell kT 1
  have cT2 : w18.cell? ⟨bT, 2, none⟩ = some (.slice none 0 0) := blk_cell kT 2
  have hlG : bG < w18.heap.size := blk_lt kG
  have cG0 : w18.cell? ⟨bG, 0, none⟩ = some (.int .i64 0) := blk_cell kG 0
  have cG1 : w18.cell? ⟨bG, 1, none⟩ = some (.int .i64 0) := blk_cell kG 1
  have cG2 : w18.cell? ⟨bG, 2, none⟩ = some (.slice none 0 0) := blk_cell kG 2
  have hlD : bD < w18.heap.size := blk_lt kD
  have cD0 : w18.cell? ⟨bD, 0, none⟩ = some (.int .i64 0) := blk_cell kD 0
  have cD1 : w18.cell? ⟨bD, 1, none⟩ = some (.int .i64 0) := blk_cell kD 1
  have cD2 : w18.cell? ⟨bD, 2, none⟩ = some (.slice none 0 0) := blk_cell kD 2
  go_wp2_with fail
  clear cp0 cp1 cp2 cF0 cF1 cF2 cT0 cT1 cT2 cG0 cG1 cG2 cD0 cD1 cD2 hlp hlF hlT hlG hlD
  refine (unhide HTe w18 (unhide HSe)).mono ?_
  rintro e w19 ⟨rfl, hbN⟩
  have hsz := hbN.size
  have kp := blk_below kp hbN (blk_lt kp)
  have kF := blk_below kF hbN (blk_lt kF)
  have kT := blk_below kT hbN (blk_lt kT)
  have kG := blk_below kG hbN (blk_lt kG)
  have kD := blk_below kD hbN (blk_lt kD)
  have HXp := hide ((unhide HXp).below hbN)
  have HSe := hide ((unhide HSe).below hbN)
  have HB := hide ((unhide HB).trans (hbN.mono (by omega)))
  have hs : B + 1 ≤ w19.heap.size := by omega
  clear hbN hsz
  have hlp : B < w19.heap.size := blk_lt kp
  have cp0 : w19.cell? ⟨B, 0, none⟩ = some (.int .i64 W) := blk_cell kp 0
  have cp1 : w19.cell? ⟨B, 1, none⟩ = some (.int .i64 H) := blk_cell kp 1
  have cp2 : w19.cell? ⟨B, 2, none⟩ = some (.slice a n c) := blk_cell kp 2
  have hlF : bF < w19.heap.size := blk_lt kF
  have cF0 : w19.cell? ⟨bF, 0, none⟩ = some (.int .i64 0) := blk_cell kF 0
  have cF1 : w19.cell? ⟨bF, 1, none⟩ = some (.int .i64 0) := blk_cell kF 1
  have cF2 : w19.cell? ⟨bF, 2, none⟩ = some (.slice none 0 0) := blk_cell kF 2
  have hlT : bT < w19.heap.size := blk_lt kT
  have cT0 : w19.cell? ⟨bT, 0, none⟩ = some (.int .i64 0) := blk_cell kT 0
  have cT1 : w19.cell? ⟨bT, 1, none⟩ = some (.int .i64 0) := blk_cell kT 1
  have cT2 : w19.cell? ⟨bT, 2, none⟩ = some (.slice none 0 0) := blk_cell kT 2
  have hlG : bG < w19.heap.size := blk_lt kG
  have cG0 : w19.cell? ⟨bG, 0, none⟩ = some (.int .i64 0) := blk_cell kG 0
  have cG1 : w19.cell? ⟨bG, 1, none⟩ = some (.int .i64 0) := blk_cell kG 1
  have cG2 : w19.cell? ⟨bG, 2, none⟩ = some (.slice none 0 0) := blk_cell kG 2
  have hlD : bD < w19.heap.size := blk_lt kD
  have cD0 : w19.cell? ⟨bD, 0, none⟩ = some (.int .i64 0) := blk_cell kD 0
  have cD1 : w19.cell? ⟨bD, 1, none⟩ = some (.int .i64 0) := blk_cell kD 1
  have cD2 : w19.cell? ⟨bD, 2, none⟩ = some (.slice none 0 0) := blk_cell kD 2
  go_wp2_with fail
  clear cp0 cp1 cp2 cF0 cF1 cF2 cT0 cT1 cT2 cG0 cG1 cG2 cD0 cD1 cD2 hlp hlF hlT hlG hlD
  refine (unhide HTe w19 (unhide HSe)).mono ?_
  rintro e w20 ⟨rfl, hbN⟩
  have hsz := hbN.size
  have kp := blk_below kp hbN (blk_lt kp)
  have kF := blk_below kF hbN (blk_lt kF)
  have kT := blk_below kT hbN (blk_lt kT)
  have kG := blk_below kG hbN (blk_lt kG)
  have kD := blk_below kD hbN (blk_lt kD)
  have HXp := hide ((unhide HXp).below hbN)
  have HSe := hide ((unhide HSe).below hbN)
  have HB := hide ((unhide HB).trans (hbN.mono (by omega)))
  have hs : B + 1 ≤ w20.heap.size := by omega
  clear hbN hsz
  have hlp : B < w20.heap.size := blk_lt kp
  have cp0 : w20.cell? ⟨B, 0, none⟩ = some (.int .i64 W) := blk_cell kp 0
  have cp1 : w20.cell? ⟨B, 1, none⟩ = some (.int .i64 H) := blk_cell kp 1
  have cp2 : w20.cell? ⟨B, 2, none⟩ = some (.slice a n c) := blk_cell kp 2
  have hlF : bF < w20.heap.size := blk_lt kF
  have cF0 : w20.cell? ⟨bF, 0, none⟩ = some (.int .i64 0) := blk_cell kF 0
  have cF1 : w20.cell? ⟨bF, 1, none⟩ = some (.int .i64 0) := blk_cell kF 1
  have cF2 : w20.cell? ⟨bF, 2, none⟩ = some (.slice none 0 0) := blk_cell kF 2
  have hlT : bT < w20.heap.size := blk_lt kT
  have cT0 : w20.cell? ⟨bT, 0, none⟩ = some (.int .i64 0) := blk_cell kT 0
  have cT1 : w20.cell? ⟨bT, 1, none⟩ = some (.int .i64 0) := blk_cell kT 1
  have cT2 : w20.cell? ⟨bT, 2, none⟩ = some (.slice none 0 0) := blk_cell kT 2
  have hlG : bG < w20.heap.size := blk_lt kG
  have cG0 : w20.cell? ⟨bG, 0, none⟩ = some (.int .i64 0) := blk_cell kG 0
  have cG1 : w20.cell? ⟨bG, 1, none⟩ = some (.int .i64 0) := blk_cell kG 1
  have cG2 : w20.cell? ⟨bG, 2, none⟩ = some (.slice none 0 0) := blk_cell kG 2
  have hlD : bD < w20.heap.size := blk_lt kD
  have cD0 : w20.cell? ⟨bD, 0, none⟩ = some (.int .i64 0) := blk_cell kD 0
  have cD1 : w20.cell? ⟨bD, 1, none⟩ = some (.int .i64 0) := blk_cell kD 1
  have cD2 : w20.cell? ⟨bD, 2, none⟩ = some (.slice none 0 0) := blk_cell kD 2
  go_wp2
  clear cp0 cp1 cp2 cF0 cF1 cF2 cT0 cT1 cT2 cG0 cG1 cG2 cD0 cD1 cD2 hlp hlF hlT hlG hlD
  go_ret
  exact ⟨rfl, by rw [← unhide HBE]; exact unhide HB⟩
set_option maxHeartbeats 4000000 in
set_option maxRecDepth 100000 in
theorem rasterTurns_bad1 (W H : Nat) (a : Option Addr) (n c : Nat) (p : Nat → Px) (d : Bool) (z : Int) (u v : Int) (w : World) (A : Nat → Addr) (hS : Sent w A) (hP : IsPx w a n p) (hn3 : n ≤ 3000) (hW0 : 1 ≤ W) (hW : W ≤ 256) (hH0 : 1 ≤ H) (hH : H ≤ 256) (hn : n = W * H) (hu : ¬ (1 ≤ u ∧ u ≤ 256)) :
    Calls Tryd.prog 6 #[.agg #[.int .i64 (W : Int), .int .i64 (H : Int), .slice a n c], .bool d, .int .i64 z, .int .i64 u, .int .i64 v] w fun e w' => e = .returned (.bool true) ∧ Below w.heap.size w w' := by
  have HPL := hide plainly_any
  have HSM := hide (fun w => small_any (W : Int) (H : Int) a n c w)
  rw [decide_eq_true hn3] at HSM
  have HX := hide hP
  have HS0 := hide hS
  have HRT := hide (fun w => pright_any (W : Int) (H : Int) a n c w)
  have HO := hide (fun w (h : IsPx w a n p) => own_isPx (W : Int) (H : Int) a n c p w h (by omega))
  rw [decide_eq_true (rightN hW0 hW hH0 hH hn)] at HRT
  subst hn
  obtain ⟨k, hk⟩ : ∃ k : Nat, z % 4 = (k : Int) := Int.eq_ofNat_of_zero_le (by omega)
  obtain ⟨W2, hW2⟩ : ∃ m, m = (W + 1) / 2 := ⟨_, rfl⟩
  obtain ⟨H2, hH2⟩ : ∃ m, m = (H + 1) / 2 := ⟨_, rfl⟩
  have hM3 : W * H ≤ 100000 := by omega
  have hM4 : W2 * H2 ≤ 100000 := Nat.le_trans (Nat.mul_le_mul (show W2 ≤ 256 by omega) (show H2 ≤ 256 by omega)) (by omega)
  have HF := hide (fun w a c (h : IsPx w a (W * H) p) => flip_any d W H a (W * H) c p w hW0 hW hH0 hH rfl h)
  have HFO := hide (fun w (h : IsPx w a (W * H) p) => flipOf_any d W H a (W * H) c p w hW0 hW hH0 hH rfl h)
  have HTk := hide (fun w a c (h : IsPx w a (W * H) p) => turn_any W H a (W * H) c z k p w hW0 hW hH0 hH rfl h hk)
  rw [turn_area k W H] at HTk
  have HH := hide (fun w a c (h : IsPx w a (W * H) p) => half_ok W H a (W * H) c W2 H2 p w hW0 hW hH0 hH rfl h hW2 hH2)
  have HHO := hide (fun w (h : IsPx w a (W * H) p) => halfOf_any W H a (W * H) c p W2 H2 w hW hH rfl h hW2 hH2)
  have HST := hide (fun (s : Nat) (hs : s < 4) w a c (h : IsPx w a (W * H) (tP s W H p)) => turnOf_step s W H a c p w hs hW0 hW hH0 hH h)
  have HNOT := hide (turned_not W H p hW0)
  have HT1 := hide (fun w a b c e (h1 : IsPx w a (W * H) (fP d W H p)) (h2 : IsPx w b (W * H) (fP d W H p)) => told_ok W H a b (W * H) c e _ w h1 h2 hM3)
  have HT2 := hide (fun w a b c e (h1 : IsPx w a (W * H) (tP k W H p)) (h2 : IsPx w b (W * H) (tP k W H p)) => told_ok (tW k W H) (tW k H W) a b (W * H) c e _ w h1 h2 hM3)
  have HT3 := hide (fun w a b c e (h1 : IsPx w a (W2 * H2) (grid W2 fun x y => halfG W H p x y)) (h2 : IsPx w b (W2 * H2) (grid W2 fun x y => halfG W H p x y)) => told_ok W2 H2 a b (W2 * H2) c e _ w h1 h2 hM4)
  have HU := hide (fun w => side_any u w)
  have HV := hide (fun w => side_any v w)
  have HSc := hide (fun w a c (h : Sent w A) => scale_bound W H a (W * H) c u v w _ _ (h.cell 1 (by omega)) hW0 hW hH0 hH rfl (fun k => hu k.1))
  have HTe := hide (fun w (h : Sent w A) => told_err 1 2 W H a (W * H) c w A h (by omega) rfl)
  rw [decide_eq_false hu] at HU
  obtain ⟨M, hM⟩ : ∃ M, M = W * H := ⟨_, rfl⟩
  obtain ⟨M2, hM2⟩ : ∃ M, M = W2 * H2 := ⟨_, rfl⟩
  rw [← hM] at HX HSM HRT HO HF HFO HTk HH HHO HST HT1 HT2 hM3 HNOT HSc ⊢
  rw [← hM2] at HH HHO HT3 hM4
  rw [← hM] at HTe
  obtain ⟨k0, hk0⟩ : ∃ k0, k0 = z.tmod 4 := ⟨_, rfl⟩
  have zk0 : z.tmod 4 = k0 := hk0.symm
  obtain ⟨b1, b2, b3⟩ := tmod4 z
  rw [zk0] at b1 b2 b3
  have wk0 : IntKind.i64.wrap k0 = k0 := by rw [IntKind.wrap_i64]; omega
  have HB3 := hide b3
  have HK := hide hk
  clear hM hM2 hk0 b3 hk hW2 hH2 hP hS hn3 hW0 hW hH0 hH hu
  have HA := hide (al1 w (.cells #[.int .i64 (W : Int), .int .i64 (H : Int), .slice a M c] 26))
  obtain ⟨B, hB⟩ : ∃ B, B = w.heap.size := ⟨_, rfl⟩
  go_enter Tryd.func6, Tryd.ntmps6
  go_wp2_with fail
  generalize (w.alloc (.cells #[.int .i64 (W : Int), .int .i64 (H : Int), .slice a M c] 26)) = w1 at *
  rw [← hB] at HA ⊢
  obtain ⟨hs1, kp, hb1⟩ := unhide HA
  have HBE := hide hB
  clear HA hB
  have hs : B + 1 ≤ w1.heap.size := by omega
  have HB := hide hb1
  clear hs1 hb1
  have HXp := hide ((unhide HX).under (unhide HB) (fun x hx h0 => by rw [unhide HBE]; exact (unhide HX).lt x hx h0))
  have HSe := hide ((unhide HS0).below (by rw [← unhide HBE]; exact unhide HB))
  clear HX
  have HS0w := HS0
  clear HS0
  refine (unhide HPL _).mono ?_
  rintro e w2 ⟨rfl, hbN⟩
  have hsz := hbN.size
  have kp := blk_below kp hbN (blk_lt kp)
  have HXp := hide ((unhide HXp).below hbN)
  have HSe := hide ((unhide HSe).below hbN)
  have HB := hide ((unhide HB).trans (hbN.mono (by omega)))
  have hs : B + 1 ≤ w2.heap.size := by omega
  clear hbN hsz
  have hlp : B < w2.heap.size := blk_lt kp
  have cp0 : w2.cell? ⟨B, 0, none⟩ = some (.int .i64 (W : Int)) := blk_cell kp 0
  have cp1 : w2.cell? ⟨B, 1, none⟩ = some (.int .i64 (H : Int)) := blk_cell kp 1
  have cp2 : w2.cell? ⟨B, 2, none⟩ = some (.slice a M c) := blk_cell kp 2
  go_wp2_with fail
  clear cp0 cp1 cp2 hlp
  refine (unhide HSM _).mono ?_
  rintro e w3 ⟨rfl, hbN⟩
  have hsz := hbN.size
  have kp := blk_below kp hbN (blk_lt kp)
  have HXp := hide ((unhide HXp).below hbN)
  have HSe := hide ((unhide HSe).below hbN)
  have HB := hide ((unhide HB).trans (hbN.mono (by omega)))
  have hs : B + 1 ≤ w3.heap.size := by omega
  clear hbN hsz
  have hlp : B < w3.heap.size := blk_lt kp
  have cp0 : w3.cell? ⟨B, 0, none⟩ = some (.int .i64 (W : Int)) := blk_cell kp 0
  have cp1 : w3.cell? ⟨B, 1, none⟩ = some (.int .i64 (H : Int)) := blk_cell kp 1
  have cp2 : w3.cell? ⟨B, 2, none⟩ = some (.slice a M c) := blk_cell kp 2
  go_wp2_with fail
  clear cp0 cp1 cp2 hlp
  refine (unhide HO w3 (unhide HXp)).mono ?_
  rintro e w4 ⟨o1, e1, rfl, hpx, hbN⟩
  have hsz := hbN.size
  have kp := blk_below kp hbN (blk_lt kp)
  have HXp := hide ((unhide HXp).below hbN)
  have HSe := hide ((unhide HSe).below hbN)
  have HB := hide ((unhide HB).trans (hbN.mono (by omega)))
  have hs : B + 1 ≤ w4.heap.size := by omega
  clear hbN hsz
  have HXo := hide hpx
  clear hpx
  have hlp : B < w4.heap.size := blk_lt kp
  have cp0 : w4.cell? ⟨B, 0, none⟩ = some (.int .i64 (W : Int)) := blk_cell kp 0
  have cp1 : w4.cell? ⟨B, 1, none⟩ = some (.int .i64 (H : Int)) := blk_cell kp 1
  have cp2 : w4.cell? ⟨B, 2, none⟩ = some (.slice a M c) := blk_cell kp 2
  go_wp2_with fail
  clear cp0 cp1 cp2 hlp
  refine (unhide HF w4 _ _ (unhide HXo)).mono ?_
  rintro e w5 ⟨a1, c1, rfl, hpx, hbN⟩
  have hsz := hbN.size
  have kp := blk_below kp hbN (blk_lt kp)
  have HXp := hide ((unhide HXp).below hbN)
  have HXo := hide ((unhide HXo).below hbN)
  have HSe := hide ((unhide HSe).below hbN)
  have HB := hide ((unhide HB).trans (hbN.mono (by omega)))
  have hs : B + 1 ≤ w5.heap.size := by omega
  clear hbN hsz
  have HXf := hide hpx
  clear hpx
  clear HXo
  have hlp : B < w5.heap.size := blk_lt kp
  have cp0 : w5.cell? ⟨B, 0, none⟩ = some (.int .i64 (W : Int)) := blk_cell kp 0
  have cp1 : w5.cell? ⟨B, 1, none⟩ = some (.int .i64 (H : Int)) := blk_cell kp 1
  have cp2 : w5.cell? ⟨B, 2, none⟩ = some (.slice a M c) := blk_cell kp 2
  have HA := hide (al1 w5 (.cells #[.int .i64 (W : Int), .int .i64 (H : Int), .slice a1 M c1] 26))
  obtain ⟨bF, heqF⟩ : ∃ b, b = w5.heap.size := ⟨_, rfl⟩
  go_wp2_with fail
  clear cp0 cp1 cp2 hlp
  generalize w5.alloc (.cells #[.int .i64 (W : Int), .int .i64 (H : Int), .slice a1 M c1] 26) = w6 at *
  rw [← heqF] at HA ⊢
  obtain ⟨hsA, kF, hbA⟩ := unhide HA
  rw [heqF] at hbA
  have ltFp : B < bF := by rw [heqF]; exact blk_lt kp
  have hgB : B ≤ bF := by rw [heqF]; omega
  clear HA
  have hsz := hbA.size
  have kp := blk_below kp hbA (blk_lt kp)
  have HXp := hide ((unhide HXp).below hbA)
  have HXf := hide ((unhide HXf).below hbA)
  have HSe := hide ((unhide HSe).below hbA)
  have HB := hide ((unhide HB).trans (hbA.mono (by omega)))
  have hs : B + 1 ≤ w6.heap.size := by omega
  clear hbA hsz
  clear heqF hsA
  refine (unhide HO w6 (unhide HXp)).mono ?_
  rintro e w7 ⟨o2, e2, rfl, hpx, hbN⟩
  have hsz := hbN.size
  have kp := blk_below kp hbN (blk_lt kp)
  have kF := blk_below kF hbN (blk_lt kF)
  have HXp := hide ((unhide HXp).below hbN)
  have HXf := hide ((unhide HXf).below hbN)
  have HSe := hide ((unhide HSe).below hbN)
  have HB := hide ((unhide HB).trans (hbN.mono (by omega)))
  have hs : B + 1 ≤ w7.heap.size := by omega
  clear hbN hsz
  have HXo := hide hpx
  clear hpx
  have hlp : B < w7.heap.size := blk_lt kp
  have cp0 : w7.cell? ⟨B, 0, none⟩ = some (.int .i64 (W : Int)) := blk_cell kp 0
  have cp1 : w7.cell? ⟨B, 1, none⟩ = some (.int .i64 (H : Int)) := blk_cell kp 1
  have cp2 : w7.cell? ⟨B, 2, none⟩ = some (.slice a M c) := blk_cell kp 2
  have hlF : bF < w7.heap.size := blk_lt kF
  have cF0 : w7.cell? ⟨bF, 0, none⟩ = some (.int .i64 (W : Int)) := blk_cell kF 0
  have cF1 : w7.cell? ⟨bF, 1, none⟩ = some (.int .i64 (H : Int)) := blk_cell kF 1
  have cF2 : w7.cell? ⟨bF, 2, none⟩ = some (.slice a1 M c1) := blk_cell kF 2
  go_wp2_with fail
  clear cp0 cp1 cp2 cF0 cF1 cF2 hlp hlF
  refine (unhide HTk w7 _ _ (unhide HXo)).mono ?_
  rintro e w8 ⟨a2, c2, rfl, hpx, hbN⟩
  have hsz := hbN.size
  have kp := blk_below kp hbN (blk_lt kp)
  have kF := blk_below kF hbN (blk_lt kF)
  have HXp := hide ((unhide HXp).below hbN)
  have HXf := hide ((unhide HXf).below hbN)
  have HXo := hide ((unhide HXo).below hbN)
  have HSe := hide ((unhide HSe).below hbN)
  have HB := hide ((unhide HB).trans (hbN.mono (by omega)))
  have hs : B + 1 ≤ w8.heap.size := by omega
  clear hbN hsz
  have HXt := hide hpx
  clear hpx
  clear HXo
  have hlp : B < w8.heap.size := blk_lt kp
  have cp0 : w8.cell? ⟨B, 0, none⟩ = some (.int .i64 (W : Int)) := blk_cell kp 0
  have cp1 : w8.cell? ⟨B, 1, none⟩ = some (.int .i64 (H : Int)) := blk_cell kp 1
  have cp2 : w8.cell? ⟨B, 2, none⟩ = some (.slice a M c) := blk_cell kp 2
  have hlF : bF < w8.heap.size := blk_lt kF
  have cF0 : w8.cell? ⟨bF, 0, none⟩ = some (.int .i64 (W : Int)) := blk_cell kF 0
  have cF1 : w8.cell? ⟨bF, 1, none⟩ = some (.int .i64 (H : Int)) := blk_cell kF 1
  have cF2 : w8.cell? ⟨bF, 2, none⟩ = some (.slice a1 M c1) := blk_cell kF 2
  have HA := hide (al1 w8 (.cells #[.int .i64 (tW k W H : Int), .int .i64 (tW k H W : Int), .slice a2 M c2] 26))
  obtain ⟨bQ, heqQ⟩ : ∃ b, b = w8.heap.size := ⟨_, rfl⟩
  go_wp2_with fail
  clear cp0 cp1 cp2 cF0 cF1 cF2 hlp hlF
  generalize w8.alloc (.cells #[.int .i64 (tW k W H : Int), .int .i64 (tW k H W : Int), .slice a2 M c2] 26) = w9 at *
  rw [← heqQ] at HA ⊢
  obtain ⟨hsA, kQ, hbA⟩ := unhide HA
  rw [heqQ] at hbA
  have ltQp : B < bQ := by rw [heqQ]; exact blk_lt kp
  have ltQF : bF < bQ := by rw [heqQ]; exact blk_lt kF
  have hgB : B ≤ bQ := by rw [heqQ]; omega
  clear HA
  have hsz := hbA.size
  have kp := blk_below kp hbA (blk_lt kp)
  have kF := blk_below kF hbA (blk_lt kF)
  have HXp := hide ((unhide HXp).below hbA)
  have HXf := hide ((unhide HXf).below hbA)
  have HXt := hide ((unhide HXt).below hbA)
  have HSe := hide ((unhide HSe).below hbA)
  have HB := hide ((unhide HB).trans (hbA.mono (by omega)))
  have hs : B + 1 ≤ w9.heap.size := by omega
  clear hbA hsz
  clear heqQ hsA
  refine (unhide HO w9 (unhide HXp)).mono ?_
  rintro e w10 ⟨o3, e3, rfl, hpx, hbN⟩
  have hsz := hbN.size
  have kp := blk_below kp hbN (blk_lt kp)
  have kF := blk_below kF hbN (blk_lt kF)
  have kQ := blk_below kQ hbN (blk_lt kQ)
  have HXp := hide ((unhide HXp).below hbN)
  have HXf := hide ((unhide HXf).below hbN)
  have HXt := hide ((unhide HXt).below hbN)
  have HSe := hide ((unhide HSe).below hbN)
  have HB := hide ((unhide HB).trans (hbN.mono (by omega)))
  have hs : B + 1 ≤ w10.heap.size := by omega
  clear hbN hsz
  have HXo := hide hpx
  clear hpx
  have hlp : B < w10.heap.size := blk_lt kp
  have cp0 : w10.cell? ⟨B, 0, none⟩ = some (.int .i64 (W : Int)) := blk_cell kp 0
  have cp1 : w10.cell? ⟨B, 1, none⟩ = some (.int .i64 (H : Int)) := blk_cell kp 1
  have cp2 : w10.cell? ⟨B, 2, none⟩ = some (.slice a M c) := blk_cell kp 2
  have hlF : bF < w10.heap.size := blk_lt kF
  have cF0 : w10.cell? ⟨bF, 0, none⟩ = some (.int .i64 (W : Int)) := blk_cell kF 0
  have cF1 : w10.cell? ⟨bF, 1, none⟩ = some (.int .i64 (H : Int)) := blk_cell kF 1
  have cF2 : w10.cell? ⟨bF, 2, none⟩ = some (.slice a1 M c1) := blk_cell kF 2
  have hlQ : bQ < w10.heap.size := blk_lt kQ
  have cQ0 : w10.cell? ⟨bQ, 0, none⟩ = some (.int .i64 (tW k W H : Int)) := blk_cell kQ 0
  have cQ1 : w10.cell? ⟨bQ, 1, none⟩ = some (.int .i64 (tW k H W : Int)) := blk_cell kQ 1
  have cQ2 : w10.cell? ⟨bQ, 2, none⟩ = some (.slice a2 M c2) := blk_cell kQ 2
  go_wp2_with fail
  clear cp0 cp1 cp2 cF0 cF1 cF2 cQ0 cQ1 cQ2 hlp hlF hlQ
  refine (unhide HH w10 _ _ (unhide HXo)).mono ?_
  rintro e w11 ⟨a3, c3, rfl, hpx, hbN⟩
  have hsz := hbN.size
  have kp := blk_below kp hbN (blk_lt kp)
  have kF := blk_below kF hbN (blk_lt kF)
  have kQ := blk_below kQ hbN (blk_lt kQ)
  have HXp := hide ((unhide HXp).below hbN)
  have HXf := hide ((unhide HXf).below hbN)
  have HXt := hide ((unhide HXt).below hbN)
  have HXo := hide ((unhide HXo).below hbN)
  have HSe := hide ((unhide HSe).below hbN)
  have HB := hide ((unhide HB).trans (hbN.mono (by omega)))
  have hs : B + 1 ≤ w11.heap.size := by omega
  clear hbN hsz
  have HXh := hide hpx
  clear hpx
  clear HXo
  have hlp : B < w11.heap.size := blk_lt kp
  have cp0 : w11.cell? ⟨B, 0, none⟩ = some (.int .i64 (W : Int)) := blk_cell kp 0
  have cp1 : w11.cell? ⟨B, 1, none⟩ = some (.int .i64 (H : Int)) := blk_cell kp 1
  have cp2 : w11.cell? ⟨B, 2, none⟩ = some (.slice a M c) := blk_cell kp 2
  have hlF : bF < w11.heap.size := blk_lt kF
  have cF0 : w11.cell? ⟨bF, 0, none⟩ = some (.int .i64 (W : Int)) := blk_cell kF 0
  have cF1 : w11.cell? ⟨bF, 1, none⟩ = some (.int .i64 (H : Int)) := blk_cell kF 1
  have cF2 : w11.cell? ⟨bF, 2, none⟩ = some (.slice a1 M c1) := blk_cell kF 2
  have hlQ : bQ < w11.heap.size := blk_lt kQ
  have cQ0 : w11.cell? ⟨bQ, 0, none⟩ = some (.int .i64 (tW k W H : Int)) := blk_cell kQ 0
  have cQ1 : w11.cell? ⟨bQ, 1, none⟩ = some (.int .i64 (tW k H W : Int)) := blk_cell kQ 1
  have cQ2 : w11.cell? ⟨bQ, 2, none⟩ = some (.slice a2 M c2) := blk_cell kQ 2
  have HA := hide (al1 w11 (.cells #[.int .i64 (W2 : Int), .int .i64 (H2 : Int), .slice a3 M2 c3] 26))
  obtain ⟨bG, heqG⟩ : ∃ b, b = w11.heap.size := ⟨_, rfl⟩
  go_wp2_with fail
  clear cp0 cp1 cp2 cF0 cF1 cF2 cQ0 cQ1 cQ2 hlp hlF hlQ
  generalize w11.alloc (.cells #[.int .i64 (W2 : Int), .int .i64 (H2 : Int), .slice a3 M2 c3] 26) = w12 at *
  rw [← heqG] at HA ⊢
  obtain ⟨hsA, kG, hbA⟩ := unhide HA
  rw [heqG] at hbA
  have ltGp : B < bG := by rw [heqG]; exact blk_lt kp
  have ltGF : bF < bG := by rw [heqG]; exact blk_lt kF
  have ltGQ : bQ < bG := by rw [heqG]; exact blk_lt kQ
  have hgB : B ≤ bG := by rw [heqG]; omega
  clear HA
  have hsz := hbA.size
  have kp := blk_below kp hbA (blk_lt kp)
  have kF := blk_below kF hbA (blk_lt kF)
  have kQ := blk_below kQ hbA (blk_lt kQ)
  have HXp := hide ((unhide HXp).below hbA)
  have HXf := hide ((unhide HXf).below hbA)
  have HXt := hide ((unhide HXt).below hbA)
  have HXh := hide ((unhide HXh).below hbA)
  have HSe := hide ((unhide HSe).below hbA)
  have HB := hide ((unhide HB).trans (hbA.mono (by omega)))
  have hs : B + 1 ≤ w12.heap.size := by omega
  clear hbA hsz
  clear heqG hsA
  refine (unhide HO w12 (unhide HXp)).mono ?_
  rintro e w13 ⟨o4, e4, rfl, hpx, hbN⟩
  have hsz := hbN.size
  have kp := blk_below kp hbN (blk_lt kp)
  have kF := blk_below kF hbN (blk_lt kF)
  have kQ := blk_below kQ hbN (blk_lt kQ)
  have kG := blk_below kG hbN (blk_lt kG)
  have HXp := hide ((unhide HXp).below hbN)
  have HXf := hide ((unhide HXf).below hbN)
  have HXt := hide ((unhide HXt).below hbN)
  have HXh := hide ((unhide HXh).below hbN)
  have HSe := hide ((unhide HSe).below hbN)
  have HB := hide ((unhide HB).trans (hbN.mono (by omega)))
  have hs : B + 1 ≤ w13.heap.size := by omega
  clear hbN hsz
  have HXo := hide hpx
  clear hpx
  have hlp : B < w13.heap.size := blk_lt kp
  have cp0 : w13.cell? ⟨B, 0, none⟩ = some (.int .i64 (W : Int)) := blk_cell kp 0
  have cp1 : w13.cell? ⟨B, 1, none⟩ = some (.int .i64 (H : Int)) := blk_cell kp 1
  have cp2 : w13.cell? ⟨B, 2, none⟩ = some (.slice a M c) := blk_cell kp 2
  have hlF : bF < w13.heap.size := blk_lt kF
  have cF0 : w13.cell? ⟨bF, 0, none⟩ = some (.int .i64 (W : Int)) := blk_cell kF 0
  have cF1 : w13.cell? ⟨bF, 1, none⟩ = some (.int .i64 (H : Int)) := blk_cell kF 1
  have cF2 : w13.cell? ⟨bF, 2, none⟩ = some (.slice a1 M c1) := blk_cell kF 2
  have hlQ : bQ < w13.heap.size := blk_lt kQ
  have cQ0 : w13.cell? ⟨bQ, 0, none⟩ = some (.int .i64 (tW k W H : Int)) := blk_cell kQ 0
  have cQ1 : w13.cell? ⟨bQ, 1, none⟩ = some (.int .i64 (tW k H W : Int)) := blk_cell kQ 1
  have cQ2 : w13.cell? ⟨bQ, 2, none⟩ = some (.slice a2 M c2) := blk_cell kQ 2
  have hlG : bG < w13.heap.size := blk_lt kG
  have cG0 : w13.cell? ⟨bG, 0, none⟩ = some (.int .i64 (W2 : Int)) := blk_cell kG 0
  have cG1 : w13.cell? ⟨bG, 1, none⟩ = some (.int .i64 (H2 : Int)) := blk_cell kG 1
  have cG2 : w13.cell? ⟨bG, 2, none⟩ = some (.slice a3 M2 c3) := blk_cell kG 2
  go_wp2_with fail
  clear cp0 cp1 cp2 cF0 cF1 cF2 cQ0 cQ1 cQ2 cG0 cG1 cG2 hlp hlF hlQ hlG
  refine (unhide HSc w13 _ _ (unhide HSe)).mono ?_
  rintro e w14 ⟨rfl, hbN⟩
  have hsz := hbN.size
  have kp := blk_below kp hbN (blk_lt kp)
  have kF := blk_below kF hbN (blk_lt kF)
  have kQ := blk_below kQ hbN (blk_lt kQ)
  have kG := blk_below kG hbN (blk_lt kG)
  have HXp := hide ((unhide HXp).below hbN)
  have HXf := hide ((unhide HXf).below hbN)
  have HXt := hide ((unhide HXt).below hbN)
  have HXh := hide ((unhide HXh).below hbN)
  have HXo := hide ((unhide HXo).below hbN)
  have HSe := hide ((unhide HSe).below hbN)
  have HB := hide ((unhide HB).trans (hbN.mono (by omega)))
  have hs : B + 1 ≤ w14.heap.size := by omega
  clear hbN hsz
  clear HXo
  have hlp : B < w14.heap.size := blk_lt kp
  have cp0 : w14.cell? ⟨B, 0, none⟩ = some (.int .i64 (W : Int)) := blk_cell kp 0
  have cp1 : w14.cell? ⟨B, 1, none⟩ = some (.int .i64 (H : Int)) := blk_cell kp 1
  have cp2 : w14.cell? ⟨B, 2, none⟩ = some (.slice a M c) := blk_cell kp 2
  have hlF : bF < w14.heap.size := blk_lt kF
  have cF0 : w14.cell? ⟨bF, 0, none⟩ = some (.int .i64 (W : Int)) := blk_cell kF 0
  have cF1 : w14.cell? ⟨bF, 1, none⟩ = some (.int .i64 (H : Int)) := blk_cell kF 1
  have cF2 : w14.cell? ⟨bF, 2, none⟩ = some (.slice a1 M c1) := blk_cell kF 2
  have hlQ : bQ < w14.heap.size := blk_lt kQ
  have cQ0 : w14.cell? ⟨bQ, 0, none⟩ = some (.int .i64 (tW k W H : Int)) := blk_cell kQ 0
  have cQ1 : w14.cell? ⟨bQ, 1, none⟩ = some (.int .i64 (tW k H W : Int)) := blk_cell kQ 1
  have cQ2 : w14.cell? ⟨bQ, 2, none⟩ = some (.slice a2 M c2) := blk_cell kQ 2
  have hlG : bG < w14.heap.size := blk_lt kG
  have cG0 : w14.cell? ⟨bG, 0, none⟩ = some (.int .i64 (W2 : Int)) := blk_cell kG 0
  have cG1 : w14.cell? ⟨bG, 1, none⟩ = some (.int .i64 (H2 : Int)) := blk_cell kG 1
  have cG2 : w14.cell? ⟨bG, 2, none⟩ = some (.slice a3 M2 c3) := blk_cell kG 2
  have HA := hide (al1 w14 (.cells #[.int .i64 0, .int .i64 0, .slice none 0 0] 26))
  obtain ⟨bD, heqD⟩ : ∃ b, b = w14.heap.size := ⟨_, rfl⟩
  go_wp2_with fail
  clear cp0 cp1 cp2 cF0 cF1 cF2 cQ0 cQ1 cQ2 cG0 cG1 cG2 hlp hlF hlQ hlG
  generalize w14.alloc (.cells #[.int .i64 0, .int .i64 0, .slice none 0 0] 26) = w15 at *
  rw [← heqD] at HA ⊢
  obtain ⟨hsA, kD, hbA⟩ := unhide HA
  rw [heqD] at hbA
  have ltDp : B < bD := by rw [heqD]; exact blk_lt kp
  have ltDF : bF < bD := by rw [heqD]; exact blk_lt kF
  have ltDQ : bQ < bD := by rw [heqD]; exact blk_lt kQ
  have ltDG : bG < bD := by rw [heqD]; exact blk_lt kG
  have hgB : B ≤ bD := by rw [heqD]; omega
  clear HA
  have hsz := hbA.size
  have kp := blk_below kp hbA (blk_lt kp)
  have kF := blk_below kF hbA (blk_lt kF)
  have kQ := blk_below kQ hbA (blk_lt kQ)
  have kG := blk_below kG hbA (blk_lt kG)
  have HXp := hide ((unhide HXp).below hbA)
  have HXf := hide ((unhide HXf).below hbA)
  have HXt := hide ((unhide HXt).below hbA)
  have HXh := hide ((unhide HXh).below hbA)
  have HSe := hide ((unhide HSe).below hbA)
  have HB := hide ((unhide HB).trans (hbA.mono (by omega)))
  have hs : B + 1 ≤ w15.heap.size := by omega
  clear hbA hsz
  clear heqD hsA
  refine (unhide HRT _).mono ?_
  rintro e w16 ⟨rfl, hbN⟩
  have hsz := hbN.size
  have kp := blk_below kp hbN (blk_lt kp)
  have kF := blk_below kF hbN (blk_lt kF)
  have kQ := blk_below kQ hbN (blk_lt kQ)
  have kG := blk_below kG hbN (blk_lt kG)
  have kD := blk_below kD hbN (blk_lt kD)
  have HXp := hide ((unhide HXp).below hbN)
  have HXf := hide ((unhide HXf).below hbN)
  have HXt := hide ((unhide HXt).below hbN)
  have HXh := hide ((unhide HXh).below hbN)
  have HSe := hide ((unhide HSe).below hbN)
  have HB := hide ((unhide HB).trans (hbN.mono (by omega)))
  have hs : B + 1 ≤ w16.heap.size := by omega
  clear hbN hsz
  have hlp : B < w16.heap.size := blk_lt kp
  have cp0 : w16.cell? ⟨B, 0, none⟩ = some (.int .i64 (W : Int)) := blk_cell kp 0
  have cp1 : w16.cell? ⟨B, 1, none⟩ = some (.int .i64 (H : Int)) := blk_cell kp 1
  have cp2 : w16.cell? ⟨B, 2, none⟩ = some (.slice a M c) := blk_cell kp 2
  have hlF : bF < w16.heap.size := blk_lt kF
  have cF0 : w16.cell? ⟨bF, 0, none⟩ = some (.int .i64 (W : Int)) := blk_cell kF 0
  have cF1 : w16.cell? ⟨bF, 1, none⟩ = some (.int .i64 (H : Int)) := blk_cell kF 1
  have cF2 : w16.cell? ⟨bF, 2, none⟩ = some (.slice a1 M c1) := blk_cell kF 2
  have hlQ : bQ < w16.heap.size := blk_lt kQ
  have cQ0 : w16.cell? ⟨bQ, 0, none⟩ = some (.int .i64 (tW k W H : Int)) := blk_cell kQ 0
  have cQ1 : w16.cell? ⟨bQ, 1, none⟩ = some (.int .i64 (tW k H W : Int)) := blk_cell kQ 1
  have cQ2 : w16.cell? ⟨bQ, 2, none⟩ = some (.slice a2 M c2) := blk_cell kQ 2
  have hlG : bG < w16.heap.size := blk_lt kG
  have cG0 : w16.cell? ⟨bG, 0, none⟩ = some (.int .i64 (W2 : Int)) := blk_cell kG 0
  have cG1 : w16.cell? ⟨bG, 1, none⟩ = some (.int .i64 (H2 : Int)) := blk_cell kG 1
  have cG2 : w16.cell? ⟨bG, 2, none⟩ = some (.slice a3 M2 c3) := blk_cell kG 2
  have hlD : bD < w16.heap.size := blk_lt kD
  have cD0 : w16.cell? ⟨bD, 0, none⟩ = some (.int .i64 0) := blk_cell kD 0
  have cD1 : w16.cell? ⟨bD, 1, none⟩ = some (.int .i64 0) := blk_cell kD 1
  have cD2 : w16.cell? ⟨bD, 2, none⟩ = some (.slice none 0 0) := blk_cell kD 2
  go_wp2_with fail
  clear cp0 cp1 cp2 cF0 cF1 cF2 cQ0 cQ1 cQ2 cG0 cG1 cG2 cD0 cD1 cD2 hlp hlF hlQ hlG hlD
  refine (unhide HO w16 (unhide HXp)).mono ?_
  rintro e w17 ⟨a5, c5, rfl, hpx, hbN⟩
  have hsz := hbN.size
  have kp := blk_below kp hbN (blk_lt kp)
  have kF := blk_below kF hbN (blk_lt kF)
  have kQ := blk_below kQ hbN (blk_lt kQ)
  have kG := blk_below kG hbN (blk_lt kG)
  have kD := blk_below kD hbN (blk_lt kD)
  have HXp := hide ((unhide HXp).below hbN)
  have HXf := hide ((unhide HXf).below hbN)
  have HXt := hide ((unhide HXt).below hbN)
  have HXh := hide ((unhide HXh).below hbN)
  have HSe := hide ((unhide HSe).below hbN)
  have HB := hide ((unhide HB).trans (hbN.mono (by omega)))
  have hs : B + 1 ≤ w17.heap.size := by omega
  clear hbN hsz
  have HXT := hide hpx
  clear hpx
  have hlp : B < w17.heap.size := blk_lt kp
  have cp0 : w17.cell? ⟨B, 0, none⟩ = some (.int .i64 (W : Int)) := blk_cell kp 0
  have cp1 : w17.cell? ⟨B, 1, none⟩ = some (.int .i64 (H : Int)) := blk_cell kp 1
  have cp2 : w17.cell? ⟨B, 2, none⟩ = some (.slice a M c) := blk_cell kp 2
  have hlF : bF < w17.heap.size := blk_lt kF
  have cF0 : w17.cell? ⟨bF, 0, none⟩ = some (.int .i64 (W : Int)) := blk_cell kF 0
  have cF1 : w17.cell? ⟨bF, 1, none⟩ = some (.int .i64 (H : Int)) := blk_cell kF 1
  have cF2 : w17.cell? ⟨bF, 2, none⟩ = some (.slice a1 M c1) := blk_cell kF 2
  have hlQ : bQ < w17.heap.size := blk_lt kQ
  have cQ0 : w17.cell? ⟨bQ, 0, none⟩ = some (.int .i64 (tW k W H : Int)) := blk_cell kQ 0
  have cQ1 : w17.cell? ⟨bQ, 1, none⟩ = some (.int .i64 (tW k H W : Int)) := blk_cell kQ 1
  have cQ2 : w17.cell? ⟨bQ, 2, none⟩ = some (.slice a2 M c2) := blk_cell kQ 2
  have hlG : bG < w17.heap.size := blk_lt kG
  have cG0 : w17.cell? ⟨bG, 0, none⟩ = some (.int .i64 (W2 : Int)) := blk_cell kG 0
  have cG1 : w17.cell? ⟨bG, 1, none⟩ = some (.int .i64 (H2 : Int)) := blk_cell kG 1
  have cG2 : w17.cell? ⟨bG, 2, none⟩ = some (.slice a3 M2 c3) := blk_cell kG 2
  have hlD : bD < w17.heap.size := blk_lt kD
  have cD0 : w17.cell? ⟨bD, 0, none⟩ = some (.int .i64 0) := blk_cell kD 0
  have cD1 : w17.cell? ⟨bD, 1, none⟩ = some (.int .i64 0) := blk_cell kD 1
  have cD2 : w17.cell? ⟨bD, 2, none⟩ = some (.slice none 0 0) := blk_cell kD 2
  have HA := hide (al1 w17 (.cells #[.int .i64 (W : Int), .int .i64 (H : Int), .slice a5 M c5] 26))
  obtain ⟨bT, heqT⟩ : ∃ b, b = w17.heap.size := ⟨_, rfl⟩
  go_wp2
  clear cp0 cp1 cp2 cF0 cF1 cF2 cQ0 cQ1 cQ2 cG0 cG1 cG2 cD0 cD1 cD2 hlp hlF hlQ hlG hlD
  generalize w17.alloc (.cells #[.int .i64 (W : Int), .int .i64 (H : Int), .slice a5 M c5] 26) = w18 at *
  rw [← heqT] at HA ⊢
  obtain ⟨hsA, kT, hbA⟩ := unhide HA
  rw [heqT] at hbA
  have ltTp : B < bT := by rw [heqT]; exact blk_lt kp
  have ltTF : bF < bT := by rw [heqT]; exact blk_lt kF
  have ltTQ : bQ < bT := by rw [heqT]; exact blk_lt kQ
  have ltTG : bG < bT := by rw [heqT]; exact blk_lt kG
  have ltTD : bD < bT := by rw [heqT]; exact blk_lt kD
  have hgB : B ≤ bT := by rw [heqT]; omega
  clear HA
  have hsz := hbA.size
  have kp := blk_below kp hbA (blk_lt kp)
  have kF := blk_below kF hbA (blk_lt kF)
  have kQ := blk_below kQ hbA (blk_lt kQ)
  have kG := blk_below kG hbA (blk_lt kG)
  have kD := blk_below kD hbA (blk_lt kD)
  have HXp := hide ((unhide HXp).below hbA)
  have HXf := hide ((unhide HXf).below hbA)
  have HXt := hide ((unhide HXt).below hbA)
  have HXh := hide ((unhide HXh).below hbA)
  have HXT := hide ((unhide HXT).below hbA)
  have HSe := hide ((unhide HSe).below hbA)
  have HB := hide ((unhide HB).trans (hbA.mono (by omega)))
  have hs : B + 1 ≤ w18.heap.size := by omega
  clear hbA hsz
  clear heqT hsA
  have Kp := hide kp
  have KF := hide kF
  have KQ := hide kQ
  have KG := hide kG
  have KD := hide kD
  have KT := hide kT
  clear kp kF kQ kG kD kT hs
  go_loopw [22] (fun kv wr => ∃ (kz : Int) (s : Nat) (aT : Option Addr) (cT : Nat), kv = .int .i64 kz ∧ -3 ≤ kz ∧ kz ≤ 3 ∧ s < 4 ∧ Hid ((z - (s : Int) - kz) % 4 = 0) ∧ Hid (IsPx wr aT M (tP s W H p)) ∧ Hid (IsPx wr a M (p)) ∧ Hid (IsPx wr a1 M (fP d W H p)) ∧ Hid (IsPx wr a2 M (tP k W H p)) ∧ Hid (IsPx wr a3 M2 (grid W2 fun x y => halfG W H p x y)) ∧ Hid (Below B w wr) ∧ Hid (Sent wr A) ∧ Hid (wr.heap[B]? = some (.cells #[.int .i64 (W : Int), .int .i64 (H : Int), .slice a M c] 26)) ∧ Hid (wr.heap[bF]? = some (.cells #[.int .i64 (W : Int), .int .i64 (H : Int), .slice a1 M c1] 26)) ∧ Hid (wr.heap[bQ]? = some (.cells #[.int .i64 (tW k W H : Int), .int .i64 (tW k H W : Int), .slice a2 M c2] 26)) ∧ Hid (wr.heap[bG]? = some (.cells #[.int .i64 (W2 : Int), .int .i64 (H2 : Int), .slice a3 M2 c3] 26)) ∧ Hid (wr.heap[bD]? = some (.cells #[.int .i64 0, .int .i64 0, .slice none 0 0] 26)) ∧ Hid (wr.heap[bT]? = some (.cells #[.int .i64 (tW s W H : Int), .int .i64 (tW s H W : Int), .slice aT M cT] 26))) (fun kv _ => kMs (intOf kv))
  case atStart => exact ⟨k0, 0, a5, c5, rfl, b1, b2, by omega, by show (z - (0 : Nat) - k0) % 4 = 0; have := unhide HB3; omega, (unhide HXT).congr (unhide HNOT), HXp, HXf, HXt, HXh, HB, HSe, Kp, KF, KQ, KG, KD, KT⟩
  case round =>
    clear HXT HXp HXf HXt HXh HB HSe Kp KF KQ KG KD KT b1 b2 zk0 wk0 HB3
    obtain ⟨kz, s, aT, cT, rfl, b1, b2, hs4, HZ, HXT, HXp, HXf, HXt, HXh, HB, HSe, Kp, KF, KQ, KG, KD, KT⟩ := hrel
    by_cases hz0 : kz = 0
    · subst hz0
      obtain rfl : k = s := by have h1 := unhide HZ; have h2 := unhide HK; omega
      have kp := unhide Kp
      have kF := unhide KF
      have kQ := unhide KQ
      have kG := unhide KG
      have kD := unhide KD
      have kT := unhide KT
      have hs : B + 1 ≤ wr.heap.size := by have := blk_lt kp; omega
      clear Kp KF KQ KG KD KT
      have hne : ((0 : Int) != 0) = false := rfl
      have hlp : B < wr.heap.size := blk_lt kp
      have cp0 : wr.cell? ⟨B, 0, none⟩ = some (.int .i64 (W : Int)) := blk_cell kp 0
      have cp1 : wr.cell? ⟨B, 1, none⟩ = some (.int .i64 (H : Int)) := blk_cell kp 1
      have cp2 : wr.cell? ⟨B, 2, none⟩ = some (.slice a M c) := blk_cell kp 2
      have hlF : bF < wr.heap.size := blk_lt kF
      have cF0 : wr.cell? ⟨bF, 0, none⟩ = some (.int .i64 (W : Int)) := blk_cell kF 0
      have cF1 : wr.cell? ⟨bF, 1, none⟩ = some (.int .i64 (H : Int)) := blk_cell kF 1
      have cF2 : wr.cell? ⟨bF, 2, none⟩ = some (.slice a1 M c1) := blk_cell kF 2
      have hlQ : bQ < wr.heap.size := blk_lt kQ
      have cQ0 : wr.cell? ⟨bQ, 0, none⟩ = some (.int .i64 (tW k W H : Int)) := blk_cell kQ 0
      have cQ1 : wr.cell? ⟨bQ, 1, none⟩ = some (.int .i64 (tW k H W : Int)) := blk_cell kQ 1
      have cQ2 : wr.cell? ⟨bQ, 2, none⟩ = some (.slice a2 M c2) := blk_cell kQ 2
      have hlG : bG < wr.heap.size := blk_lt kG
      have cG0 : wr.cell? ⟨bG, 0, none⟩ = some (.int .i64 (W2 : Int)) := blk_cell kG 0
      have cG1 : wr.cell? ⟨bG, 1, none⟩ = some (.int .i64 (H2 : Int)) := blk_cell kG 1
      have cG2 : wr.cell? ⟨bG, 2, none⟩ = some (.slice a3 M2 c3) := blk_cell kG 2
      have hlD : bD < wr.heap.size := blk_lt kD
      have cD0 : wr.cell? ⟨bD, 0, none⟩ = some (.int .i64 0) := blk_cell kD 0
      have cD1 : wr.cell? ⟨bD, 1, none⟩ = some (.int .i64 0) := blk_cell kD 1
      have cD2 : wr.cell? ⟨bD, 2, none⟩ = some (.slice none 0 0) := blk_cell kD 2
      have hlT : bT < wr.heap.size := blk_lt kT
      have cT0 : wr.cell? ⟨bT, 0, none⟩ = some (.int .i64 (tW k W H : Int)) := blk_cell kT 0
      have cT1 : wr.cell? ⟨bT, 1, none⟩ = some (.int .i64 (tW k H W : Int)) := blk_cell kT 1
      have cT2 : wr.cell? ⟨bT, 2, none⟩ = some (.slice aT M cT) := blk_cell kT 2
      go_wp2
      clear cp0 cp1 cp2 cF0 cF1 cF2 cQ0 cQ1 cQ2 cG0 cG1 cG2 cD0 cD1 cD2 cT0 cT1 cT2 hlp hlF hlQ hlG hlD hlT
      have hlp : B < wr.heap.size := blk_lt kp
      have cp0 : wr.cell? ⟨B, 0, none⟩ = some (.int .i64 (W : Int)) := blk_cell kp 0
      have cp1 : wr.cell? ⟨B, 1, none⟩ = some (.int .i64 (H : Int)) := blk_cell kp 1
      have cp2 : wr.cell? ⟨B, 2, none⟩ = some (.slice a M c) := blk_cell kp 2
      have hlF : bF < wr.heap.size := blk_lt kF
      have cF0 : wr.cell? ⟨bF, 0, none⟩ = some (.int .i64 (W : Int)) := blk_cell kF 0
      have cF1 : wr.cell? ⟨bF, 1, none⟩ = some (.int .i64 (H : Int)) := blk_cell kF 1
      have cF2 : wr.cell? ⟨bF, 2, none⟩ = some (.slice a1 M c1) := blk_cell kF 2
      have hlQ : bQ < wr.heap.size := blk_lt kQ
      have cQ0 : wr.cell? ⟨bQ, 0, none⟩ = some (.int .i64 (tW k W H : Int)) := blk_cell kQ 0
      have cQ1 : wr.cell? ⟨bQ, 1, none⟩ = some (.int .i64 (tW k H W : Int)) := blk_cell kQ 1
      have cQ2 : wr.cell? ⟨bQ, 2, none⟩ = some (.slice a2 M c2) := blk_cell kQ 2
      have hlG : bG < wr.heap.size := blk_lt kG
      have cG0 : wr.cell? ⟨bG, 0, none⟩ = some (.int .i64 (W2 : Int)) := blk_cell kG 0
      have cG1 : wr.cell? ⟨bG, 1, none⟩ = some (.int .i64 (H2 : Int)) := blk_cell kG 1
      have cG2 : wr.cell? ⟨bG, 2, none⟩ = some (.slice a3 M2 c3) := blk_cell kG 2
      have hlD : bD < wr.heap.size := blk_lt kD
      have cD0 : wr.cell? ⟨bD, 0, none⟩ = some (.int .i64 0) := blk_cell kD 0
      have cD1 : wr.cell? ⟨bD, 1, none⟩ = some (.int .i64 0) := blk_cell kD 1
      have cD2 : wr.cell? ⟨bD, 2, none⟩ = some (.slice none 0 0) := blk_cell kD 2
      have hlT : bT < wr.heap.size := blk_lt kT
      have cT0 : wr.cell? ⟨bT, 0, none⟩ = some (.int .i64 (tW k W H : Int)) := blk_cell kT 0
      have cT1 : wr.cell? ⟨bT, 1, none⟩ = some (.int .i64 (tW k H W : Int)) := blk_cell kT 1
      have cT2 : wr.cell? ⟨bT, 2, none⟩ = some (.slice aT M cT) := blk_cell kT 2
      have hdr := (Below.refl wr.heap.size wr).drew
      go_region_held (fun w' => w'.cell? ⟨bF, 0, none⟩ = some (.int .i64 (W : Int)) ∧ w'.cell? ⟨bF, 1, none⟩ = some (.int .i64 (H : Int)) ∧ w'.cell? ⟨bF, 2, none⟩ = some (.slice a1 M c1) ∧ w'.cell? ⟨B, 0, none⟩ = some (.int .i64 (W : Int)) ∧ w'.cell? ⟨B, 1, none⟩ = some (.int .i64 (H : Int)) ∧ w'.cell? ⟨B, 2, none⟩ = some (.slice a M c) ∧ w'.cell? ⟨bQ, 0, none⟩ = some (.int .i64 (tW k W H : Int)) ∧ w'.cell? ⟨bQ, 1, none⟩ = some (.int .i64 (tW k H W : Int)) ∧ w'.cell? ⟨bQ, 2, none⟩ = some (.slice a2 M c2) ∧ w'.cell? ⟨bT, 0, none⟩ = some (.int .i64 (tW k W H : Int)) ∧ w'.cell? ⟨bT, 1, none⟩ = some (.int .i64 (tW k H W : Int)) ∧ w'.cell? ⟨bT, 2, none⟩ = some (.slice aT M cT) ∧ w'.cell? ⟨bG, 0, none⟩ = some (.int .i64 (W2 : Int)) ∧ w'.cell? ⟨bG, 1, none⟩ = some (.int .i64 (H2 : Int)) ∧ w'.cell? ⟨bG, 2, none⟩ = some (.slice a3 M2 c3)) (first | with_reducible exact ⟨(unhide hkw23 _ _ hlF).trans cF0, (unhide hkw23 _ _ hlF).trans cF1, (unhide hkw23 _ _ hlF).trans cF2, (unhide hkw23 _ _ hlp).trans cp0, (unhide hkw23 _ _ hlp).trans cp1, (unhide hkw23 _ _ hlp).trans cp2, (unhide hkw23 _ _ hlQ).trans cQ0, (unhide hkw23 _ _ hlQ).trans cQ1, (unhide hkw23 _ _ hlQ).trans cQ2, (unhide hkw23 _ _ hlT).trans cT0, (unhide hkw23 _ _ hlT).trans cT1, (unhide hkw23 _ _ hlT).trans cT2, (unhide hkw23 _ _ hlG).trans cG0, (unhide hkw23 _ _ hlG).trans cG1, (unhide hkw23 _ _ hlG).trans cG2⟩ | with_reducible exact ⟨(unhide hkw22 _ _ hlF).trans cF0, (unhide hkw22 _ _ hlF).trans cF1, (unhide hkw22 _ _ hlF).trans cF2, (unhide hkw22 _ _ hlp).trans cp0, (unhide hkw22 _ _ hlp).trans cp1, (unhide hkw22 _ _ hlp).trans cp2, (unhide hkw22 _ _ hlQ).trans cQ0, (unhide hkw22 _ _ hlQ).trans cQ1, (unhide hkw22 _ _ hlQ).trans cQ2, (unhide hkw22 _ _ hlT).trans cT0, (unhide hkw22 _ _ hlT).trans cT1, (unhide hkw22 _ _ hlT).trans cT2, (unhide hkw22 _ _ hlG).trans cG0, (unhide hkw22 _ _ hlG).trans cG1, (unhide hkw22 _ _ hlG).trans cG2⟩ | with_reducible exact ⟨(unhide hkw21 _ _ hlF).trans cF0, (unhide hkw21 _ _ hlF).trans cF1, (unhide hkw21 _ _ hlF).trans cF2, (unhide hkw21 _ _ hlp).trans cp0, (unhide hkw21 _ _ hlp).trans cp1, (unhide hkw21 _ _ hlp).trans cp2, (unhide hkw21 _ _ hlQ).trans cQ0, (unhide hkw21 _ _ hlQ).trans cQ1, (unhide hkw21 _ _ hlQ).trans cQ2, (unhide hkw21 _ _ hlT).trans cT0, (unhide hkw21 _ _ hlT).trans cT1, (unhide hkw21 _ _ hlT).trans cT2, (unhide hkw21 _ _ hlG).trans cG0, (unhide hkw21 _ _ hlG).trans cG1, (unhide hkw21 _ _ hlG).trans cG2⟩ | with_reducible exact ⟨(unhide hkw20 _ _ hlF).trans cF0, (unhide hkw20 _ _ hlF).trans cF1, (unhide hkw20 _ _ hlF).trans cF2, (unhide hkw20 _ _ hlp).trans cp0, (unhide hkw20 _ _ hlp).trans cp1, (unhide hkw20 _ _ hlp).trans cp2, (unhide hkw20 _ _ hlQ).trans cQ0, (unhide hkw20 _ _ hlQ).trans cQ1, (unhide hkw20 _ _ hlQ).trans cQ2, (unhide hkw20 _ _ hlT).trans cT0, (unhide hkw20 _ _ hlT).trans cT1, (unhide hkw20 _ _ hlT).trans cT2, (unhide hkw20 _ _ hlG).trans cG0, (unhide hkw20 _ _ hlG).trans cG1, (unhide hkw20 _ _ hlG).trans cG2⟩ | with_reducible exact ⟨(unhide hkw19 _ _ hlF).trans cF0, (unhide hkw19 _ _ hlF).trans cF1, (unhide hkw19 _ _ hlF).trans cF2, (unhide hkw19 _ _ hlp).trans cp0, (unhide hkw19 _ _ hlp).trans cp1, (unhide hkw19 _ _ hlp).trans cp2, (unhide hkw19 _ _ hlQ).trans cQ0, (unhide hkw19 _ _ hlQ).trans cQ1, (unhide hkw19 _ _ hlQ).trans cQ2, (unhide hkw19 _ _ hlT).trans cT0, (unhide hkw19 _ _ hlT).trans cT1, (unhide hkw19 _ _ hlT).trans cT2, (unhide hkw19 _ _ hlG).trans cG0, (unhide hkw19 _ _ hlG).trans cG1, (unhide hkw19 _ _ hlG).trans cG2⟩ | exact ⟨cF0, cF1, cF2, cp0, cp1, cp2, cQ0, cQ1, cQ2, cT0, cT1, cT2, cG0, cG1, cG2⟩) (first | (go_at_call 34; refine (unhide HFO wr.drew ((unhide HXp).below hdr)).mono ?_; rintro e w19 ⟨g1, d1, rfl, hp1, hbw19⟩; have hqw19 := hdr.trans (hbw19.mono (by exact Nat.le_refl _)); have hkw19 := hide (fun (k o : Nat) (h : k < wr.heap.size) => hqw19.cell (p := ⟨k, o, none⟩) h)) | (go_at_call_of 13 a1; refine (unhide HT1 w19 _ _ _ _ ((unhide HXf).below hqw19) (hp1.isPx hM3)).mono ?_; rintro e w20 ⟨rfl, hbw20⟩; have hqw20 := hqw19.trans (hbw20.mono (by exact hqw19.size)); have hkw20 := hide (fun (k o : Nat) (h : k < wr.heap.size) => hqw20.cell (p := ⟨k, o, none⟩) h)) | (go_at_call_of 13 a2; refine (unhide HT2 w20 _ _ _ _ ((unhide HXt).below hqw20) ((unhide HXT).below hqw20)).mono ?_; rintro e w21 ⟨rfl, hbw21⟩; have hqw21 := hqw20.trans (hbw21.mono (by exact hqw20.size)); have hkw21 := hide (fun (k o : Nat) (h : k < wr.heap.size) => hqw21.cell (p := ⟨k, o, none⟩) h)) | (go_at_call 35; refine (unhide HHO w21 ((unhide HXp).below hqw21)).mono ?_; rintro e w22 ⟨g2, d2, rfl, hp2, hbw22⟩; have hqw22 := hqw21.trans (hbw22.mono (by exact hqw21.size)); have hkw22 := hide (fun (k o : Nat) (h : k < wr.heap.size) => hqw22.cell (p := ⟨k, o, none⟩) h)) | (go_at_call_of 13 a3; refine (unhide HT3 w22 _ _ _ _ ((unhide HXh).below hqw22) (hp2.isPx hM4)).mono ?_; rintro e w23 ⟨rfl, hbw23⟩; have hqw23 := hqw22.trans (hbw23.mono (by exact hqw22.size)); have hkw23 := hide (fun (k o : Nat) (h : k < wr.heap.size) => hqw23.cell (p := ⟨k, o, none⟩) h)))
      clear cp0 cp1 cp2 cF0 cF1 cF2 cQ0 cQ1 cQ2 cG0 cG1 cG2 cD0 cD1 cD2 cT0 cT1 cT2 hlp hlF hlQ hlG hlD hlT
      have hbN := hqw23
      clear hdr hkw19 hkw20 hkw21 hkw22 hkw23
      have hsz := hbN.size
      have kp := blk_below kp hbN (blk_lt kp)
      have kF := blk_below kF hbN (blk_lt kF)
      have kQ := blk_below kQ hbN (blk_lt kQ)
      have kG := blk_below kG hbN (blk_lt kG)
      have kD := blk_below kD hbN (blk_lt kD)
      have kT := blk_below kT hbN (blk_lt kT)
      have HXp := hide ((unhide HXp).below hbN)
      have HXf := hide ((unhide HXf).below hbN)
      have HXt := hide ((unhide HXt).below hbN)
      have HXh := hide ((unhide HXh).below hbN)
      have HXT := hide ((unhide HXT).below hbN)
      have HSe := hide ((unhide HSe).below hbN)
      have HB := hide ((unhide HB).trans (hbN.mono (by omega)))
      have hs : B + 1 ≤ w23.heap.size := by omega
      clear hbN hsz
      clear hp1 hp2
      have hlp : B < w23.heap.size := blk_lt kp
      have cp0 : w23.cell? ⟨B, 0, none⟩ = some (.int .i64 (W : Int)) := blk_cell kp 0
      have cp1 : w23.cell? ⟨B, 1, none⟩ = some (.int .i64 (H : Int)) := blk_cell kp 1
      have cp2 : w23.cell? ⟨B, 2, none⟩ = some (.slice a M c) := blk_cell kp 2
      have hlF : bF < w23.heap.size := blk_lt kF
      have cF0 : w23.cell? ⟨bF, 0, none⟩ = some (.int .i64 (W : Int)) := blk_cell kF 0
      have cF1 : w23.cell? ⟨bF, 1, none⟩ = some (.int .i64 (H : Int)) := blk_cell kF 1
      have cF2 : w23.cell? ⟨bF, 2, none⟩ = some (.slice a1 M c1) := blk_cell kF 2
      have hlQ : bQ < w23.heap.size := blk_lt kQ
      have cQ0 : w23.cell? ⟨bQ, 0, none⟩ = some (.int .i64 (tW k W H : Int)) := blk_cell kQ 0
      have cQ1 : w23.cell? ⟨bQ, 1, none⟩ = some (.int .i64 (tW k H W : Int)) := blk_cell kQ 1
      have cQ2 : w23.cell? ⟨bQ, 2, none⟩ = some (.slice a2 M c2) := blk_cell kQ 2
      have hlG : bG < w23.heap.size := blk_lt kG
      have cG0 : w23.cell? ⟨bG, 0, none⟩ = some (.int .i64 (W2 : Int)) := blk_cell kG 0
      have cG1 : w23.cell? ⟨bG, 1, none⟩ = some (.int .i64 (H2 : Int)) := blk_cell kG 1
      have cG2 : w23.cell? ⟨bG, 2, none⟩ = some (.slice a3 M2 c3) := blk_cell kG 2
      have hlD : bD < w23.heap.size := blk_lt kD
      have cD0 : w23.cell? ⟨bD, 0, none⟩ = some (.int .i64 0) := blk_cell kD 0
      have cD1 : w23.cell? ⟨bD, 1, none⟩ = some (.int .i64 0) := blk_cell kD 1
      have cD2 : w23.cell? ⟨bD, 2, none⟩ = some (.slice none 0 0) := blk_cell kD 2
      have hlT : bT < w23.heap.size := blk_lt kT
      have cT0 : w23.cell? ⟨bT, 0, none⟩ = some (.int .i64 (tW k W H : Int)) := blk_cell kT 0
      have cT1 : w23.cell? ⟨bT, 1, none⟩ = some (.int .i64 (tW k H W : Int)) := blk_cell kT 1
      have cT2 : w23.cell? ⟨bT, 2, none⟩ = some (.slice aT M cT) := blk_cell kT 2
      go_wp2_with fail
      clear cp0 cp1 cp2 cF0 cF1 cF2 cQ0 cQ1 cQ2 cG0 cG1 cG2 cD0 cD1 cD2 cT0 cT1 cT2 hlp hlF hlQ hlG hlD hlT
      refine (unhide HU _).mono ?_
      rintro e w23 ⟨rfl, rfl⟩
      have hlp : B < w23.heap.size := blk_lt kp
      have cp0 : w23.cell? ⟨B, 0, none⟩ = some (.int .i64 (W : Int)) := blk_cell kp 0
      have cp1 : w23.cell? ⟨B, 1, none⟩ = some (.int .i64 (H : Int)) := blk_cell kp 1
      have cp2 : w23.cell? ⟨B, 2, none⟩ = some (.slice a M c) := blk_cell kp 2
      have hlF : bF < w23.heap.size := blk_lt kF
      have cF0 : w23.cell? ⟨bF, 0, none⟩ = some (.int .i64 (W : Int)) := blk_cell kF 0
      have cF1 : w23.cell? ⟨bF, 1, none⟩ = some (.int .i64 (H : Int)) := blk_cell kF 1
      have cF2 : w23.cell? ⟨bF, 2, none⟩ = some (.slice a1 M c1) := blk_cell kF 2
      have hlQ : bQ < w23.heap.size := blk_lt kQ
      have cQ0 : w23.cell? ⟨bQ, 0, none⟩ = some (.int .i64 (tW k W H : Int)) := blk_cell kQ 0
      have cQ1 : w23.cell? ⟨bQ, 1, none⟩ = some (.int .i64 (tW k H W : Int)) := blk_cell kQ 1
      have cQ2 : w23.cell? ⟨bQ, 2, none⟩ = some (.slice a2 M c2) := blk_cell kQ 2
      have hlG : bG < w23.heap.size := blk_lt kG
      have cG0 : w23.cell? ⟨bG, 0, none⟩ = some (.int .i64 (W2 : Int)) := blk_cell kG 0
      have cG1 : w23.cell? ⟨bG, 1, none⟩ = some (.int .i64 (H2 : Int)) := blk_cell kG 1
      have cG2 : w23.cell? ⟨bG, 2, none⟩ = some (.slice a3 M2 c3) := blk_cell kG 2
      have hlD : bD < w23.heap.size := blk_lt kD
      have cD0 : w23.cell? ⟨bD, 0, none⟩ = some (.int .i64 0) := blk_cell kD 0
      have cD1 : w23.cell? ⟨bD, 1, none⟩ = some (.int .i64 0) := blk_cell kD 1
      have cD2 : w23.cell? ⟨bD, 2, none⟩ = some (.slice none 0 0) := blk_cell kD 2
      have hlT : bT < w23.heap.size := blk_lt kT
      have cT0 : w23.cell? ⟨bT, 0, none⟩ = some (.int .i64 (tW k W H : Int)) := blk_cell kT 0
      have cT1 : w23.cell? ⟨bT, 1, none⟩ = some (.int .i64 (tW k H W : Int)) := blk_cell kT 1
      have cT2 : w23.cell? ⟨bT, 2, none⟩ = some (.slice aT M cT) := blk_cell kT 2
      go_wp2_with fail
      clear cp0 cp1 cp2 cF0 cF1 cF2 cQ0 cQ1 cQ2 cG0 cG1 cG2 cD0 cD1 cD2 cT0 cT1 cT2 hlp hlF hlQ hlG hlD hlT
      refine (unhide HTe w23 (unhide HSe)).mono ?_
      rintro e w24 ⟨rfl, hbN⟩
      have hsz := hbN.size
      have kp := blk_below kp hbN (blk_lt kp)
      have kF := blk_below kF hbN (blk_lt kF)
      have kQ := blk_below kQ hbN (blk_lt kQ)
      have kG := blk_below kG hbN (blk_lt kG)
      have kD := blk_below kD hbN (blk_lt kD)
      have kT := blk_below kT hbN (blk_lt kT)
      have HXp := hide ((unhide HXp).below hbN)
      have HXf := hide ((unhide HXf).below hbN)
      have HXt := hide ((unhide HXt).below hbN)
      have HXh := hide ((unhide HXh).below hbN)
      have HXT := hide ((unhide HXT).below hbN)
      have HSe := hide ((unhide HSe).below hbN)
      have HB := hide ((unhide HB).trans (hbN.mono (by omega)))
      have hs : B + 1 ≤ w24.heap.size := by omega
      clear hbN hsz
      have hlp : B < w24.heap.size := blk_lt kp
      have cp0 : w24.cell? ⟨B, 0, none⟩ = some (.int .i64 (W : Int)) := blk_cell kp 0
      have cp1 : w24.cell? ⟨B, 1, none⟩ = some (.int .i64 (H : Int)) := blk_cell kp 1
      have cp2 : w24.cell? ⟨B, 2, none⟩ = some (.slice a M c) := blk_cell kp 2
      have hlF : bF < w24.heap.size := blk_lt kF
      have cF0 : w24.cell? ⟨bF, 0, none⟩ = some (.int .i64 (W : Int)) := blk_cell kF 0
      have cF1 : w24.cell? ⟨bF, 1, none⟩ = some (.int .i64 (H : Int)) := blk_cell kF 1
      have cF2 : w24.cell? ⟨bF, 2, none⟩ = some (.slice a1 M c1) := blk_cell kF 2
      have hlQ : bQ < w24.heap.size := blk_lt kQ
      have cQ0 : w24.cell? ⟨bQ, 0, none⟩ = some (.int .i64 (tW k W H : Int)) := blk_cell kQ 0
      have cQ1 : w24.cell? ⟨bQ, 1, none⟩ = some (.int .i64 (tW k H W : Int)) := blk_cell kQ 1
      have cQ2 : w24.cell? ⟨bQ, 2, none⟩ = some (.slice a2 M c2) := blk_cell kQ 2
      have hlG : bG < w24.heap.size := blk_lt kG
      have cG0 : w24.cell? ⟨bG, 0, none⟩ = some (.int .i64 (W2 : Int)) := blk_cell kG 0
      have cG1 : w24.cell? ⟨bG, 1, none⟩ = some (.int .i64 (H2 : Int)) := blk_cell kG 1
      have cG2 : w24.cell? ⟨bG, 2, none⟩ = some (.slice a3 M2 c3) := blk_cell kG 2
      have hlD : bD < w24.heap.size := blk_lt kD
      have cD0 : w24.cell? ⟨bD, 0, none⟩ = some (.int .i64 0) := blk_cell kD 0
      have cD1 : w24.cell? ⟨bD, 1, none⟩ = some (.int .i64 0) := blk_cell kD 1
      have cD2 : w24.cell? ⟨bD, 2, none⟩ = some (.slice none 0 0) := blk_cell kD 2
      have hlT : bT < w24.heap.size := blk_lt kT
      have cT0 : w24.cell? ⟨bT, 0, none⟩ = some (.int .i64 (tW k W H : Int)) := blk_cell kT 0
      have cT1 : w24.cell? ⟨bT, 1, none⟩ = some (.int .i64 (tW k H W : Int)) := blk_cell kT 1
      have cT2 : w24.cell? ⟨bT, 2, none⟩ = some (.slice aT M cT) := blk_cell kT 2
      go_wp2
      clear cp0 cp1 cp2 cF0 cF1 cF2 cQ0 cQ1 cQ2 cG0 cG1 cG2 cD0 cD1 cD2 cT0 cT1 cT2 hlp hlF hlQ hlG hlD hlT
      go_ret
      exact ⟨rfl, by rw [← unhide HBE]; exact unhide HB⟩
    · have hne : (kz == 0) = false := by simp; omega
      have hne2 : (kz != 0) = true := by simp; omega
      clear hz0
      have hne0 : kz ≠ 0 := by intro h; rw [h] at hne; exact absurd hne (by decide)
      obtain ⟨s1, hs1⟩ : ∃ m, m = (s + 1) % 4 := ⟨_, rfl⟩
      obtain ⟨s2, hs2⟩ : ∃ m, m = (s1 + 1) % 4 := ⟨_, rfl⟩
      obtain ⟨s3, hs3⟩ : ∃ m, m = (s2 + 1) % 4 := ⟨_, rfl⟩
      have HQ1 := hide (unhide HST s hs4)
      have HQ2 := hide (unhide HST s1 (by omega))
      have HQ3 := hide (unhide HST s2 (by omega))
      rw [← hs1] at HQ1
      rw [← hs2] at HQ2
      rw [← hs3] at HQ3
      have h34 : s3 < 4 := by omega
      have kp := unhide Kp
      have kF := unhide KF
      have kQ := unhide KQ
      have kG := unhide KG
      have kD := unhide KD
      have kT := unhide KT
      have hs : B + 1 ≤ wr.heap.size := by have := blk_lt kp; omega
      clear Kp KF KQ KG KD KT
      have HZ2 : Hid ((z - (s3 : Int) - (if kz > 0 then kz - 4 + 1 else kz + 1)) % 4 = 0) := by show _ = _; have := unhide HZ; split <;> omega
      clear hs1 hs2 hs3 HZ
      by_cases hpos : kz > 0
      · have dk : decide (kz > 0) = true := decide_eq_true hpos
        rw [if_pos hpos] at HZ2
        have dk2 : decide (0 < kz) = true := dk
        have hlp : B < wr.heap.size := blk_lt kp
        have cp0 : wr.cell? ⟨B, 0, none⟩ = some (.int .i64 (W : Int)) := blk_cell kp 0
        have cp1 : wr.cell? ⟨B, 1, none⟩ = some (.int .i64 (H : Int)) := blk_cell kp 1
        have cp2 : wr.cell? ⟨B, 2, none⟩ = some (.slice a M c) := blk_cell kp 2
        have hlF : bF < wr.heap.size := blk_lt kF
        have cF0 : wr.cell? ⟨bF, 0, none⟩ = some (.int .i64 (W : Int)) := blk_cell kF 0
        have cF1 : wr.cell? ⟨bF, 1, none⟩ = some (.int .i64 (H : Int)) := blk_cell kF 1
        have cF2 : wr.cell? ⟨bF, 2, none⟩ = some (.slice a1 M c1) := blk_cell kF 2
        have hlQ : bQ < wr.heap.size := blk_lt kQ
        have cQ0 : wr.cell? ⟨bQ, 0, none⟩ = some (.int .i64 (tW k W H : Int)) := blk_cell kQ 0
        have cQ1 : wr.cell? ⟨bQ, 1, none⟩ = some (.int .i64 (tW k H W : Int)) := blk_cell kQ 1
        have cQ2 : wr.cell? ⟨bQ, 2, none⟩ = some (.slice a2 M c2) := blk_cell kQ 2
        have hlG : bG < wr.heap.size := blk_lt kG
        have cG0 : wr.cell? ⟨bG, 0, none⟩ = some (.int .i64 (W2 : Int)) := blk_cell kG 0
        have cG1 : wr.cell? ⟨bG, 1, none⟩ = some (.int .i64 (H2 : Int)) := blk_cell kG 1
        have cG2 : wr.cell? ⟨bG, 2, none⟩ = some (.slice a3 M2 c3) := blk_cell kG 2
        have hlD : bD < wr.heap.size := blk_lt kD
        have cD0 : wr.cell? ⟨bD, 0, none⟩ = some (.int .i64 0) := blk_cell kD 0
        have cD1 : wr.cell? ⟨bD, 1, none⟩ = some (.int .i64 0) := blk_cell kD 1
        have cD2 : wr.cell? ⟨bD, 2, none⟩ = some (.slice none 0 0) := blk_cell kD 2
        have hlT : bT < wr.heap.size := blk_lt kT
        have cT0 : wr.cell? ⟨bT, 0, none⟩ = some (.int .i64 (tW s W H : Int)) := blk_cell kT 0
        have cT1 : wr.cell? ⟨bT, 1, none⟩ = some (.int .i64 (tW s H W : Int)) := blk_cell kT 1
        have cT2 : wr.cell? ⟨bT, 2, none⟩ = some (.slice aT M cT) := blk_cell kT 2
        go_wp2_with fail
        clear cp0 cp1 cp2 cF0 cF1 cF2 cQ0 cQ1 cQ2 cG0 cG1 cG2 cD0 cD1 cD2 cT0 cT1 cT2 hlp hlF hlQ hlG hlD hlT
        refine (unhide HQ1 wr _ _ (unhide HXT)).mono ?_
        rintro e w39 ⟨x1, y1, rfl, hpx, hbN⟩
        have hsz := hbN.size
        have kp := blk_below kp hbN (blk_lt kp)
        have kF := blk_below kF hbN (blk_lt kF)
        have kQ := blk_below kQ hbN (blk_lt kQ)
        have kG := blk_below kG hbN (blk_lt kG)
        have kD := blk_below kD hbN (blk_lt kD)
        have kT := blk_below kT hbN (blk_lt kT)
        have HXp := hide ((unhide HXp).below hbN)
        have HXf := hide ((unhide HXf).below hbN)
        have HXt := hide ((unhide HXt).below hbN)
        have HXh := hide ((unhide HXh).below hbN)
        have HXT := hide ((unhide HXT).below hbN)
        have HSe := hide ((unhide HSe).below hbN)
        have HB := hide ((unhide HB).trans (hbN.mono (by omega)))
        have hs : B + 1 ≤ w39.heap.size := by omega
        clear hbN hsz
        have HXu1 := hide hpx
        clear hpx
        have hlp : B < w39.heap.size := blk_lt kp
        have cp0 : w39.cell? ⟨B, 0, none⟩ = some (.int .i64 (W : Int)) := blk_cell kp 0
        have cp1 : w39.cell? ⟨B, 1, none⟩ = some (.int .i64 (H : Int)) := blk_cell kp 1
        have cp2 : w39.cell? ⟨B, 2, none⟩ = some (.slice a M c) := blk_cell kp 2
        have hlF : bF < w39.heap.size := blk_lt kF
        have cF0 : w39.cell? ⟨bF, 0, none⟩ = some (.int .i64 (W : Int)) := blk_cell kF 0
        have cF1 : w39.cell? ⟨bF, 1, none⟩ = some (.int .i64 (H : Int)) := blk_cell kF 1
        have cF2 : w39.cell? ⟨bF, 2, none⟩ = some (.slice a1 M c1) := blk_cell kF 2
        have hlQ : bQ < w39.heap.size := blk_lt kQ
        have cQ0 : w39.cell? ⟨bQ, 0, none⟩ = some (.int .i64 (tW k W H : Int)) := blk_cell kQ 0
        have cQ1 : w39.cell? ⟨bQ, 1, none⟩ = some (.int .i64 (tW k H W : Int)) := blk_cell kQ 1
        have cQ2 : w39.cell? ⟨bQ, 2, none⟩ = some (.slice a2 M c2) := blk_cell kQ 2
        have hlG : bG < w39.heap.size := blk_lt kG
        have cG0 : w39.cell? ⟨bG, 0, none⟩ = some (.int .i64 (W2 : Int)) := blk_cell kG 0
        have cG1 : w39.cell? ⟨bG, 1, none⟩ = some (.int .i64 (H2 : Int)) := blk_cell kG 1
        have cG2 : w39.cell? ⟨bG, 2, none⟩ = some (.slice a3 M2 c3) := blk_cell kG 2
        have hlD : bD < w39.heap.size := blk_lt kD
        have cD0 : w39.cell? ⟨bD, 0, none⟩ = some (.int .i64 0) := blk_cell kD 0
        have cD1 : w39.cell? ⟨bD, 1, none⟩ = some (.int .i64 0) := blk_cell kD 1
        have cD2 : w39.cell? ⟨bD, 2, none⟩ = some (.slice none 0 0) := blk_cell kD 2
        have hlT : bT < w39.heap.size := blk_lt kT
        have cT0 : w39.cell? ⟨bT, 0, none⟩ = some (.int .i64 (tW s W H : Int)) := blk_cell kT 0
        have cT1 : w39.cell? ⟨bT, 1, none⟩ = some (.int .i64 (tW s H W : Int)) := blk_cell kT 1
        have cT2 : w39.cell? ⟨bT, 2, none⟩ = some (.slice aT M cT) := blk_cell kT 2
        go_wp2_with fail
        clear cp0 cp1 cp2 cF0 cF1 cF2 cQ0 cQ1 cQ2 cG0 cG1 cG2 cD0 cD1 cD2 cT0 cT1 cT2 hlp hlF hlQ hlG hlD hlT
        refine (unhide HQ2 w39 _ _ (unhide HXu1)).mono ?_
        rintro e w40 ⟨x2, y2, rfl, hpx, hbN⟩
        have hsz := hbN.size
        have kp := blk_below kp hbN (blk_lt kp)
        have kF := blk_below kF hbN (blk_lt kF)
        have kQ := blk_below kQ hbN (blk_lt kQ)
        have kG := blk_below kG hbN (blk_lt kG)
        have kD := blk_below kD hbN (blk_lt kD)
        have kT := blk_below kT hbN (blk_lt kT)
        have HXp := hide ((unhide HXp).below hbN)
        have HXf := hide ((unhide HXf).below hbN)
        have HXt := hide ((unhide HXt).below hbN)
        have HXh := hide ((unhide HXh).below hbN)
        have HXT := hide ((unhide HXT).below hbN)
        have HXu1 := hide ((unhide HXu1).below hbN)
        have HSe := hide ((unhide HSe).below hbN)
        have HB := hide ((unhide HB).trans (hbN.mono (by omega)))
        have hs : B + 1 ≤ w40.heap.size := by omega
        clear hbN hsz
        have HXu2 := hide hpx
        clear hpx
        have hlp : B < w40.heap.size := blk_lt kp
        have cp0 : w40.cell? ⟨B, 0, none⟩ = some (.int .i64 (W : Int)) := blk_cell kp 0
        have cp1 : w40.cell? ⟨B, 1, none⟩ = some (.int .i64 (H : Int)) := blk_cell kp 1
        have cp2 : w40.cell? ⟨B, 2, none⟩ = some (.slice a M c) := blk_cell kp 2
        have hlF : bF < w40.heap.size := blk_lt kF
        have cF0 : w40.cell? ⟨bF, 0, none⟩ = some (.int .i64 (W : Int)) := blk_cell kF 0
        have cF1 : w40.cell? ⟨bF, 1, none⟩ = some (.int .i64 (H : Int)) := blk_cell kF 1
        have cF2 : w40.cell? ⟨bF, 2, none⟩ = some (.slice a1 M c1) := blk_cell kF 2
        have hlQ : bQ < w40.heap.size := blk_lt kQ
        have cQ0 : w40.cell? ⟨bQ, 0, none⟩ = some (.int .i64 (tW k W H : Int)) := blk_cell kQ 0
        have cQ1 : w40.cell? ⟨bQ, 1, none⟩ = some (.int .i64 (tW k H W : Int)) := blk_cell kQ 1
        have cQ2 : w40.cell? ⟨bQ, 2, none⟩ = some (.slice a2 M c2) := blk_cell kQ 2
        have hlG : bG < w40.heap.size := blk_lt kG
        have cG0 : w40.cell? ⟨bG, 0, none⟩ = some (.int .i64 (W2 : Int)) := blk_cell kG 0
        have cG1 : w40.cell? ⟨bG, 1, none⟩ = some (.int .i64 (H2 : Int)) := blk_cell kG 1
        have cG2 : w40.cell? ⟨bG, 2, none⟩ = some (.slice a3 M2 c3) := blk_cell kG 2
        have hlD : bD < w40.heap.size := blk_lt kD
        have cD0 : w40.cell? ⟨bD, 0, none⟩ = some (.int .i64 0) := blk_cell kD 0
        have cD1 : w40.cell? ⟨bD, 1, none⟩ = some (.int .i64 0) := blk_cell kD 1
        have cD2 : w40.cell? ⟨bD, 2, none⟩ = some (.slice none 0 0) := blk_cell kD 2
        have hlT : bT < w40.heap.size := blk_lt kT
        have cT0 : w40.cell? ⟨bT, 0, none⟩ = some (.int .i64 (tW s W H : Int)) := blk_cell kT 0
        have cT1 : w40.cell? ⟨bT, 1, none⟩ = some (.int .i64 (tW s H W : Int)) := blk_cell kT 1
        have cT2 : w40.cell? ⟨bT, 2, none⟩ = some (.slice aT M cT) := blk_cell kT 2
        go_wp2_with fail
        clear cp0 cp1 cp2 cF0 cF1 cF2 cQ0 cQ1 cQ2 cG0 cG1 cG2 cD0 cD1 cD2 cT0 cT1 cT2 hlp hlF hlQ hlG hlD hlT
        refine (unhide HQ3 w40 _ _ (unhide HXu2)).mono ?_
        rintro e w41 ⟨x3, y3, rfl, hpx, hbN⟩
        have hsz := hbN.size
        have kp := blk_below kp hbN (blk_lt kp)
        have kF := blk_below kF hbN (blk_lt kF)
        have kQ := blk_below kQ hbN (blk_lt kQ)
        have kG := blk_below kG hbN (blk_lt kG)
        have kD := blk_below kD hbN (blk_lt kD)
        have kT := blk_below kT hbN (blk_lt kT)
        have HXp := hide ((unhide HXp).below hbN)
        have HXf := hide ((unhide HXf).below hbN)
        have HXt := hide ((unhide HXt).below hbN)
        have HXh := hide ((unhide HXh).below hbN)
        have HXT := hide ((unhide HXT).below hbN)
        have HXu1 := hide ((unhide HXu1).below hbN)
        have HXu2 := hide ((unhide HXu2).below hbN)
        have HSe := hide ((unhide HSe).below hbN)
        have HB := hide ((unhide HB).trans (hbN.mono (by omega)))
        have hs : B + 1 ≤ w41.heap.size := by omega
        clear hbN hsz
        have HXu3 := hide hpx
        clear hpx
        have hlp : B < w41.heap.size := blk_lt kp
        have cp0 : w41.cell? ⟨B, 0, none⟩ = some (.int .i64 (W : Int)) := blk_cell kp 0
        have cp1 : w41.cell? ⟨B, 1, none⟩ = some (.int .i64 (H : Int)) := blk_cell kp 1
        have cp2 : w41.cell? ⟨B, 2, none⟩ = some (.slice a M c) := blk_cell kp 2
        have hlF : bF < w41.heap.size := blk_lt kF
        have cF0 : w41.cell? ⟨bF, 0, none⟩ = some (.int .i64 (W : Int)) := blk_cell kF 0
        have cF1 : w41.cell? ⟨bF, 1, none⟩ = some (.int .i64 (H : Int)) := blk_cell kF 1
        have cF2 : w41.cell? ⟨bF, 2, none⟩ = some (.slice a1 M c1) := blk_cell kF 2
        have hlQ : bQ < w41.heap.size := blk_lt kQ
        have cQ0 : w41.cell? ⟨bQ, 0, none⟩ = some (.int .i64 (tW k W H : Int)) := blk_cell kQ 0
        have cQ1 : w41.cell? ⟨bQ, 1, none⟩ = some (.int .i64 (tW k H W : Int)) := blk_cell kQ 1
        have cQ2 : w41.cell? ⟨bQ, 2, none⟩ = some (.slice a2 M c2) := blk_cell kQ 2
        have hlG : bG < w41.heap.size := blk_lt kG
        have cG0 : w41.cell? ⟨bG, 0, none⟩ = some (.int .i64 (W2 : Int)) := blk_cell kG 0
        have cG1 : w41.cell? ⟨bG, 1, none⟩ = some (.int .i64 (H2 : Int)) := blk_cell kG 1
        have cG2 : w41.cell? ⟨bG, 2, none⟩ = some (.slice a3 M2 c3) := blk_cell kG 2
        have hlD : bD < w41.heap.size := blk_lt kD
        have cD0 : w41.cell? ⟨bD, 0, none⟩ = some (.int .i64 0) := blk_cell kD 0
        have cD1 : w41.cell? ⟨bD, 1, none⟩ = some (.int .i64 0) := blk_cell kD 1
        have cD2 : w41.cell? ⟨bD, 2, none⟩ = some (.slice none 0 0) := blk_cell kD 2
        have hlT : bT < w41.heap.size := blk_lt kT
        have cT0 : w41.cell? ⟨bT, 0, none⟩ = some (.int .i64 (tW s W H : Int)) := blk_cell kT 0
        have cT1 : w41.cell? ⟨bT, 1, none⟩ = some (.int .i64 (tW s H W : Int)) := blk_cell kT 1
        have cT2 : w41.cell? ⟨bT, 2, none⟩ = some (.slice aT M cT) := blk_cell kT 2
        have HA := hide (put3 kT (.int .i64 (tW s3 W H : Int)) (.int .i64 (tW s3 H W : Int)) (.slice x3 M y3) (unhide HB) (by omega))
        have fzT0 := blk_frozen kT 0
        have fzT1 := blk_frozen kT 1
        have fzT2 := blk_frozen kT 2
        go_wp2
        clear cp0 cp1 cp2 cF0 cF1 cF2 cQ0 cQ1 cQ2 cG0 cG1 cG2 cD0 cD1 cD2 cT0 cT1 cT2 hlp hlF hlQ hlG hlD hlT
        generalize ((w41.setCell ⟨bT, 0, none⟩ (.int .i64 (tW s3 W H : Int))).setCell ⟨bT, 1, none⟩ (.int .i64 (tW s3 H W : Int))).setCell ⟨bT, 2, none⟩ (.slice x3 M y3) = w42 at *
        obtain ⟨hsA, kN, hoA, hbA, hpA⟩ := unhide HA
        have kp := (hoA (B) (by have := blk_lt kp; omega)).trans kp
        have kF := (hoA (bF) (by have := blk_lt kF; omega)).trans kF
        have kQ := (hoA (bQ) (by have := blk_lt kQ; omega)).trans kQ
        have kG := (hoA (bG) (by have := blk_lt kG; omega)).trans kG
        have kD := (hoA (bD) (by have := blk_lt kD; omega)).trans kD
        have HXp := hide (hpA _ _ _ (unhide HXp))
        have HXf := hide (hpA _ _ _ (unhide HXf))
        have HXt := hide (hpA _ _ _ (unhide HXt))
        have HXh := hide (hpA _ _ _ (unhide HXh))
        have HXu3 := hide (hpA _ _ _ (unhide HXu3))
        have HSe : Hid (Sent w42 A) := (unhide HS0w).below (by rw [← unhide HBE]; exact hbA)
        go_roundw
        case rel => exact ⟨kz - 4 + 1, s3, x3, y3, by go_num, by omega, by omega, h34, HZ2, HXu3, HXp, HXf, HXt, HXh, hbA, HSe, kp, kF, kQ, kG, kD, kN⟩
        case measure =>
          exact kMs_pos kz (by omega) (by omega)
      · have dk : decide (kz > 0) = false := decide_eq_false hpos
        rw [if_neg hpos] at HZ2
        have dk2 : decide (0 < kz) = false := dk
        have hlp : B < wr.heap.size := blk_lt kp
        have cp0 : wr.cell? ⟨B, 0, none⟩ = some (.int .i64 (W : Int)) := blk_cell kp 0
        have cp1 : wr.cell? ⟨B, 1, none⟩ = some (.int .i64 (H : Int)) := blk_cell kp 1
        have cp2 : wr.cell? ⟨B, 2, none⟩ = some (.slice a M c) := blk_cell kp 2
        have hlF : bF < wr.heap.size := blk_lt kF
        have cF0 : wr.cell? ⟨bF, 0, none⟩ = some (.int .i64 (W : Int)) := blk_cell kF 0
        have cF1 : wr.cell? ⟨bF, 1, none⟩ = some (.int .i64 (H : Int)) := blk_cell kF 1
        have cF2 : wr.cell? ⟨bF, 2, none⟩ = some (.slice a1 M c1) := blk_cell kF 2
        have hlQ : bQ < wr.heap.size := blk_lt kQ
        have cQ0 : wr.cell? ⟨bQ, 0, none⟩ = some (.int .i64 (tW k W H : Int)) := blk_cell kQ 0
        have cQ1 : wr.cell? ⟨bQ, 1, none⟩ = some (.int .i64 (tW k H W : Int)) := blk_cell kQ 1
        have cQ2 : wr.cell? ⟨bQ, 2, none⟩ = some (.slice a2 M c2) := blk_cell kQ 2
        have hlG : bG < wr.heap.size := blk_lt kG
        have cG0 : wr.cell? ⟨bG, 0, none⟩ = some (.int .i64 (W2 : Int)) := blk_cell kG 0
        have cG1 : wr.cell? ⟨bG, 1, none⟩ = some (.int .i64 (H2 : Int)) := blk_cell kG 1
        have cG2 : wr.cell? ⟨bG, 2, none⟩ = some (.slice a3 M2 c3) := blk_cell kG 2
        have hlD : bD < wr.heap.size := blk_lt kD
        have cD0 : wr.cell? ⟨bD, 0, none⟩ = some (.int .i64 0) := blk_cell kD 0
        have cD1 : wr.cell? ⟨bD, 1, none⟩ = some (.int .i64 0) := blk_cell kD 1
        have cD2 : wr.cell? ⟨bD, 2, none⟩ = some (.slice none 0 0) := blk_cell kD 2
        have hlT : bT < wr.heap.size := blk_lt kT
        have cT0 : wr.cell? ⟨bT, 0, none⟩ = some (.int .i64 (tW s W H : Int)) := blk_cell kT 0
        have cT1 : wr.cell? ⟨bT, 1, none⟩ = some (.int .i64 (tW s H W : Int)) := blk_cell kT 1
        have cT2 : wr.cell? ⟨bT, 2, none⟩ = some (.slice aT M cT) := blk_cell kT 2
        go_wp2_with fail
        clear cp0 cp1 cp2 cF0 cF1 cF2 cQ0 cQ1 cQ2 cG0 cG1 cG2 cD0 cD1 cD2 cT0 cT1 cT2 hlp hlF hlQ hlG hlD hlT
        refine (unhide HQ1 wr _ _ (unhide HXT)).mono ?_
        rintro e w39 ⟨x1, y1, rfl, hpx, hbN⟩
        have hsz := hbN.size
        have kp := blk_below kp hbN (blk_lt kp)
        have kF := blk_below kF hbN (blk_lt kF)
        have kQ := blk_below kQ hbN (blk_lt kQ)
        have kG := blk_below kG hbN (blk_lt kG)
        have kD := blk_below kD hbN (blk_lt kD)
        have kT := blk_below kT hbN (blk_lt kT)
        have HXp := hide ((unhide HXp).below hbN)
        have HXf := hide ((unhide HXf).below hbN)
        have HXt := hide ((unhide HXt).below hbN)
        have HXh := hide ((unhide HXh).below hbN)
        have HXT := hide ((unhide HXT).below hbN)
        have HSe := hide ((unhide HSe).below hbN)
        have HB := hide ((unhide HB).trans (hbN.mono (by omega)))
        have hs : B + 1 ≤ w39.heap.size := by omega
        clear hbN hsz
        have HXu1 := hide hpx
        clear hpx
        have hlp : B < w39.heap.size := blk_lt kp
        have cp0 : w39.cell? ⟨B, 0, none⟩ = some (.int .i64 (W : Int)) := blk_cell kp 0
        have cp1 : w39.cell? ⟨B, 1, none⟩ = some (.int .i64 (H : Int)) := blk_cell kp 1
        have cp2 : w39.cell? ⟨B, 2, none⟩ = some (.slice a M c) := blk_cell kp 2
        have hlF : bF < w39.heap.size := blk_lt kF
        have cF0 : w39.cell? ⟨bF, 0, none⟩ = some (.int .i64 (W : Int)) := blk_cell kF 0
        have cF1 : w39.cell? ⟨bF, 1, none⟩ = some (.int .i64 (H : Int)) := blk_cell kF 1
        have cF2 : w39.cell? ⟨bF, 2, none⟩ = some (.slice a1 M c1) := blk_cell kF 2
        have hlQ : bQ < w39.heap.size := blk_lt kQ
        have cQ0 : w39.cell? ⟨bQ, 0, none⟩ = some (.int .i64 (tW k W H : Int)) := blk_cell kQ 0
        have cQ1 : w39.cell? ⟨bQ, 1, none⟩ = some (.int .i64 (tW k H W : Int)) := blk_cell kQ 1
        have cQ2 : w39.cell? ⟨bQ, 2, none⟩ = some (.slice a2 M c2) := blk_cell kQ 2
        have hlG : bG < w39.heap.size := blk_lt kG
        have cG0 : w39.cell? ⟨bG, 0, none⟩ = some (.int .i64 (W2 : Int)) := blk_cell kG 0
        have cG1 : w39.cell? ⟨bG, 1, none⟩ = some (.int .i64 (H2 : Int)) := blk_cell kG 1
        have cG2 : w39.cell? ⟨bG, 2, none⟩ = some (.slice a3 M2 c3) := blk_cell kG 2
        have hlD : bD < w39.heap.size := blk_lt kD
        have cD0 : w39.cell? ⟨bD, 0, none⟩ = some (.int .i64 0) := blk_cell kD 0
        have cD1 : w39.cell? ⟨bD, 1, none⟩ = some (.int .i64 0) := blk_cell kD 1
        have cD2 : w39.cell? ⟨bD, 2, none⟩ = some (.slice none 0 0) := blk_cell kD 2
        have hlT : bT < w39.heap.size := blk_lt kT
        have cT0 : w39.cell? ⟨bT, 0, none⟩ = some (.int .i64 (tW s W H : Int)) := blk_cell kT 0
        have cT1 : w39.cell? ⟨bT, 1, none⟩ = some (.int .i64 (tW s H W : Int)) := blk_cell kT 1
        have cT2 : w39.cell? ⟨bT, 2, none⟩ = some (.slice aT M cT) := blk_cell kT 2
        go_wp2_with fail
        clear cp0 cp1 cp2 cF0 cF1 cF2 cQ0 cQ1 cQ2 cG0 cG1 cG2 cD0 cD1 cD2 cT0 cT1 cT2 hlp hlF hlQ hlG hlD hlT
        refine (unhide HQ2 w39 _ _ (unhide HXu1)).mono ?_
        rintro e w40 ⟨x2, y2, rfl, hpx, hbN⟩
        have hsz := hbN.size
        have kp := blk_below kp hbN (blk_lt kp)
        have kF := blk_below kF hbN (blk_lt kF)
        have kQ := blk_below kQ hbN (blk_lt kQ)
        have kG := blk_below kG hbN (blk_lt kG)
        have kD := blk_below kD hbN (blk_lt kD)
        have kT := blk_below kT hbN (blk_lt kT)
        have HXp := hide ((unhide HXp).below hbN)
        have HXf := hide ((unhide HXf).below hbN)
        have HXt := hide ((unhide HXt).below hbN)
        have HXh := hide ((unhide HXh).below hbN)
        have HXT := hide ((unhide HXT).below hbN)
        have HXu1 := hide ((unhide HXu1).below hbN)
        have HSe := hide ((unhide HSe).below hbN)
        have HB := hide ((unhide HB).trans (hbN.mono (by omega)))
        have hs : B + 1 ≤ w40.heap.size := by omega
        clear hbN hsz
        have HXu2 := hide hpx
        clear hpx
        have hlp : B < w40.heap.size := blk_lt kp
        have cp0 : w40.cell? ⟨B, 0, none⟩ = some (.int .i64 (W : Int)) := blk_cell kp 0
        have cp1 : w40.cell? ⟨B, 1, none⟩ = some (.int .i64 (H : Int)) := blk_cell kp 1
        have cp2 : w40.cell? ⟨B, 2, none⟩ = some (.slice a M c) := blk_cell kp 2
        have hlF : bF < w40.heap.size := blk_lt kF
        have cF0 : w40.cell? ⟨bF, 0, none⟩ = some (.int .i64 (W : Int)) := blk_cell kF 0
        have cF1 : w40.cell? ⟨bF, 1, none⟩ = some (.int .i64 (H : Int)) := blk_cell kF 1
        have cF2 : w40.cell? ⟨bF, 2, none⟩ = some (.slice a1 M c1) := blk_cell kF 2
        have hlQ : bQ < w40.heap.size := blk_lt kQ
        have cQ0 : w40.cell? ⟨bQ, 0, none⟩ = some (.int .i64 (tW k W H : Int)) := blk_cell kQ 0
        have cQ1 : w40.cell? ⟨bQ, 1, none⟩ = some (.int .i64 (tW k H W : Int)) := blk_cell kQ 1
        have cQ2 : w40.cell? ⟨bQ, 2, none⟩ = some (.slice a2 M c2) := blk_cell kQ 2
        have hlG : bG < w40.heap.size := blk_lt kG
        have cG0 : w40.cell? ⟨bG, 0, none⟩ = some (.int .i64 (W2 : Int)) := blk_cell kG 0
        have cG1 : w40.cell? ⟨bG, 1, none⟩ = some (.int .i64 (H2 : Int)) := blk_cell kG 1
        have cG2 : w40.cell? ⟨bG, 2, none⟩ = some (.slice a3 M2 c3) := blk_cell kG 2
        have hlD : bD < w40.heap.size := blk_lt kD
        have cD0 : w40.cell? ⟨bD, 0, none⟩ = some (.int .i64 0) := blk_cell kD 0
        have cD1 : w40.cell? ⟨bD, 1, none⟩ = some (.int .i64 0) := blk_cell kD 1
        have cD2 : w40.cell? ⟨bD, 2, none⟩ = some (.slice none 0 0) := blk_cell kD 2
        have hlT : bT < w40.heap.size := blk_lt kT
        have cT0 : w40.cell? ⟨bT, 0, none⟩ = some (.int .i64 (tW s W H : Int)) := blk_cell kT 0
        have cT1 : w40.cell? ⟨bT, 1, none⟩ = some (.int .i64 (tW s H W : Int)) := blk_cell kT 1
        have cT2 : w40.cell? ⟨bT, 2, none⟩ = some (.slice aT M cT) := blk_cell kT 2
        go_wp2_with fail
        clear cp0 cp1 cp2 cF0 cF1 cF2 cQ0 cQ1 cQ2 cG0 cG1 cG2 cD0 cD1 cD2 cT0 cT1 cT2 hlp hlF hlQ hlG hlD hlT
        refine (unhide HQ3 w40 _ _ (unhide HXu2)).mono ?_
        rintro e w41 ⟨x3, y3, rfl, hpx, hbN⟩
        have hsz := hbN.size
        have kp := blk_below kp hbN (blk_lt kp)
        have kF := blk_below kF hbN (blk_lt kF)
        have kQ := blk_below kQ hbN (blk_lt kQ)
        have kG := blk_below kG hbN (blk_lt kG)
        have kD := blk_below kD hbN (blk_lt kD)
        have kT := blk_below kT hbN (blk_lt kT)
        have HXp := hide ((unhide HXp).below hbN)
        have HXf := hide ((unhide HXf).below hbN)
        have HXt := hide ((unhide HXt).below hbN)
        have HXh := hide ((unhide HXh).below hbN)
        have HXT := hide ((unhide HXT).below hbN)
        have HXu1 := hide ((unhide HXu1).below hbN)
        have HXu2 := hide ((unhide HXu2).below hbN)
        have HSe := hide ((unhide HSe).below hbN)
        have HB := hide ((unhide HB).trans (hbN.mono (by omega)))
        have hs : B + 1 ≤ w41.heap.size := by omega
        clear hbN hsz
        have HXu3 := hide hpx
        clear hpx
        have hlp : B < w41.heap.size := blk_lt kp
        have cp0 : w41.cell? ⟨B, 0, none⟩ = some (.int .i64 (W : Int)) := blk_cell kp 0
        have cp1 : w41.cell? ⟨B, 1, none⟩ = some (.int .i64 (H : Int)) := blk_cell kp 1
        have cp2 : w41.cell? ⟨B, 2, none⟩ = some (.slice a M c) := blk_cell kp 2
        have hlF : bF < w41.heap.size := blk_lt kF
        have cF0 : w41.cell? ⟨bF, 0, none⟩ = some (.int .i64 (W : Int)) := blk_cell kF 0
        have cF1 : w41.cell? ⟨bF, 1, none⟩ = some (.int .i64 (H : Int)) := blk_cell kF 1
        have cF2 : w41.cell? ⟨bF, 2, none⟩ = some (.slice a1 M c1) := blk_cell kF 2
        have hlQ : bQ < w41.heap.size := blk_lt kQ
        have cQ0 : w41.cell? ⟨bQ, 0, none⟩ = some (.int .i64 (tW k W H : Int)) := blk_cell kQ 0
        have cQ1 : w41.cell? ⟨bQ, 1, none⟩ = some (.int .i64 (tW k H W : Int)) := blk_cell kQ 1
        have cQ2 : w41.cell? ⟨bQ, 2, none⟩ = some (.slice a2 M c2) := blk_cell kQ 2
        have hlG : bG < w41.heap.size := blk_lt kG
        have cG0 : w41.cell? ⟨bG, 0, none⟩ = some (.int .i64 (W2 : Int)) := blk_cell kG 0
        have cG1 : w41.cell? ⟨bG, 1, none⟩ = some (.int .i64 (H2 : Int)) := blk_cell kG 1
        have cG2 : w41.cell? ⟨bG, 2, none⟩ = some (.slice a3 M2 c3) := blk_cell kG 2
        have hlD : bD < w41.heap.size := blk_lt kD
        have cD0 : w41.cell? ⟨bD, 0, none⟩ = some (.int .i64 0) := blk_cell kD 0
        have cD1 : w41.cell? ⟨bD, 1, none⟩ = some (.int .i64 0) := blk_cell kD 1
        have cD2 : w41.cell? ⟨bD, 2, none⟩ = some (.slice none 0 0) := blk_cell kD 2
        have hlT : bT < w41.heap.size := blk_lt kT
        have cT0 : w41.cell? ⟨bT, 0, none⟩ = some (.int .i64 (tW s W H : Int)) := blk_cell kT 0
        have cT1 : w41.cell? ⟨bT, 1, none⟩ = some (.int .i64 (tW s H W : Int)) := blk_cell kT 1
        have cT2 : w41.cell? ⟨bT, 2, none⟩ = some (.slice aT M cT) := blk_cell kT 2
        have HA := hide (put3 kT (.int .i64 (tW s3 W H : Int)) (.int .i64 (tW s3 H W : Int)) (.slice x3 M y3) (unhide HB) (by omega))
        have fzT0 := blk_frozen kT 0
        have fzT1 := blk_frozen kT 1
        have fzT2 := blk_frozen kT 2
        go_wp2
        clear cp0 cp1 cp2 cF0 cF1 cF2 cQ0 cQ1 cQ2 cG0 cG1 cG2 cD0 cD1 cD2 cT0 cT1 cT2 hlp hlF hlQ hlG hlD hlT
        generalize ((w41.setCell ⟨bT, 0, none⟩ (.int .i64 (tW s3 W H : Int))).setCell ⟨bT, 1, none⟩ (.int .i64 (tW s3 H W : Int))).setCell ⟨bT, 2, none⟩ (.slice x3 M y3) = w42 at *
        obtain ⟨hsA, kN, hoA, hbA, hpA⟩ := unhide HA
        have kp := (hoA (B) (by have := blk_lt kp; omega)).trans kp
        have kF := (hoA (bF) (by have := blk_lt kF; omega)).trans kF
        have kQ := (hoA (bQ) (by have := blk_lt kQ; omega)).trans kQ
        have kG := (hoA (bG) (by have := blk_lt kG; omega)).trans kG
        have kD := (hoA (bD) (by have := blk_lt kD; omega)).trans kD
        have HXp := hide (hpA _ _ _ (unhide HXp))
        have HXf := hide (hpA _ _ _ (unhide HXf))
        have HXt := hide (hpA _ _ _ (unhide HXt))
        have HXh := hide (hpA _ _ _ (unhide HXh))
        have HXu3 := hide (hpA _ _ _ (unhide HXu3))
        have HSe : Hid (Sent w42 A) := (unhide HS0w).below (by rw [← unhide HBE]; exact hbA)
        go_roundw
        case rel => exact ⟨kz + 1, s3, x3, y3, by go_num, by omega, by omega, h34, HZ2, HXu3, HXp, HXf, HXt, HXh, hbA, HSe, kp, kF, kQ, kG, kD, kN⟩
        case measure =>
          exact kMs_neg kz (by omega)
end Go.Proofs.YtjchafbihfblnahDoor
