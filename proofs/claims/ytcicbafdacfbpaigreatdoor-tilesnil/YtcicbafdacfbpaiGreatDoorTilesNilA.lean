/- The statement on grids that are nil: the walk, way by way. Written by gentn.py. -/
import Derived.Test.YtcicbafdacfbpaiGreatDoorMg11
namespace Go.Proofs.YtcicbafdacfbpaiGreatDoor
open Go.RowKit

set_option maxHeartbeats 4000000 in
set_option maxRecDepth 100000 in
theorem tilesNil_many1 (W H : Int) (a : Option Addr) (n c : Nat) (p : Nat → Px) (V U : Int) (b : Option Addr) (m d : Nat) (s : Nat → Px) (w : World) (A : Nat → Addr) (hS : Sent w A) (hP : IsPx w a n p) (hQ : IsPx w b m s) (hn3 : ¬ n ≤ 3000) :
    Calls Tryz.prog 6 #[.agg #[.int .i64 W, .int .i64 H, .slice a n c], .agg #[.int .i64 V, .int .i64 U, .slice b m d]] w fun e w' => e = .returned (.bool true) ∧ Below w.heap.size w w' := by
  have HOn := hide one3_any
  have HSM := hide (fun w => small3_any W H a n c w)
  rw [decide_eq_false hn3] at HSM
  have HX := hide hP
  have HY := hide hQ
  have HS0 := hide hS
  clear hn3 hP hQ hS
  have HA := hide (al2 w (.cells #[.int .i64 W, .int .i64 H, .slice a n c] 24) (.cells #[.int .i64 V, .int .i64 U, .slice b m d] 24))
  obtain ⟨B, hB⟩ : ∃ B, B = w.heap.size := ⟨_, rfl⟩
  go_enter Tryz.func6, Tryz.ntmps6
  go_wp2_with fail
  generalize ((w.alloc (.cells #[.int .i64 W, .int .i64 H, .slice a n c] 24)).alloc (.cells #[.int .i64 V, .int .i64 U, .slice b m d] 24)) = w1 at *
  rw [← hB] at HA ⊢
  obtain ⟨hs1, kp, kq, hb1⟩ := unhide HA
  have HBE := hide hB
  clear HA hB
  have hs : B + 2 ≤ w1.heap.size := by omega
  have HB := hide hb1
  clear hs1 hb1
  have HXp := hide ((unhide HX).under (unhide HB) (fun x hx h0 => by rw [unhide HBE]; exact (unhide HX).lt x hx h0))
  have HXq := hide ((unhide HY).under (unhide HB) (fun x hx h0 => by rw [unhide HBE]; exact (unhide HY).lt x hx h0))
  have HSe := hide ((unhide HS0).below (by rw [← unhide HBE]; exact unhide HB))
  clear HX HY HS0
  refine (unhide HOn _).mono ?_
  rintro e w2 ⟨rfl, hbN⟩
  have hsz := hbN.size
  have kp := blk_below kp hbN (blk_lt kp)
  have kq := blk_below kq hbN (blk_lt kq)
  have HXp := hide ((unhide HXp).below hbN)
  have HXq := hide ((unhide HXq).below hbN)
  have HSe := hide ((unhide HSe).below hbN)
  have HB := hide ((unhide HB).trans (hbN.mono (by omega)))
  have hs : B + 2 ≤ w2.heap.size := by omega
  clear hbN hsz
  have hlp : B < w2.heap.size := blk_lt kp
  have cp0 : w2.cell? ⟨B, 0, none⟩ = some (.int .i64 W) := blk_cell kp 0
  have cp1 : w2.cell? ⟨B, 1, none⟩ = some (.int .i64 H) := blk_cell kp 1
  have cp2 : w2.cell? ⟨B, 2, none⟩ = some (.slice a n c) := blk_cell kp 2
  have hlq : B + 1 < w2.heap.size := blk_lt kq
  have cq0 : w2.cell? ⟨B + 1, 0, none⟩ = some (.int .i64 V) := blk_cell kq 0
  have cq1 : w2.cell? ⟨B + 1, 1, none⟩ = some (.int .i64 U) := blk_cell kq 1
  have cq2 : w2.cell? ⟨B + 1, 2, none⟩ = some (.slice b m d) := blk_cell kq 2
  go_wp2_with fail
  clear cp0 cp1 cp2 cq0 cq1 cq2 hlp hlq
  refine (unhide HSM _).mono ?_
  rintro e w3 ⟨rfl, hbN⟩
  have hsz := hbN.size
  have kp := blk_below kp hbN (blk_lt kp)
  have kq := blk_below kq hbN (blk_lt kq)
  have HXp := hide ((unhide HXp).below hbN)
  have HXq := hide ((unhide HXq).below hbN)
  have HSe := hide ((unhide HSe).below hbN)
  have HB := hide ((unhide HB).trans (hbN.mono (by omega)))
  have hs : B + 2 ≤ w3.heap.size := by omega
  clear hbN hsz
  have hlp : B < w3.heap.size := blk_lt kp
  have cp0 : w3.cell? ⟨B, 0, none⟩ = some (.int .i64 W) := blk_cell kp 0
  have cp1 : w3.cell? ⟨B, 1, none⟩ = some (.int .i64 H) := blk_cell kp 1
  have cp2 : w3.cell? ⟨B, 2, none⟩ = some (.slice a n c) := blk_cell kp 2
  have hlq : B + 1 < w3.heap.size := blk_lt kq
  have cq0 : w3.cell? ⟨B + 1, 0, none⟩ = some (.int .i64 V) := blk_cell kq 0
  have cq1 : w3.cell? ⟨B + 1, 1, none⟩ = some (.int .i64 U) := blk_cell kq 1
  have cq2 : w3.cell? ⟨B + 1, 2, none⟩ = some (.slice b m d) := blk_cell kq 2
  go_wp2
  clear cp0 cp1 cp2 cq0 cq1 cq2 hlp hlq
  go_ret
  exact ⟨rfl, by rw [← unhide HBE]; exact unhide HB⟩
set_option maxHeartbeats 4000000 in
set_option maxRecDepth 100000 in
theorem tilesNil_many2 (W H : Int) (a : Option Addr) (n c : Nat) (p : Nat → Px) (V U : Int) (b : Option Addr) (m d : Nat) (s : Nat → Px) (w : World) (A : Nat → Addr) (hS : Sent w A) (hP : IsPx w a n p) (hQ : IsPx w b m s) (hn3 : n ≤ 3000) (hm3 : ¬ m ≤ 3000) :
    Calls Tryz.prog 6 #[.agg #[.int .i64 W, .int .i64 H, .slice a n c], .agg #[.int .i64 V, .int .i64 U, .slice b m d]] w fun e w' => e = .returned (.bool true) ∧ Below w.heap.size w w' := by
  have HOn := hide one3_any
  have HSM := hide (fun w => small3_any W H a n c w)
  rw [decide_eq_true hn3] at HSM
  have HX := hide hP
  have HY := hide hQ
  have HS0 := hide hS
  have HSQ := hide (fun w => small3_any V U b m d w)
  rw [decide_eq_false hm3] at HSQ
  clear hn3 hP hQ hS hm3
  have HA := hide (al2 w (.cells #[.int .i64 W, .int .i64 H, .slice a n c] 24) (.cells #[.int .i64 V, .int .i64 U, .slice b m d] 24))
  obtain ⟨B, hB⟩ : ∃ B, B = w.heap.size := ⟨_, rfl⟩
  go_enter Tryz.func6, Tryz.ntmps6
  go_wp2_with fail
  generalize ((w.alloc (.cells #[.int .i64 W, .int .i64 H, .slice a n c] 24)).alloc (.cells #[.int .i64 V, .int .i64 U, .slice b m d] 24)) = w1 at *
  rw [← hB] at HA ⊢
  obtain ⟨hs1, kp, kq, hb1⟩ := unhide HA
  have HBE := hide hB
  clear HA hB
  have hs : B + 2 ≤ w1.heap.size := by omega
  have HB := hide hb1
  clear hs1 hb1
  have HXp := hide ((unhide HX).under (unhide HB) (fun x hx h0 => by rw [unhide HBE]; exact (unhide HX).lt x hx h0))
  have HXq := hide ((unhide HY).under (unhide HB) (fun x hx h0 => by rw [unhide HBE]; exact (unhide HY).lt x hx h0))
  have HSe := hide ((unhide HS0).below (by rw [← unhide HBE]; exact unhide HB))
  clear HX HY HS0
  refine (unhide HOn _).mono ?_
  rintro e w2 ⟨rfl, hbN⟩
  have hsz := hbN.size
  have kp := blk_below kp hbN (blk_lt kp)
  have kq := blk_below kq hbN (blk_lt kq)
  have HXp := hide ((unhide HXp).below hbN)
  have HXq := hide ((unhide HXq).below hbN)
  have HSe := hide ((unhide HSe).below hbN)
  have HB := hide ((unhide HB).trans (hbN.mono (by omega)))
  have hs : B + 2 ≤ w2.heap.size := by omega
  clear hbN hsz
  have hlp : B < w2.heap.size := blk_lt kp
  have cp0 : w2.cell? ⟨B, 0, none⟩ = some (.int .i64 W) := blk_cell kp 0
  have cp1 : w2.cell? ⟨B, 1, none⟩ = some (.int .i64 H) := blk_cell kp 1
  have cp2 : w2.cell? ⟨B, 2, none⟩ = some (.slice a n c) := blk_cell kp 2
  have hlq : B + 1 < w2.heap.size := blk_lt kq
  have cq0 : w2.cell? ⟨B + 1, 0, none⟩ = some (.int .i64 V) := blk_cell kq 0
  have cq1 : w2.cell? ⟨B + 1, 1, none⟩ = some (.int .i64 U) := blk_cell kq 1
  have cq2 : w2.cell? ⟨B + 1, 2, none⟩ = some (.slice b m d) := blk_cell kq 2
  go_wp2_with fail
  clear cp0 cp1 cp2 cq0 cq1 cq2 hlp hlq
  refine (unhide HSM _).mono ?_
  rintro e w3 ⟨rfl, hbN⟩
  have hsz := hbN.size
  have kp := blk_below kp hbN (blk_lt kp)
  have kq := blk_below kq hbN (blk_lt kq)
  have HXp := hide ((unhide HXp).below hbN)
  have HXq := hide ((unhide HXq).below hbN)
  have HSe := hide ((unhide HSe).below hbN)
  have HB := hide ((unhide HB).trans (hbN.mono (by omega)))
  have hs : B + 2 ≤ w3.heap.size := by omega
  clear hbN hsz
  have hlp : B < w3.heap.size := blk_lt kp
  have cp0 : w3.cell? ⟨B, 0, none⟩ = some (.int .i64 W) := blk_cell kp 0
  have cp1 : w3.cell? ⟨B, 1, none⟩ = some (.int .i64 H) := blk_cell kp 1
  have cp2 : w3.cell? ⟨B, 2, none⟩ = some (.slice a n c) := blk_cell kp 2
  have hlq : B + 1 < w3.heap.size := blk_lt kq
  have cq0 : w3.cell? ⟨B + 1, 0, none⟩ = some (.int .i64 V) := blk_cell kq 0
  have cq1 : w3.cell? ⟨B + 1, 1, none⟩ = some (.int .i64 U) := blk_cell kq 1
  have cq2 : w3.cell? ⟨B + 1, 2, none⟩ = some (.slice b m d) := blk_cell kq 2
  go_wp2_with fail
  clear cp0 cp1 cp2 cq0 cq1 cq2 hlp hlq
  refine (unhide HSQ _).mono ?_
  rintro e w4 ⟨rfl, hbN⟩
  have hsz := hbN.size
  have kp := blk_below kp hbN (blk_lt kp)
  have kq := blk_below kq hbN (blk_lt kq)
  have HXp := hide ((unhide HXp).below hbN)
  have HXq := hide ((unhide HXq).below hbN)
  have HSe := hide ((unhide HSe).below hbN)
  have HB := hide ((unhide HB).trans (hbN.mono (by omega)))
  have hs : B + 2 ≤ w4.heap.size := by omega
  clear hbN hsz
  have hlp : B < w4.heap.size := blk_lt kp
  have cp0 : w4.cell? ⟨B, 0, none⟩ = some (.int .i64 W) := blk_cell kp 0
  have cp1 : w4.cell? ⟨B, 1, none⟩ = some (.int .i64 H) := blk_cell kp 1
  have cp2 : w4.cell? ⟨B, 2, none⟩ = some (.slice a n c) := blk_cell kp 2
  have hlq : B + 1 < w4.heap.size := blk_lt kq
  have cq0 : w4.cell? ⟨B + 1, 0, none⟩ = some (.int .i64 V) := blk_cell kq 0
  have cq1 : w4.cell? ⟨B + 1, 1, none⟩ = some (.int .i64 U) := blk_cell kq 1
  have cq2 : w4.cell? ⟨B + 1, 2, none⟩ = some (.slice b m d) := blk_cell kq 2
  go_wp2
  clear cp0 cp1 cp2 cq0 cq1 cq2 hlp hlq
  go_ret
  exact ⟨rfl, by rw [← unhide HBE]; exact unhide HB⟩
set_option maxHeartbeats 4000000 in
set_option maxRecDepth 100000 in
theorem tilesNil_s1s2 (W H : Int) (a : Option Addr) (n c : Nat) (p : Nat → Px) (V U : Int) (b : Option Addr) (m d : Nat) (s : Nat → Px) (w : World) (A : Nat → Addr) (hS : Sent w A) (hP : IsPx w a n p) (hQ : IsPx w b m s) (hn3 : n ≤ 3000) (hm3 : m ≤ 3000) (hR : ¬ RightP W H n) (hR2 : ¬ RightP V U m) :
    Calls Tryz.prog 6 #[.agg #[.int .i64 W, .int .i64 H, .slice a n c], .agg #[.int .i64 V, .int .i64 U, .slice b m d]] w fun e w' => e = .returned (.bool true) ∧ Below w.heap.size w w' := by
  have HOn := hide one3_any
  have HSM := hide (fun w => small3_any W H a n c w)
  rw [decide_eq_true hn3] at HSM
  have HX := hide hP
  have HY := hide hQ
  have HS0 := hide hS
  have HSQ := hide (fun w => small3_any V U b m d w)
  rw [decide_eq_true hm3] at HSQ
  have HO := hide (fun w (h : IsPx w a n p) => ownC_any W H a n c p w h (by omega))
  have HO2 := hide (fun w (h : IsPx w b m s) => ownC_any V U b m d s w h (by omega))
  have HF := hide (fun w a c (h : Sent w A) => of_shape W H a n c w _ _ (h.cell 2 (by omega)) hR)
  have HF2 := hide (fun w a c (h : Sent w A) => of_shape V U a m c w _ _ (h.cell 2 (by omega)) hR2)
  clear hn3 hP hQ hS hm3 hR hR2
  have HA := hide (al2 w (.cells #[.int .i64 W, .int .i64 H, .slice a n c] 24) (.cells #[.int .i64 V, .int .i64 U, .slice b m d] 24))
  obtain ⟨B, hB⟩ : ∃ B, B = w.heap.size := ⟨_, rfl⟩
  go_enter Tryz.func6, Tryz.ntmps6
  go_wp2_with fail
  generalize ((w.alloc (.cells #[.int .i64 W, .int .i64 H, .slice a n c] 24)).alloc (.cells #[.int .i64 V, .int .i64 U, .slice b m d] 24)) = w1 at *
  rw [← hB] at HA ⊢
  obtain ⟨hs1, kp, kq, hb1⟩ := unhide HA
  have HBE := hide hB
  clear HA hB
  have hs : B + 2 ≤ w1.heap.size := by omega
  have HB := hide hb1
  clear hs1 hb1
  have HXp := hide ((unhide HX).under (unhide HB) (fun x hx h0 => by rw [unhide HBE]; exact (unhide HX).lt x hx h0))
  have HXq := hide ((unhide HY).under (unhide HB) (fun x hx h0 => by rw [unhide HBE]; exact (unhide HY).lt x hx h0))
  have HSe := hide ((unhide HS0).below (by rw [← unhide HBE]; exact unhide HB))
  clear HX HY HS0
  refine (unhide HOn _).mono ?_
  rintro e w2 ⟨rfl, hbN⟩
  have hsz := hbN.size
  have kp := blk_below kp hbN (blk_lt kp)
  have kq := blk_below kq hbN (blk_lt kq)
  have HXp := hide ((unhide HXp).below hbN)
  have HXq := hide ((unhide HXq).below hbN)
  have HSe := hide ((unhide HSe).below hbN)
  have HB := hide ((unhide HB).trans (hbN.mono (by omega)))
  have hs : B + 2 ≤ w2.heap.size := by omega
  clear hbN hsz
  have hlp : B < w2.heap.size := blk_lt kp
  have cp0 : w2.cell? ⟨B, 0, none⟩ = some (.int .i64 W) := blk_cell kp 0
  have cp1 : w2.cell? ⟨B, 1, none⟩ = some (.int .i64 H) := blk_cell kp 1
  have cp2 : w2.cell? ⟨B, 2, none⟩ = some (.slice a n c) := blk_cell kp 2
  have hlq : B + 1 < w2.heap.size := blk_lt kq
  have cq0 : w2.cell? ⟨B + 1, 0, none⟩ = some (.int .i64 V) := blk_cell kq 0
  have cq1 : w2.cell? ⟨B + 1, 1, none⟩ = some (.int .i64 U) := blk_cell kq 1
  have cq2 : w2.cell? ⟨B + 1, 2, none⟩ = some (.slice b m d) := blk_cell kq 2
  go_wp2_with fail
  clear cp0 cp1 cp2 cq0 cq1 cq2 hlp hlq
  refine (unhide HSM _).mono ?_
  rintro e w3 ⟨rfl, hbN⟩
  have hsz := hbN.size
  have kp := blk_below kp hbN (blk_lt kp)
  have kq := blk_below kq hbN (blk_lt kq)
  have HXp := hide ((unhide HXp).below hbN)
  have HXq := hide ((unhide HXq).below hbN)
  have HSe := hide ((unhide HSe).below hbN)
  have HB := hide ((unhide HB).trans (hbN.mono (by omega)))
  have hs : B + 2 ≤ w3.heap.size := by omega
  clear hbN hsz
  have hlp : B < w3.heap.size := blk_lt kp
  have cp0 : w3.cell? ⟨B, 0, none⟩ = some (.int .i64 W) := blk_cell kp 0
  have cp1 : w3.cell? ⟨B, 1, none⟩ = some (.int .i64 H) := blk_cell kp 1
  have cp2 : w3.cell? ⟨B, 2, none⟩ = some (.slice a n c) := blk_cell kp 2
  have hlq : B + 1 < w3.heap.size := blk_lt kq
  have cq0 : w3.cell? ⟨B + 1, 0, none⟩ = some (.int .i64 V) := blk_cell kq 0
  have cq1 : w3.cell? ⟨B + 1, 1, none⟩ = some (.int .i64 U) := blk_cell kq 1
  have cq2 : w3.cell? ⟨B + 1, 2, none⟩ = some (.slice b m d) := blk_cell kq 2
  go_wp2_with fail
  clear cp0 cp1 cp2 cq0 cq1 cq2 hlp hlq
  refine (unhide HSQ _).mono ?_
  rintro e w4 ⟨rfl, hbN⟩
  have hsz := hbN.size
  have kp := blk_below kp hbN (blk_lt kp)
  have kq := blk_below kq hbN (blk_lt kq)
  have HXp := hide ((unhide HXp).below hbN)
  have HXq := hide ((unhide HXq).below hbN)
  have HSe := hide ((unhide HSe).below hbN)
  have HB := hide ((unhide HB).trans (hbN.mono (by omega)))
  have hs : B + 2 ≤ w4.heap.size := by omega
  clear hbN hsz
  have hlp : B < w4.heap.size := blk_lt kp
  have cp0 : w4.cell? ⟨B, 0, none⟩ = some (.int .i64 W) := blk_cell kp 0
  have cp1 : w4.cell? ⟨B, 1, none⟩ = some (.int .i64 H) := blk_cell kp 1
  have cp2 : w4.cell? ⟨B, 2, none⟩ = some (.slice a n c) := blk_cell kp 2
  have hlq : B + 1 < w4.heap.size := blk_lt kq
  have cq0 : w4.cell? ⟨B + 1, 0, none⟩ = some (.int .i64 V) := blk_cell kq 0
  have cq1 : w4.cell? ⟨B + 1, 1, none⟩ = some (.int .i64 U) := blk_cell kq 1
  have cq2 : w4.cell? ⟨B + 1, 2, none⟩ = some (.slice b m d) := blk_cell kq 2
  go_wp2_with fail
  clear cp0 cp1 cp2 cq0 cq1 cq2 hlp hlq
  refine (unhide HO w4 (unhide HXp)).mono ?_
  rintro e w5 ⟨a1, c1, rfl, hpx, hbN⟩
  have hsz := hbN.size
  have kp := blk_below kp hbN (blk_lt kp)
  have kq := blk_below kq hbN (blk_lt kq)
  have HXp := hide ((unhide HXp).below hbN)
  have HXq := hide ((unhide HXq).below hbN)
  have HSe := hide ((unhide HSe).below hbN)
  have HB := hide ((unhide HB).trans (hbN.mono (by omega)))
  have hs : B + 2 ≤ w5.heap.size := by omega
  clear hbN hsz
  have HXo := hide hpx
  clear hpx
  have hlp : B < w5.heap.size := blk_lt kp
  have cp0 : w5.cell? ⟨B, 0, none⟩ = some (.int .i64 W) := blk_cell kp 0
  have cp1 : w5.cell? ⟨B, 1, none⟩ = some (.int .i64 H) := blk_cell kp 1
  have cp2 : w5.cell? ⟨B, 2, none⟩ = some (.slice a n c) := blk_cell kp 2
  have hlq : B + 1 < w5.heap.size := blk_lt kq
  have cq0 : w5.cell? ⟨B + 1, 0, none⟩ = some (.int .i64 V) := blk_cell kq 0
  have cq1 : w5.cell? ⟨B + 1, 1, none⟩ = some (.int .i64 U) := blk_cell kq 1
  have cq2 : w5.cell? ⟨B + 1, 2, none⟩ = some (.slice b m d) := blk_cell kq 2
  go_wp2_with fail
  clear cp0 cp1 cp2 cq0 cq1 cq2 hlp hlq
  refine (unhide HF w5 _ _ (unhide HSe)).mono ?_
  rintro e w6 ⟨rfl, hbN⟩
  have hsz := hbN.size
  have kp := blk_below kp hbN (blk_lt kp)
  have kq := blk_below kq hbN (blk_lt kq)
  have HXp := hide ((unhide HXp).below hbN)
  have HXq := hide ((unhide HXq).below hbN)
  have HXo := hide ((unhide HXo).below hbN)
  have HSe := hide ((unhide HSe).below hbN)
  have HB := hide ((unhide HB).trans (hbN.mono (by omega)))
  have hs : B + 2 ≤ w6.heap.size := by omega
  clear hbN hsz
  clear HXo
  have hlp : B < w6.heap.size := blk_lt kp
  have cp0 : w6.cell? ⟨B, 0, none⟩ = some (.int .i64 W) := blk_cell kp 0
  have cp1 : w6.cell? ⟨B, 1, none⟩ = some (.int .i64 H) := blk_cell kp 1
  have cp2 : w6.cell? ⟨B, 2, none⟩ = some (.slice a n c) := blk_cell kp 2
  have hlq : B + 1 < w6.heap.size := blk_lt kq
  have cq0 : w6.cell? ⟨B + 1, 0, none⟩ = some (.int .i64 V) := blk_cell kq 0
  have cq1 : w6.cell? ⟨B + 1, 1, none⟩ = some (.int .i64 U) := blk_cell kq 1
  have cq2 : w6.cell? ⟨B + 1, 2, none⟩ = some (.slice b m d) := blk_cell kq 2
  go_wp2_with fail
  clear cp0 cp1 cp2 cq0 cq1 cq2 hlp hlq
  refine (unhide HO2 w6 (unhide HXq)).mono ?_
  rintro e w7 ⟨a2, c2, rfl, hpx, hbN⟩
  have hsz := hbN.size
  have kp := blk_below kp hbN (blk_lt kp)
  have kq := blk_below kq hbN (blk_lt kq)
  have HXp := hide ((unhide HXp).below hbN)
  have HXq := hide ((unhide HXq).below hbN)
  have HSe := hide ((unhide HSe).below hbN)
  have HB := hide ((unhide HB).trans (hbN.mono (by omega)))
  have hs : B + 2 ≤ w7.heap.size := by omega
  clear hbN hsz
  have HXo := hide hpx
  clear hpx
  have hlp : B < w7.heap.size := blk_lt kp
  have cp0 : w7.cell? ⟨B, 0, none⟩ = some (.int .i64 W) := blk_cell kp 0
  have cp1 : w7.cell? ⟨B, 1, none⟩ = some (.int .i64 H) := blk_cell kp 1
  have cp2 : w7.cell? ⟨B, 2, none⟩ = some (.slice a n c) := blk_cell kp 2
  have hlq : B + 1 < w7.heap.size := blk_lt kq
  have cq0 : w7.cell? ⟨B + 1, 0, none⟩ = some (.int .i64 V) := blk_cell kq 0
  have cq1 : w7.cell? ⟨B + 1, 1, none⟩ = some (.int .i64 U) := blk_cell kq 1
  have cq2 : w7.cell? ⟨B + 1, 2, none⟩ = some (.slice b m d) := blk_cell kq 2
  go_wp2_with fail
  clear cp0 cp1 cp2 cq0 cq1 cq2 hlp hlq
  refine (unhide HF2 w7 _ _ (unhide HSe)).mono ?_
  rintro e w8 ⟨rfl, hbN⟩
  have hsz := hbN.size
  have kp := blk_below kp hbN (blk_lt kp)
  have kq := blk_below kq hbN (blk_lt kq)
  have HXp := hide ((unhide HXp).below hbN)
  have HXq := hide ((unhide HXq).below hbN)
  have HXo := hide ((unhide HXo).below hbN)
  have HSe := hide ((unhide HSe).below hbN)
  have HB := hide ((unhide HB).trans (hbN.mono (by omega)))
  have hs : B + 2 ≤ w8.heap.size := by omega
  clear hbN hsz
  clear HXo
  have hlp : B < w8.heap.size := blk_lt kp
  have cp0 : w8.cell? ⟨B, 0, none⟩ = some (.int .i64 W) := blk_cell kp 0
  have cp1 : w8.cell? ⟨B, 1, none⟩ = some (.int .i64 H) := blk_cell kp 1
  have cp2 : w8.cell? ⟨B, 2, none⟩ = some (.slice a n c) := blk_cell kp 2
  have hlq : B + 1 < w8.heap.size := blk_lt kq
  have cq0 : w8.cell? ⟨B + 1, 0, none⟩ = some (.int .i64 V) := blk_cell kq 0
  have cq1 : w8.cell? ⟨B + 1, 1, none⟩ = some (.int .i64 U) := blk_cell kq 1
  have cq2 : w8.cell? ⟨B + 1, 2, none⟩ = some (.slice b m d) := blk_cell kq 2
  go_wp2
  clear cp0 cp1 cp2 cq0 cq1 cq2 hlp hlq
  go_ret
  exact ⟨rfl, by rw [← unhide HBE]; exact unhide HB⟩
set_option maxHeartbeats 4000000 in
set_option maxRecDepth 100000 in
theorem tilesNil_s1q (W H : Int) (a : Option Addr) (n c : Nat) (p : Nat → Px) (V U : Nat) (b : Option Addr) (m d : Nat) (s : Nat → Px) (w : World) (A : Nat → Addr) (hS : Sent w A) (hP : IsPx w a n p) (hQ : IsPx w b m s) (hn3 : n ≤ 3000) (hm3 : m ≤ 3000) (hR : ¬ RightP W H n) (hV0 : 1 ≤ V) (hV : V ≤ 256) (hU0 : 1 ≤ U) (hU : U ≤ 256) (hm : m = V * U) :
    Calls Tryz.prog 6 #[.agg #[.int .i64 W, .int .i64 H, .slice a n c], .agg #[.int .i64 (V : Int), .int .i64 (U : Int), .slice b m d]] w fun e w' => e = .returned (.bool true) ∧ Below w.heap.size w w' := by
  have HOn := hide one3_any
  have HSM := hide (fun w => small3_any W H a n c w)
  rw [decide_eq_true hn3] at HSM
  have HX := hide hP
  have HY := hide hQ
  have HS0 := hide hS
  have HSQ := hide (fun w => small3_any (V : Int) (U : Int) b m d w)
  rw [decide_eq_true hm3] at HSQ
  have HO := hide (fun w (h : IsPx w a n p) => ownC_any W H a n c p w h (by omega))
  have HO2 := hide (fun w (h : IsPx w b m s) => ownC_any (V : Int) (U : Int) b m d s w h (by omega))
  have HF := hide (fun w a c (h : Sent w A) => of_shape W H a n c w _ _ (h.cell 2 (by omega)) hR)
  have HF2 := hide (fun w a c (h : IsPxC w a m c s) => ofP_any V U a m c s w h hV0 hV hU0 hU hm)
  clear hn3 hP hQ hS hm3 hR hV0 hV hU0 hU hm
  have HA := hide (al2 w (.cells #[.int .i64 W, .int .i64 H, .slice a n c] 24) (.cells #[.int .i64 (V : Int), .int .i64 (U : Int), .slice b m d] 24))
  obtain ⟨B, hB⟩ : ∃ B, B = w.heap.size := ⟨_, rfl⟩
  go_enter Tryz.func6, Tryz.ntmps6
  go_wp2_with fail
  generalize ((w.alloc (.cells #[.int .i64 W, .int .i64 H, .slice a n c] 24)).alloc (.cells #[.int .i64 (V : Int), .int .i64 (U : Int), .slice b m d] 24)) = w1 at *
  rw [← hB] at HA ⊢
  obtain ⟨hs1, kp, kq, hb1⟩ := unhide HA
  have HBE := hide hB
  clear HA hB
  have hs : B + 2 ≤ w1.heap.size := by omega
  have HB := hide hb1
  clear hs1 hb1
  have HXp := hide ((unhide HX).under (unhide HB) (fun x hx h0 => by rw [unhide HBE]; exact (unhide HX).lt x hx h0))
  have HXq := hide ((unhide HY).under (unhide HB) (fun x hx h0 => by rw [unhide HBE]; exact (unhide HY).lt x hx h0))
  have HSe := hide ((unhide HS0).below (by rw [← unhide HBE]; exact unhide HB))
  clear HX HY HS0
  refine (unhide HOn _).mono ?_
  rintro e w2 ⟨rfl, hbN⟩
  have hsz := hbN.size
  have kp := blk_below kp hbN (blk_lt kp)
  have kq := blk_below kq hbN (blk_lt kq)
  have HXp := hide ((unhide HXp).below hbN)
  have HXq := hide ((unhide HXq).below hbN)
  have HSe := hide ((unhide HSe).below hbN)
  have HB := hide ((unhide HB).trans (hbN.mono (by omega)))
  have hs : B + 2 ≤ w2.heap.size := by omega
  clear hbN hsz
  have hlp : B < w2.heap.size := blk_lt kp
  have cp0 : w2.cell? ⟨B, 0, none⟩ = some (.int .i64 W) := blk_cell kp 0
  have cp1 : w2.cell? ⟨B, 1, none⟩ = some (.int .i64 H) := blk_cell kp 1
  have cp2 : w2.cell? ⟨B, 2, none⟩ = some (.slice a n c) := blk_cell kp 2
  have hlq : B + 1 < w2.heap.size := blk_lt kq
  have cq0 : w2.cell? ⟨B + 1, 0, none⟩ = some (.int .i64 (V : Int)) := blk_cell kq 0
  have cq1 : w2.cell? ⟨B + 1, 1, none⟩ = some (.int .i64 (U : Int)) := blk_cell kq 1
  have cq2 : w2.cell? ⟨B + 1, 2, none⟩ = some (.slice b m d) := blk_cell kq 2
  go_wp2_with fail
  clear cp0 cp1 cp2 cq0 cq1 cq2 hlp hlq
  refine (unhide HSM _).mono ?_
  rintro e w3 ⟨rfl, hbN⟩
  have hsz := hbN.size
  have kp := blk_below kp hbN (blk_lt kp)
  have kq := blk_below kq hbN (blk_lt kq)
  have HXp := hide ((unhide HXp).below hbN)
  have HXq := hide ((unhide HXq).below hbN)
  have HSe := hide ((unhide HSe).below hbN)
  have HB := hide ((unhide HB).trans (hbN.mono (by omega)))
  have hs : B + 2 ≤ w3.heap.size := by omega
  clear hbN hsz
  have hlp : B < w3.heap.size := blk_lt kp
  have cp0 : w3.cell? ⟨B, 0, none⟩ = some (.int .i64 W) := blk_cell kp 0
  have cp1 : w3.cell? ⟨B, 1, none⟩ = some (.int .i64 H) := blk_cell kp 1
  have cp2 : w3.cell? ⟨B, 2, none⟩ = some (.slice a n c) := blk_cell kp 2
  have hlq : B + 1 < w3.heap.size := blk_lt kq
  have cq0 : w3.cell? ⟨B + 1, 0, none⟩ = some (.int .i64 (V : Int)) := blk_cell kq 0
  have cq1 : w3.cell? ⟨B + 1, 1, none⟩ = some (.int .i64 (U : Int)) := blk_cell kq 1
  have cq2 : w3.cell? ⟨B + 1, 2, none⟩ = some (.slice b m d) := blk_cell kq 2
  go_wp2_with fail
  clear cp0 cp1 cp2 cq0 cq1 cq2 hlp hlq
  refine (unhide HSQ _).mono ?_
  rintro e w4 ⟨rfl, hbN⟩
  have hsz := hbN.size
  have kp := blk_below kp hbN (blk_lt kp)
  have kq := blk_below kq hbN (blk_lt kq)
  have HXp := hide ((unhide HXp).below hbN)
  have HXq := hide ((unhide HXq).below hbN)
  have HSe := hide ((unhide HSe).below hbN)
  have HB := hide ((unhide HB).trans (hbN.mono (by omega)))
  have hs : B + 2 ≤ w4.heap.size := by omega
  clear hbN hsz
  have hlp : B < w4.heap.size := blk_lt kp
  have cp0 : w4.cell? ⟨B, 0, none⟩ = some (.int .i64 W) := blk_cell kp 0
  have cp1 : w4.cell? ⟨B, 1, none⟩ = some (.int .i64 H) := blk_cell kp 1
  have cp2 : w4.cell? ⟨B, 2, none⟩ = some (.slice a n c) := blk_cell kp 2
  have hlq : B + 1 < w4.heap.size := blk_lt kq
  have cq0 : w4.cell? ⟨B + 1, 0, none⟩ = some (.int .i64 (V : Int)) := blk_cell kq 0
  have cq1 : w4.cell? ⟨B + 1, 1, none⟩ = some (.int .i64 (U : Int)) := blk_cell kq 1
  have cq2 : w4.cell? ⟨B + 1, 2, none⟩ = some (.slice b m d) := blk_cell kq 2
  go_wp2_with fail
  clear cp0 cp1 cp2 cq0 cq1 cq2 hlp hlq
  refine (unhide HO w4 (unhide HXp)).mono ?_
  rintro e w5 ⟨a1, c1, rfl, hpx, hbN⟩
  have hsz := hbN.size
  have kp := blk_below kp hbN (blk_lt kp)
  have kq := blk_below kq hbN (blk_lt kq)
  have HXp := hide ((unhide HXp).below hbN)
  have HXq := hide ((unhide HXq).below hbN)
  have HSe := hide ((unhide HSe).below hbN)
  have HB := hide ((unhide HB).trans (hbN.mono (by omega)))
  have hs : B + 2 ≤ w5.heap.size := by omega
  clear hbN hsz
  have HXo := hide hpx
  clear hpx
  have hlp : B < w5.heap.size := blk_lt kp
  have cp0 : w5.cell? ⟨B, 0, none⟩ = some (.int .i64 W) := blk_cell kp 0
  have cp1 : w5.cell? ⟨B, 1, none⟩ = some (.int .i64 H) := blk_cell kp 1
  have cp2 : w5.cell? ⟨B, 2, none⟩ = some (.slice a n c) := blk_cell kp 2
  have hlq : B + 1 < w5.heap.size := blk_lt kq
  have cq0 : w5.cell? ⟨B + 1, 0, none⟩ = some (.int .i64 (V : Int)) := blk_cell kq 0
  have cq1 : w5.cell? ⟨B + 1, 1, none⟩ = some (.int .i64 (U : Int)) := blk_cell kq 1
  have cq2 : w5.cell? ⟨B + 1, 2, none⟩ = some (.slice b m d) := blk_cell kq 2
  go_wp2_with fail
  clear cp0 cp1 cp2 cq0 cq1 cq2 hlp hlq
  refine (unhide HF w5 _ _ (unhide HSe)).mono ?_
  rintro e w6 ⟨rfl, hbN⟩
  have hsz := hbN.size
  have kp := blk_below kp hbN (blk_lt kp)
  have kq := blk_below kq hbN (blk_lt kq)
  have HXp := hide ((unhide HXp).below hbN)
  have HXq := hide ((unhide HXq).below hbN)
  have HXo := hide ((unhide HXo).below hbN)
  have HSe := hide ((unhide HSe).below hbN)
  have HB := hide ((unhide HB).trans (hbN.mono (by omega)))
  have hs : B + 2 ≤ w6.heap.size := by omega
  clear hbN hsz
  clear HXo
  have hlp : B < w6.heap.size := blk_lt kp
  have cp0 : w6.cell? ⟨B, 0, none⟩ = some (.int .i64 W) := blk_cell kp 0
  have cp1 : w6.cell? ⟨B, 1, none⟩ = some (.int .i64 H) := blk_cell kp 1
  have cp2 : w6.cell? ⟨B, 2, none⟩ = some (.slice a n c) := blk_cell kp 2
  have hlq : B + 1 < w6.heap.size := blk_lt kq
  have cq0 : w6.cell? ⟨B + 1, 0, none⟩ = some (.int .i64 (V : Int)) := blk_cell kq 0
  have cq1 : w6.cell? ⟨B + 1, 1, none⟩ = some (.int .i64 (U : Int)) := blk_cell kq 1
  have cq2 : w6.cell? ⟨B + 1, 2, none⟩ = some (.slice b m d) := blk_cell kq 2
  go_wp2_with fail
  clear cp0 cp1 cp2 cq0 cq1 cq2 hlp hlq
  refine (unhide HO2 w6 (unhide HXq)).mono ?_
  rintro e w7 ⟨a2, c2, rfl, hpx, hbN⟩
  have hsz := hbN.size
  have kp := blk_below kp hbN (blk_lt kp)
  have kq := blk_below kq hbN (blk_lt kq)
  have HXp := hide ((unhide HXp).below hbN)
  have HXq := hide ((unhide HXq).below hbN)
  have HSe := hide ((unhide HSe).below hbN)
  have HB := hide ((unhide HB).trans (hbN.mono (by omega)))
  have hs : B + 2 ≤ w7.heap.size := by omega
  clear hbN hsz
  have HXo := hide hpx
  clear hpx
  have hlp : B < w7.heap.size := blk_lt kp
  have cp0 : w7.cell? ⟨B, 0, none⟩ = some (.int .i64 W) := blk_cell kp 0
  have cp1 : w7.cell? ⟨B, 1, none⟩ = some (.int .i64 H) := blk_cell kp 1
  have cp2 : w7.cell? ⟨B, 2, none⟩ = some (.slice a n c) := blk_cell kp 2
  have hlq : B + 1 < w7.heap.size := blk_lt kq
  have cq0 : w7.cell? ⟨B + 1, 0, none⟩ = some (.int .i64 (V : Int)) := blk_cell kq 0
  have cq1 : w7.cell? ⟨B + 1, 1, none⟩ = some (.int .i64 (U : Int)) := blk_cell kq 1
  have cq2 : w7.cell? ⟨B + 1, 2, none⟩ = some (.slice b m d) := blk_cell kq 2
  go_wp2_with fail
  clear cp0 cp1 cp2 cq0 cq1 cq2 hlp hlq
  refine (unhide HF2 w7 _ _ (unhide HXo)).mono ?_
  rintro e w8 ⟨h, rfl, hpx, hbN⟩
  have hsz := hbN.size
  have kp := blk_below kp hbN (blk_lt kp)
  have kq := blk_below kq hbN (blk_lt kq)
  have HXp := hide ((unhide HXp).below hbN)
  have HXq := hide ((unhide HXq).below hbN)
  have HXo := hide ((unhide HXo).below hbN)
  have HSe := hide ((unhide HSe).below hbN)
  have HB := hide ((unhide HB).trans (hbN.mono (by omega)))
  have hs : B + 2 ≤ w8.heap.size := by omega
  clear hbN hsz
  have HXh := hide hpx
  clear hpx
  clear HXo
  have hlp : B < w8.heap.size := blk_lt kp
  have cp0 : w8.cell? ⟨B, 0, none⟩ = some (.int .i64 W) := blk_cell kp 0
  have cp1 : w8.cell? ⟨B, 1, none⟩ = some (.int .i64 H) := blk_cell kp 1
  have cp2 : w8.cell? ⟨B, 2, none⟩ = some (.slice a n c) := blk_cell kp 2
  have hlq : B + 1 < w8.heap.size := blk_lt kq
  have cq0 : w8.cell? ⟨B + 1, 0, none⟩ = some (.int .i64 (V : Int)) := blk_cell kq 0
  have cq1 : w8.cell? ⟨B + 1, 1, none⟩ = some (.int .i64 (U : Int)) := blk_cell kq 1
  have cq2 : w8.cell? ⟨B + 1, 2, none⟩ = some (.slice b m d) := blk_cell kq 2
  go_wp2
  clear cp0 cp1 cp2 cq0 cq1 cq2 hlp hlq
  go_ret
  exact ⟨rfl, by rw [← unhide HBE]; exact unhide HB⟩
set_option maxHeartbeats 4000000 in
set_option maxRecDepth 100000 in
theorem tilesNil_s2 (W H : Nat) (a : Option Addr) (n c : Nat) (p : Nat → Px) (V U : Int) (b : Option Addr) (m d : Nat) (s : Nat → Px) (w : World) (A : Nat → Addr) (hS : Sent w A) (hP : IsPx w a n p) (hQ : IsPx w b m s) (hn3 : n ≤ 3000) (hm3 : m ≤ 3000) (hR2 : ¬ RightP V U m) (hW0 : 1 ≤ W) (hW : W ≤ 256) (hH0 : 1 ≤ H) (hH : H ≤ 256) (hn : n = W * H) :
    Calls Tryz.prog 6 #[.agg #[.int .i64 (W : Int), .int .i64 (H : Int), .slice a n c], .agg #[.int .i64 V, .int .i64 U, .slice b m d]] w fun e w' => e = .returned (.bool true) ∧ Below w.heap.size w w' := by
  have HOn := hide one3_any
  have HSM := hide (fun w => small3_any (W : Int) (H : Int) a n c w)
  rw [decide_eq_true hn3] at HSM
  have HX := hide hP
  have HY := hide hQ
  have HS0 := hide hS
  have HSQ := hide (fun w => small3_any V U b m d w)
  rw [decide_eq_true hm3] at HSQ
  have HO := hide (fun w (h : IsPx w a n p) => ownC_any (W : Int) (H : Int) a n c p w h (by omega))
  have HO2 := hide (fun w (h : IsPx w b m s) => ownC_any V U b m d s w h (by omega))
  have HF := hide (fun w a c (h : IsPxC w a n c p) => ofP_any W H a n c p w h hW0 hW hH0 hH hn)
  have HF2 := hide (fun w a c (h : Sent w A) => of_shape V U a m c w _ _ (h.cell 2 (by omega)) hR2)
  clear hn3 hP hQ hS hm3 hR2 hW0 hW hH0 hH hn
  have HA := hide (al2 w (.cells #[.int .i64 (W : Int), .int .i64 (H : Int), .slice a n c] 24) (.cells #[.int .i64 V, .int .i64 U, .slice b m d] 24))
  obtain ⟨B, hB⟩ : ∃ B, B = w.heap.size := ⟨_, rfl⟩
  go_enter Tryz.func6, Tryz.ntmps6
  go_wp2_with fail
  generalize ((w.alloc (.cells #[.int .i64 (W : Int), .int .i64 (H : Int), .slice a n c] 24)).alloc (.cells #[.int .i64 V, .int .i64 U, .slice b m d] 24)) = w1 at *
  rw [← hB] at HA ⊢
  obtain ⟨hs1, kp, kq, hb1⟩ := unhide HA
  have HBE := hide hB
  clear HA hB
  have hs : B + 2 ≤ w1.heap.size := by omega
  have HB := hide hb1
  clear hs1 hb1
  have HXp := hide ((unhide HX).under (unhide HB) (fun x hx h0 => by rw [unhide HBE]; exact (unhide HX).lt x hx h0))
  have HXq := hide ((unhide HY).under (unhide HB) (fun x hx h0 => by rw [unhide HBE]; exact (unhide HY).lt x hx h0))
  have HSe := hide ((unhide HS0).below (by rw [← unhide HBE]; exact unhide HB))
  clear HX HY HS0
  refine (unhide HOn _).mono ?_
  rintro e w2 ⟨rfl, hbN⟩
  have hsz := hbN.size
  have kp := blk_below kp hbN (blk_lt kp)
  have kq := blk_below kq hbN (blk_lt kq)
  have HXp := hide ((unhide HXp).below hbN)
  have HXq := hide ((unhide HXq).below hbN)
  have HSe := hide ((unhide HSe).below hbN)
  have HB := hide ((unhide HB).trans (hbN.mono (by omega)))
  have hs : B + 2 ≤ w2.heap.size := by omega
  clear hbN hsz
  have hlp : B < w2.heap.size := blk_lt kp
  have cp0 : w2.cell? ⟨B, 0, none⟩ = some (.int .i64 (W : Int)) := blk_cell kp 0
  have cp1 : w2.cell? ⟨B, 1, none⟩ = some (.int .i64 (H : Int)) := blk_cell kp 1
  have cp2 : w2.cell? ⟨B, 2, none⟩ = some (.slice a n c) := blk_cell kp 2
  have hlq : B + 1 < w2.heap.size := blk_lt kq
  have cq0 : w2.cell? ⟨B + 1, 0, none⟩ = some (.int .i64 V) := blk_cell kq 0
  have cq1 : w2.cell? ⟨B + 1, 1, none⟩ = some (.int .i64 U) := blk_cell kq 1
  have cq2 : w2.cell? ⟨B + 1, 2, none⟩ = some (.slice b m d) := blk_cell kq 2
  go_wp2_with fail
  clear cp0 cp1 cp2 cq0 cq1 cq2 hlp hlq
  refine (unhide HSM _).mono ?_
  rintro e w3 ⟨rfl, hbN⟩
  have hsz := hbN.size
  have kp := blk_below kp hbN (blk_lt kp)
  have kq := blk_below kq hbN (blk_lt kq)
  have HXp := hide ((unhide HXp).below hbN)
  have HXq := hide ((unhide HXq).below hbN)
  have HSe := hide ((unhide HSe).below hbN)
  have HB := hide ((unhide HB).trans (hbN.mono (by omega)))
  have hs : B + 2 ≤ w3.heap.size := by omega
  clear hbN hsz
  have hlp : B < w3.heap.size := blk_lt kp
  have cp0 : w3.cell? ⟨B, 0, none⟩ = some (.int .i64 (W : Int)) := blk_cell kp 0
  have cp1 : w3.cell? ⟨B, 1, none⟩ = some (.int .i64 (H : Int)) := blk_cell kp 1
  have cp2 : w3.cell? ⟨B, 2, none⟩ = some (.slice a n c) := blk_cell kp 2
  have hlq : B + 1 < w3.heap.size := blk_lt kq
  have cq0 : w3.cell? ⟨B + 1, 0, none⟩ = some (.int .i64 V) := blk_cell kq 0
  have cq1 : w3.cell? ⟨B + 1, 1, none⟩ = some (.int .i64 U) := blk_cell kq 1
  have cq2 : w3.cell? ⟨B + 1, 2, none⟩ = some (.slice b m d) := blk_cell kq 2
  go_wp2_with fail
  clear cp0 cp1 cp2 cq0 cq1 cq2 hlp hlq
  refine (unhide HSQ _).mono ?_
  rintro e w4 ⟨rfl, hbN⟩
  have hsz := hbN.size
  have kp := blk_below kp hbN (blk_lt kp)
  have kq := blk_below kq hbN (blk_lt kq)
  have HXp := hide ((unhide HXp).below hbN)
  have HXq := hide ((unhide HXq).below hbN)
  have HSe := hide ((unhide HSe).below hbN)
  have HB := hide ((unhide HB).trans (hbN.mono (by omega)))
  have hs : B + 2 ≤ w4.heap.size := by omega
  clear hbN hsz
  have hlp : B < w4.heap.size := blk_lt kp
  have cp0 : w4.cell? ⟨B, 0, none⟩ = some (.int .i64 (W : Int)) := blk_cell kp 0
  have cp1 : w4.cell? ⟨B, 1, none⟩ = some (.int .i64 (H : Int)) := blk_cell kp 1
  have cp2 : w4.cell? ⟨B, 2, none⟩ = some (.slice a n c) := blk_cell kp 2
  have hlq : B + 1 < w4.heap.size := blk_lt kq
  have cq0 : w4.cell? ⟨B + 1, 0, none⟩ = some (.int .i64 V) := blk_cell kq 0
  have cq1 : w4.cell? ⟨B + 1, 1, none⟩ = some (.int .i64 U) := blk_cell kq 1
  have cq2 : w4.cell? ⟨B + 1, 2, none⟩ = some (.slice b m d) := blk_cell kq 2
  go_wp2_with fail
  clear cp0 cp1 cp2 cq0 cq1 cq2 hlp hlq
  refine (unhide HO w4 (unhide HXp)).mono ?_
  rintro e w5 ⟨a1, c1, rfl, hpx, hbN⟩
  have hsz := hbN.size
  have kp := blk_below kp hbN (blk_lt kp)
  have kq := blk_below kq hbN (blk_lt kq)
  have HXp := hide ((unhide HXp).below hbN)
  have HXq := hide ((unhide HXq).below hbN)
  have HSe := hide ((unhide HSe).below hbN)
  have HB := hide ((unhide HB).trans (hbN.mono (by omega)))
  have hs : B + 2 ≤ w5.heap.size := by omega
  clear hbN hsz
  have HXo := hide hpx
  clear hpx
  have hlp : B < w5.heap.size := blk_lt kp
  have cp0 : w5.cell? ⟨B, 0, none⟩ = some (.int .i64 (W : Int)) := blk_cell kp 0
  have cp1 : w5.cell? ⟨B, 1, none⟩ = some (.int .i64 (H : Int)) := blk_cell kp 1
  have cp2 : w5.cell? ⟨B, 2, none⟩ = some (.slice a n c) := blk_cell kp 2
  have hlq : B + 1 < w5.heap.size := blk_lt kq
  have cq0 : w5.cell? ⟨B + 1, 0, none⟩ = some (.int .i64 V) := blk_cell kq 0
  have cq1 : w5.cell? ⟨B + 1, 1, none⟩ = some (.int .i64 U) := blk_cell kq 1
  have cq2 : w5.cell? ⟨B + 1, 2, none⟩ = some (.slice b m d) := blk_cell kq 2
  go_wp2_with fail
  clear cp0 cp1 cp2 cq0 cq1 cq2 hlp hlq
  refine (unhide HF w5 _ _ (unhide HXo)).mono ?_
  rintro e w6 ⟨g, rfl, hpx, hbN⟩
  have hsz := hbN.size
  have kp := blk_below kp hbN (blk_lt kp)
  have kq := blk_below kq hbN (blk_lt kq)
  have HXp := hide ((unhide HXp).below hbN)
  have HXq := hide ((unhide HXq).below hbN)
  have HXo := hide ((unhide HXo).below hbN)
  have HSe := hide ((unhide HSe).below hbN)
  have HB := hide ((unhide HB).trans (hbN.mono (by omega)))
  have hs : B + 2 ≤ w6.heap.size := by omega
  clear hbN hsz
  have HXg := hide hpx
  clear hpx
  clear HXo
  have hlp : B < w6.heap.size := blk_lt kp
  have cp0 : w6.cell? ⟨B, 0, none⟩ = some (.int .i64 (W : Int)) := blk_cell kp 0
  have cp1 : w6.cell? ⟨B, 1, none⟩ = some (.int .i64 (H : Int)) := blk_cell kp 1
  have cp2 : w6.cell? ⟨B, 2, none⟩ = some (.slice a n c) := blk_cell kp 2
  have hlq : B + 1 < w6.heap.size := blk_lt kq
  have cq0 : w6.cell? ⟨B + 1, 0, none⟩ = some (.int .i64 V) := blk_cell kq 0
  have cq1 : w6.cell? ⟨B + 1, 1, none⟩ = some (.int .i64 U) := blk_cell kq 1
  have cq2 : w6.cell? ⟨B + 1, 2, none⟩ = some (.slice b m d) := blk_cell kq 2
  go_wp2_with fail
  clear cp0 cp1 cp2 cq0 cq1 cq2 hlp hlq
  refine (unhide HO2 w6 (unhide HXq)).mono ?_
  rintro e w7 ⟨a2, c2, rfl, hpx, hbN⟩
  have hsz := hbN.size
  have kp := blk_below kp hbN (blk_lt kp)
  have kq := blk_below kq hbN (blk_lt kq)
  have HXp := hide ((unhide HXp).below hbN)
  have HXq := hide ((unhide HXq).below hbN)
  have HXg := hide ((unhide HXg).below hbN)
  have HSe := hide ((unhide HSe).below hbN)
  have HB := hide ((unhide HB).trans (hbN.mono (by omega)))
  have hs : B + 2 ≤ w7.heap.size := by omega
  clear hbN hsz
  have HXo := hide hpx
  clear hpx
  have hlp : B < w7.heap.size := blk_lt kp
  have cp0 : w7.cell? ⟨B, 0, none⟩ = some (.int .i64 (W : Int)) := blk_cell kp 0
  have cp1 : w7.cell? ⟨B, 1, none⟩ = some (.int .i64 (H : Int)) := blk_cell kp 1
  have cp2 : w7.cell? ⟨B, 2, none⟩ = some (.slice a n c) := blk_cell kp 2
  have hlq : B + 1 < w7.heap.size := blk_lt kq
  have cq0 : w7.cell? ⟨B + 1, 0, none⟩ = some (.int .i64 V) := blk_cell kq 0
  have cq1 : w7.cell? ⟨B + 1, 1, none⟩ = some (.int .i64 U) := blk_cell kq 1
  have cq2 : w7.cell? ⟨B + 1, 2, none⟩ = some (.slice b m d) := blk_cell kq 2
  go_wp2_with fail
  clear cp0 cp1 cp2 cq0 cq1 cq2 hlp hlq
  refine (unhide HF2 w7 _ _ (unhide HSe)).mono ?_
  rintro e w8 ⟨rfl, hbN⟩
  have hsz := hbN.size
  have kp := blk_below kp hbN (blk_lt kp)
  have kq := blk_below kq hbN (blk_lt kq)
  have HXp := hide ((unhide HXp).below hbN)
  have HXq := hide ((unhide HXq).below hbN)
  have HXg := hide ((unhide HXg).below hbN)
  have HXo := hide ((unhide HXo).below hbN)
  have HSe := hide ((unhide HSe).below hbN)
  have HB := hide ((unhide HB).trans (hbN.mono (by omega)))
  have hs : B + 2 ≤ w8.heap.size := by omega
  clear hbN hsz
  clear HXo
  have hlp : B < w8.heap.size := blk_lt kp
  have cp0 : w8.cell? ⟨B, 0, none⟩ = some (.int .i64 (W : Int)) := blk_cell kp 0
  have cp1 : w8.cell? ⟨B, 1, none⟩ = some (.int .i64 (H : Int)) := blk_cell kp 1
  have cp2 : w8.cell? ⟨B, 2, none⟩ = some (.slice a n c) := blk_cell kp 2
  have hlq : B + 1 < w8.heap.size := blk_lt kq
  have cq0 : w8.cell? ⟨B + 1, 0, none⟩ = some (.int .i64 V) := blk_cell kq 0
  have cq1 : w8.cell? ⟨B + 1, 1, none⟩ = some (.int .i64 U) := blk_cell kq 1
  have cq2 : w8.cell? ⟨B + 1, 2, none⟩ = some (.slice b m d) := blk_cell kq 2
  go_wp2
  clear cp0 cp1 cp2 cq0 cq1 cq2 hlp hlq
  go_ret
  exact ⟨rfl, by rw [← unhide HBE]; exact unhide HB⟩
end Go.Proofs.YtcicbafdacfbpaiGreatDoor
