/- The statement on pictures of any size, and any pixel of any picture: the walk. Written by genrl.py. -/
import Derived.Test.YtjchafbihfblnahDoorRt9
import Derived.Test.YtjchafbihfblnahDoorRo2
namespace Go.Proofs.YtjchafbihfblnahDoor
open Go.RowKit

set_option maxHeartbeats 4000000 in
set_option maxRecDepth 100000 in
theorem rasterNew_bad1_shapein (u v : Int) (q : Px) (W H : Int) (a : Option Addr) (n c : Nat) (p : Nat → Px) (x y : Int) (w : World) (A : Nat → Addr) (hS : Sent w A) (hP : IsPx w a n p) (hn3 : n ≤ 3000) (hu : ¬ (1 ≤ u ∧ u ≤ 256)) (hR : ¬ RightP W H n) (hin : 0 ≤ x ∧ 0 ≤ y ∧ x < W ∧ y < H) :
    Calls Tryd.prog 3 #[.int .i64 u, .int .i64 v, q.val, .agg #[.int .i64 W, .int .i64 H, .slice a n c], .int .i64 x, .int .i64 y] w fun e w' => e = .returned (.bool true) ∧ Below w.heap.size w w' := by
  have HPL := hide plainly_any
  have HSM := hide (fun w => small_any W H a n c w)
  rw [decide_eq_true hn3] at HSM
  have HU := hide (fun w => side_any u w)
  have HV := hide (fun w => side_any v w)
  have HRT := hide (fun w => pright_any W H a n c w)
  have HIN := hide (fun w => inP_any W H x y a n c w)
  have HO := hide (fun w (h : IsPx w a n p) => own_isPx W H a n c p w h (by omega))
  have HX := hide hP
  have HS0 := hide hS
  rw [decide_eq_false hu] at HU
  have HN := hide (fun w (h : Sent w A) => new_bound u v q w _ _ (h.cell 1 (by omega)) (fun k => hu k.1))
  have HTe := hide (fun w (h : Sent w A) => told_err 1 2 0 0 none 0 0 w A h (by omega) rfl)
  rw [decide_eq_false hR] at HRT
  rw [decide_eq_true hin] at HIN
  have HAt := hide (fun w a c (h : Sent w A) => rAt_shape W H a n c x y w _ _ (h.cell 2 (by omega)) hR)
  have HCo := hide (fun w (h : Sent w A) => coded2_sent 2 3 w A h (by omega) rfl)
  clear hn3 hP hS hu hR hin
  unfold Px.val at *
  have HA := hide (al2 w (.cells #[.int .u8 (q.r.toNat : Int), .int .u8 (q.g.toNat : Int), .int .u8 (q.b.toNat : Int), .int .u8 (q.a.toNat : Int)] 23) (.cells #[.int .i64 W, .int .i64 H, .slice a n c] 26))
  obtain ⟨B, hB⟩ : ∃ B, B = w.heap.size := ⟨_, rfl⟩
  go_enter Tryd.func3, Tryd.ntmps3
  go_wp2_with fail
  generalize ((w.alloc (.cells #[.int .u8 (q.r.toNat : Int), .int .u8 (q.g.toNat : Int), .int .u8 (q.b.toNat : Int), .int .u8 (q.a.toNat : Int)] 23)).alloc (.cells #[.int .i64 W, .int .i64 H, .slice a n c] 26)) = w1 at *
  rw [← hB] at HA ⊢
  obtain ⟨hs1, kq, kp, hb1⟩ := unhide HA
  have HBE := hide hB
  clear HA hB
  have hs : B + 2 ≤ w1.heap.size := by omega
  have HB := hide hb1
  clear hs1 hb1
  have HXp := hide ((unhide HX).under (unhide HB) (fun x hx h0 => by rw [unhide HBE]; exact (unhide HX).lt x hx h0))
  have HSe := hide ((unhide HS0).below (by rw [← unhide HBE]; exact unhide HB))
  clear HX HS0
  refine (unhide HPL _).mono ?_
  rintro e w2 ⟨rfl, hbN⟩
  have hsz := hbN.size
  have kq := blk_below kq hbN (blk_lt kq)
  have kp := blk_below kp hbN (blk_lt kp)
  have HXp := hide ((unhide HXp).below hbN)
  have HSe := hide ((unhide HSe).below hbN)
  have HB := hide ((unhide HB).trans (hbN.mono (by omega)))
  have hs : B + 2 ≤ w2.heap.size := by omega
  clear hbN hsz
  have hlq : B < w2.heap.size := blk_lt kq
  have cq0 : w2.cell? ⟨B, 0, none⟩ = some (.int .u8 (q.r.toNat : Int)) := blk_cell kq 0
  have cq1 : w2.cell? ⟨B, 1, none⟩ = some (.int .u8 (q.g.toNat : Int)) := blk_cell kq 1
  have cq2 : w2.cell? ⟨B, 2, none⟩ = some (.int .u8 (q.b.toNat : Int)) := blk_cell kq 2
  have cq3 : w2.cell? ⟨B, 3, none⟩ = some (.int .u8 (q.a.toNat : Int)) := blk_cell kq 3
  have hlp : B + 1 < w2.heap.size := blk_lt kp
  have cp0 : w2.cell? ⟨B + 1, 0, none⟩ = some (.int .i64 W) := blk_cell kp 0
  have cp1 : w2.cell? ⟨B + 1, 1, none⟩ = some (.int .i64 H) := blk_cell kp 1
  have cp2 : w2.cell? ⟨B + 1, 2, none⟩ = some (.slice a n c) := blk_cell kp 2
  go_wp2_with fail
  clear cq0 cq1 cq2 cq3 cp0 cp1 cp2 hlq hlp
  refine (unhide HSM _).mono ?_
  rintro e w3 ⟨rfl, hbN⟩
  have hsz := hbN.size
  have kq := blk_below kq hbN (blk_lt kq)
  have kp := blk_below kp hbN (blk_lt kp)
  have HXp := hide ((unhide HXp).below hbN)
  have HSe := hide ((unhide HSe).below hbN)
  have HB := hide ((unhide HB).trans (hbN.mono (by omega)))
  have hs : B + 2 ≤ w3.heap.size := by omega
  clear hbN hsz
  have hlq : B < w3.heap.size := blk_lt kq
  have cq0 : w3.cell? ⟨B, 0, none⟩ = some (.int .u8 (q.r.toNat : Int)) := blk_cell kq 0
  have cq1 : w3.cell? ⟨B, 1, none⟩ = some (.int .u8 (q.g.toNat : Int)) := blk_cell kq 1
  have cq2 : w3.cell? ⟨B, 2, none⟩ = some (.int .u8 (q.b.toNat : Int)) := blk_cell kq 2
  have cq3 : w3.cell? ⟨B, 3, none⟩ = some (.int .u8 (q.a.toNat : Int)) := blk_cell kq 3
  have hlp : B + 1 < w3.heap.size := blk_lt kp
  have cp0 : w3.cell? ⟨B + 1, 0, none⟩ = some (.int .i64 W) := blk_cell kp 0
  have cp1 : w3.cell? ⟨B + 1, 1, none⟩ = some (.int .i64 H) := blk_cell kp 1
  have cp2 : w3.cell? ⟨B + 1, 2, none⟩ = some (.slice a n c) := blk_cell kp 2
  go_wp2_with fail
  clear cq0 cq1 cq2 cq3 cp0 cp1 cp2 hlq hlp
  refine (unhide HN w3 (unhide HSe)).mono ?_
  rintro e w4 ⟨rfl, hbN⟩
  have hsz := hbN.size
  have kq := blk_below kq hbN (blk_lt kq)
  have kp := blk_below kp hbN (blk_lt kp)
  have HXp := hide ((unhide HXp).below hbN)
  have HSe := hide ((unhide HSe).below hbN)
  have HB := hide ((unhide HB).trans (hbN.mono (by omega)))
  have hs : B + 2 ≤ w4.heap.size := by omega
  clear hbN hsz
  have hlq : B < w4.heap.size := blk_lt kq
  have cq0 : w4.cell? ⟨B, 0, none⟩ = some (.int .u8 (q.r.toNat : Int)) := blk_cell kq 0
  have cq1 : w4.cell? ⟨B, 1, none⟩ = some (.int .u8 (q.g.toNat : Int)) := blk_cell kq 1
  have cq2 : w4.cell? ⟨B, 2, none⟩ = some (.int .u8 (q.b.toNat : Int)) := blk_cell kq 2
  have cq3 : w4.cell? ⟨B, 3, none⟩ = some (.int .u8 (q.a.toNat : Int)) := blk_cell kq 3
  have hlp : B + 1 < w4.heap.size := blk_lt kp
  have cp0 : w4.cell? ⟨B + 1, 0, none⟩ = some (.int .i64 W) := blk_cell kp 0
  have cp1 : w4.cell? ⟨B + 1, 1, none⟩ = some (.int .i64 H) := blk_cell kp 1
  have cp2 : w4.cell? ⟨B + 1, 2, none⟩ = some (.slice a n c) := blk_cell kp 2
  have HA := hide (al1 w4 (.cells #[.int .i64 0, .int .i64 0, .slice none 0 0] 26))
  obtain ⟨bQ, heqQ⟩ : ∃ b, b = w4.heap.size := ⟨_, rfl⟩
  go_wp2_with fail
  clear cq0 cq1 cq2 cq3 cp0 cp1 cp2 hlq hlp
  generalize w4.alloc (.cells #[.int .i64 0, .int .i64 0, .slice none 0 0] 26) = w5 at *
  rw [← heqQ] at HA ⊢
  obtain ⟨hsA, kQ, hbA⟩ := unhide HA
  rw [heqQ] at hbA
  have ltQq : B < bQ := by rw [heqQ]; exact blk_lt kq
  have ltQp : B + 1 < bQ := by rw [heqQ]; exact blk_lt kp
  have hgB : B ≤ bQ := by rw [heqQ]; omega
  clear HA
  have hsz := hbA.size
  have kq := blk_below kq hbA (blk_lt kq)
  have kp := blk_below kp hbA (blk_lt kp)
  have HXp := hide ((unhide HXp).below hbA)
  have HSe := hide ((unhide HSe).below hbA)
  have HB := hide ((unhide HB).trans (hbA.mono (by omega)))
  have hs : B + 2 ≤ w5.heap.size := by omega
  clear hbA hsz
  clear heqQ hsA
  refine (unhide HU _).mono ?_
  rintro e w5 ⟨rfl, rfl⟩
  have hlq : B < w5.heap.size := blk_lt kq
  have cq0 : w5.cell? ⟨B, 0, none⟩ = some (.int .u8 (q.r.toNat : Int)) := blk_cell kq 0
  have cq1 : w5.cell? ⟨B, 1, none⟩ = some (.int .u8 (q.g.toNat : Int)) := blk_cell kq 1
  have cq2 : w5.cell? ⟨B, 2, none⟩ = some (.int .u8 (q.b.toNat : Int)) := blk_cell kq 2
  have cq3 : w5.cell? ⟨B, 3, none⟩ = some (.int .u8 (q.a.toNat : Int)) := blk_cell kq 3
  have hlp : B + 1 < w5.heap.size := blk_lt kp
  have cp0 : w5.cell? ⟨B + 1, 0, none⟩ = some (.int .i64 W) := blk_cell kp 0
  have cp1 : w5.cell? ⟨B + 1, 1, none⟩ = some (.int .i64 H) := blk_cell kp 1
  have cp2 : w5.cell? ⟨B + 1, 2, none⟩ = some (.slice a n c) := blk_cell kp 2
  have hlQ : bQ < w5.heap.size := blk_lt kQ
  have cQ0 : w5.cell? ⟨bQ, 0, none⟩ = some (.int .i64 0) := blk_cell kQ 0
  have cQ1 : w5.cell? ⟨bQ, 1, none⟩ = some (.int .i64 0) := blk_cell kQ 1
  have cQ2 : w5.cell? ⟨bQ, 2, none⟩ = some (.slice none 0 0) := blk_cell kQ 2
  go_wp2_with fail
  clear cq0 cq1 cq2 cq3 cp0 cp1 cp2 cQ0 cQ1 cQ2 hlq hlp hlQ
  refine (unhide HTe w5 (unhide HSe)).mono ?_
  rintro e w6 ⟨rfl, hbN⟩
  have hsz := hbN.size
  have kq := blk_below kq hbN (blk_lt kq)
  have kp := blk_below kp hbN (blk_lt kp)
  have kQ := blk_below kQ hbN (blk_lt kQ)
  have HXp := hide ((unhide HXp).below hbN)
  have HSe := hide ((unhide HSe).below hbN)
  have HB := hide ((unhide HB).trans (hbN.mono (by omega)))
  have hs : B + 2 ≤ w6.heap.size := by omega
  clear hbN hsz
  have hlq : B < w6.heap.size := blk_lt kq
  have cq0 : w6.cell? ⟨B, 0, none⟩ = some (.int .u8 (q.r.toNat : Int)) := blk_cell kq 0
  have cq1 : w6.cell? ⟨B, 1, none⟩ = some (.int .u8 (q.g.toNat : Int)) := blk_cell kq 1
  have cq2 : w6.cell? ⟨B, 2, none⟩ = some (.int .u8 (q.b.toNat : Int)) := blk_cell kq 2
  have cq3 : w6.cell? ⟨B, 3, none⟩ = some (.int .u8 (q.a.toNat : Int)) := blk_cell kq 3
  have hlp : B + 1 < w6.heap.size := blk_lt kp
  have cp0 : w6.cell? ⟨B + 1, 0, none⟩ = some (.int .i64 W) := blk_cell kp 0
  have cp1 : w6.cell? ⟨B + 1, 1, none⟩ = some (.int .i64 H) := blk_cell kp 1
  have cp2 : w6.cell? ⟨B + 1, 2, none⟩ = some (.slice a n c) := blk_cell kp 2
  have hlQ : bQ < w6.heap.size := blk_lt kQ
  have cQ0 : w6.cell? ⟨bQ, 0, none⟩ = some (.int .i64 0) := blk_cell kQ 0
  have cQ1 : w6.cell? ⟨bQ, 1, none⟩ = some (.int .i64 0) := blk_cell kQ 1
  have cQ2 : w6.cell? ⟨bQ, 2, none⟩ = some (.slice none 0 0) := blk_cell kQ 2
  go_wp2_with fail
  clear cq0 cq1 cq2 cq3 cp0 cp1 cp2 cQ0 cQ1 cQ2 hlq hlp hlQ
  refine (unhide HO w6 (unhide HXp)).mono ?_
  rintro e w7 ⟨a5, c5, rfl, hpx, hbN⟩
  have hsz := hbN.size
  have kq := blk_below kq hbN (blk_lt kq)
  have kp := blk_below kp hbN (blk_lt kp)
  have kQ := blk_below kQ hbN (blk_lt kQ)
  have HXp := hide ((unhide HXp).below hbN)
  have HSe := hide ((unhide HSe).below hbN)
  have HB := hide ((unhide HB).trans (hbN.mono (by omega)))
  have hs : B + 2 ≤ w7.heap.size := by omega
  clear hbN hsz
  have HX5 := hide hpx
  clear hpx
  have hlq : B < w7.heap.size := blk_lt kq
  have cq0 : w7.cell? ⟨B, 0, none⟩ = some (.int .u8 (q.r.toNat : Int)) := blk_cell kq 0
  have cq1 : w7.cell? ⟨B, 1, none⟩ = some (.int .u8 (q.g.toNat : Int)) := blk_cell kq 1
  have cq2 : w7.cell? ⟨B, 2, none⟩ = some (.int .u8 (q.b.toNat : Int)) := blk_cell kq 2
  have cq3 : w7.cell? ⟨B, 3, none⟩ = some (.int .u8 (q.a.toNat : Int)) := blk_cell kq 3
  have hlp : B + 1 < w7.heap.size := blk_lt kp
  have cp0 : w7.cell? ⟨B + 1, 0, none⟩ = some (.int .i64 W) := blk_cell kp 0
  have cp1 : w7.cell? ⟨B + 1, 1, none⟩ = some (.int .i64 H) := blk_cell kp 1
  have cp2 : w7.cell? ⟨B + 1, 2, none⟩ = some (.slice a n c) := blk_cell kp 2
  have hlQ : bQ < w7.heap.size := blk_lt kQ
  have cQ0 : w7.cell? ⟨bQ, 0, none⟩ = some (.int .i64 0) := blk_cell kQ 0
  have cQ1 : w7.cell? ⟨bQ, 1, none⟩ = some (.int .i64 0) := blk_cell kQ 1
  have cQ2 : w7.cell? ⟨bQ, 2, none⟩ = some (.slice none 0 0) := blk_cell kQ 2
  go_wp2_with fail
  clear cq0 cq1 cq2 cq3 cp0 cp1 cp2 cQ0 cQ1 cQ2 hlq hlp hlQ
  refine (unhide HAt w7 _ _ (unhide HSe)).mono ?_
  rintro e w8 ⟨rfl, hbN⟩
  have hsz := hbN.size
  have kq := blk_below kq hbN (blk_lt kq)
  have kp := blk_below kp hbN (blk_lt kp)
  have kQ := blk_below kQ hbN (blk_lt kQ)
  have HXp := hide ((unhide HXp).below hbN)
  have HX5 := hide ((unhide HX5).below hbN)
  have HSe := hide ((unhide HSe).below hbN)
  have HB := hide ((unhide HB).trans (hbN.mono (by omega)))
  have hs : B + 2 ≤ w8.heap.size := by omega
  clear hbN hsz
  have hlq : B < w8.heap.size := blk_lt kq
  have cq0 : w8.cell? ⟨B, 0, none⟩ = some (.int .u8 (q.r.toNat : Int)) := blk_cell kq 0
  have cq1 : w8.cell? ⟨B, 1, none⟩ = some (.int .u8 (q.g.toNat : Int)) := blk_cell kq 1
  have cq2 : w8.cell? ⟨B, 2, none⟩ = some (.int .u8 (q.b.toNat : Int)) := blk_cell kq 2
  have cq3 : w8.cell? ⟨B, 3, none⟩ = some (.int .u8 (q.a.toNat : Int)) := blk_cell kq 3
  have hlp : B + 1 < w8.heap.size := blk_lt kp
  have cp0 : w8.cell? ⟨B + 1, 0, none⟩ = some (.int .i64 W) := blk_cell kp 0
  have cp1 : w8.cell? ⟨B + 1, 1, none⟩ = some (.int .i64 H) := blk_cell kp 1
  have cp2 : w8.cell? ⟨B + 1, 2, none⟩ = some (.slice a n c) := blk_cell kp 2
  have hlQ : bQ < w8.heap.size := blk_lt kQ
  have cQ0 : w8.cell? ⟨bQ, 0, none⟩ = some (.int .i64 0) := blk_cell kQ 0
  have cQ1 : w8.cell? ⟨bQ, 1, none⟩ = some (.int .i64 0) := blk_cell kQ 1
  have cQ2 : w8.cell? ⟨bQ, 2, none⟩ = some (.slice none 0 0) := blk_cell kQ 2
  have HA := hide (al1 w8 (.cells #[.int .u8 0, .int .u8 0, .int .u8 0, .int .u8 0] 23))
  obtain ⟨bZ, heqZ⟩ : ∃ b, b = w8.heap.size := ⟨_, rfl⟩
  go_wp2_with fail
  clear cq0 cq1 cq2 cq3 cp0 cp1 cp2 cQ0 cQ1 cQ2 hlq hlp hlQ
  generalize w8.alloc (.cells #[.int .u8 0, .int .u8 0, .int .u8 0, .int .u8 0] 23) = w9 at *
  rw [← heqZ] at HA ⊢
  obtain ⟨hsA, kZ, hbA⟩ := unhide HA
  rw [heqZ] at hbA
  have ltZq : B < bZ := by rw [heqZ]; exact blk_lt kq
  have ltZp : B + 1 < bZ := by rw [heqZ]; exact blk_lt kp
  have ltZQ : bQ < bZ := by rw [heqZ]; exact blk_lt kQ
  have hgB : B ≤ bZ := by rw [heqZ]; omega
  clear HA
  have hsz := hbA.size
  have kq := blk_below kq hbA (blk_lt kq)
  have kp := blk_below kp hbA (blk_lt kp)
  have kQ := blk_below kQ hbA (blk_lt kQ)
  have HXp := hide ((unhide HXp).below hbA)
  have HX5 := hide ((unhide HX5).below hbA)
  have HSe := hide ((unhide HSe).below hbA)
  have HB := hide ((unhide HB).trans (hbA.mono (by omega)))
  have hs : B + 2 ≤ w9.heap.size := by omega
  clear hbA hsz
  clear heqZ hsA
  refine (unhide HIN _).mono ?_
  rintro e w10 ⟨rfl, hbN⟩
  have hsz := hbN.size
  have kq := blk_below kq hbN (blk_lt kq)
  have kp := blk_below kp hbN (blk_lt kp)
  have kQ := blk_below kQ hbN (blk_lt kQ)
  have kZ := blk_below kZ hbN (blk_lt kZ)
  have HXp := hide ((unhide HXp).below hbN)
  have HX5 := hide ((unhide HX5).below hbN)
  have HSe := hide ((unhide HSe).below hbN)
  have HB := hide ((unhide HB).trans (hbN.mono (by omega)))
  have hs : B + 2 ≤ w10.heap.size := by omega
  clear hbN hsz
  have hlq : B < w10.heap.size := blk_lt kq
  have cq0 : w10.cell? ⟨B, 0, none⟩ = some (.int .u8 (q.r.toNat : Int)) := blk_cell kq 0
  have cq1 : w10.cell? ⟨B, 1, none⟩ = some (.int .u8 (q.g.toNat : Int)) := blk_cell kq 1
  have cq2 : w10.cell? ⟨B, 2, none⟩ = some (.int .u8 (q.b.toNat : Int)) := blk_cell kq 2
  have cq3 : w10.cell? ⟨B, 3, none⟩ = some (.int .u8 (q.a.toNat : Int)) := blk_cell kq 3
  have hlp : B + 1 < w10.heap.size := blk_lt kp
  have cp0 : w10.cell? ⟨B + 1, 0, none⟩ = some (.int .i64 W) := blk_cell kp 0
  have cp1 : w10.cell? ⟨B + 1, 1, none⟩ = some (.int .i64 H) := blk_cell kp 1
  have cp2 : w10.cell? ⟨B + 1, 2, none⟩ = some (.slice a n c) := blk_cell kp 2
  have hlQ : bQ < w10.heap.size := blk_lt kQ
  have cQ0 : w10.cell? ⟨bQ, 0, none⟩ = some (.int .i64 0) := blk_cell kQ 0
  have cQ1 : w10.cell? ⟨bQ, 1, none⟩ = some (.int .i64 0) := blk_cell kQ 1
  have cQ2 : w10.cell? ⟨bQ, 2, none⟩ = some (.slice none 0 0) := blk_cell kQ 2
  have hlZ : bZ < w10.heap.size := blk_lt kZ
  have cZ0 : w10.cell? ⟨bZ, 0, none⟩ = some (.int .u8 0) := blk_cell kZ 0
  have cZ1 : w10.cell? ⟨bZ, 1, none⟩ = some (.int .u8 0) := blk_cell kZ 1
  have cZ2 : w10.cell? ⟨bZ, 2, none⟩ = some (.int .u8 0) := blk_cell kZ 2
  have cZ3 : w10.cell? ⟨bZ, 3, none⟩ = some (.int .u8 0) := blk_cell kZ 3
  go_wp2_with fail
  clear cq0 cq1 cq2 cq3 cp0 cp1 cp2 cQ0 cQ1 cQ2 cZ0 cZ1 cZ2 cZ3 hlq hlp hlQ hlZ
  refine (unhide HRT _).mono ?_
  rintro e w11 ⟨rfl, hbN⟩
  have hsz := hbN.size
  have kq := blk_below kq hbN (blk_lt kq)
  have kp := blk_below kp hbN (blk_lt kp)
  have kQ := blk_below kQ hbN (blk_lt kQ)
  have kZ := blk_below kZ hbN (blk_lt kZ)
  have HXp := hide ((unhide HXp).below hbN)
  have HX5 := hide ((unhide HX5).below hbN)
  have HSe := hide ((unhide HSe).below hbN)
  have HB := hide ((unhide HB).trans (hbN.mono (by omega)))
  have hs : B + 2 ≤ w11.heap.size := by omega
  clear hbN hsz
  have hlq : B < w11.heap.size := blk_lt kq
  have cq0 : w11.cell? ⟨B, 0, none⟩ = some (.int .u8 (q.r.toNat : Int)) := blk_cell kq 0
  have cq1 : w11.cell? ⟨B, 1, none⟩ = some (.int .u8 (q.g.toNat : Int)) := blk_cell kq 1
  have cq2 : w11.cell? ⟨B, 2, none⟩ = some (.int .u8 (q.b.toNat : Int)) := blk_cell kq 2
  have cq3 : w11.cell? ⟨B, 3, none⟩ = some (.int .u8 (q.a.toNat : Int)) := blk_cell kq 3
  have hlp : B + 1 < w11.heap.size := blk_lt kp
  have cp0 : w11.cell? ⟨B + 1, 0, none⟩ = some (.int .i64 W) := blk_cell kp 0
  have cp1 : w11.cell? ⟨B + 1, 1, none⟩ = some (.int .i64 H) := blk_cell kp 1
  have cp2 : w11.cell? ⟨B + 1, 2, none⟩ = some (.slice a n c) := blk_cell kp 2
  have hlQ : bQ < w11.heap.size := blk_lt kQ
  have cQ0 : w11.cell? ⟨bQ, 0, none⟩ = some (.int .i64 0) := blk_cell kQ 0
  have cQ1 : w11.cell? ⟨bQ, 1, none⟩ = some (.int .i64 0) := blk_cell kQ 1
  have cQ2 : w11.cell? ⟨bQ, 2, none⟩ = some (.slice none 0 0) := blk_cell kQ 2
  have hlZ : bZ < w11.heap.size := blk_lt kZ
  have cZ0 : w11.cell? ⟨bZ, 0, none⟩ = some (.int .u8 0) := blk_cell kZ 0
  have cZ1 : w11.cell? ⟨bZ, 1, none⟩ = some (.int .u8 0) := blk_cell kZ 1
  have cZ2 : w11.cell? ⟨bZ, 2, none⟩ = some (.int .u8 0) := blk_cell kZ 2
  have cZ3 : w11.cell? ⟨bZ, 3, none⟩ = some (.int .u8 0) := blk_cell kZ 3
  go_wp2_with fail
  clear cq0 cq1 cq2 cq3 cp0 cp1 cp2 cQ0 cQ1 cQ2 cZ0 cZ1 cZ2 cZ3 hlq hlp hlQ hlZ
  refine (unhide HCo w11 (unhide HSe)).mono ?_
  rintro e w12 ⟨rfl, hbN⟩
  have hsz := hbN.size
  have kq := blk_below kq hbN (blk_lt kq)
  have kp := blk_below kp hbN (blk_lt kp)
  have kQ := blk_below kQ hbN (blk_lt kQ)
  have kZ := blk_below kZ hbN (blk_lt kZ)
  have HXp := hide ((unhide HXp).below hbN)
  have HX5 := hide ((unhide HX5).below hbN)
  have HSe := hide ((unhide HSe).below hbN)
  have HB := hide ((unhide HB).trans (hbN.mono (by omega)))
  have hs : B + 2 ≤ w12.heap.size := by omega
  clear hbN hsz
  have hlq : B < w12.heap.size := blk_lt kq
  have cq0 : w12.cell? ⟨B, 0, none⟩ = some (.int .u8 (q.r.toNat : Int)) := blk_cell kq 0
  have cq1 : w12.cell? ⟨B, 1, none⟩ = some (.int .u8 (q.g.toNat : Int)) := blk_cell kq 1
  have cq2 : w12.cell? ⟨B, 2, none⟩ = some (.int .u8 (q.b.toNat : Int)) := blk_cell kq 2
  have cq3 : w12.cell? ⟨B, 3, none⟩ = some (.int .u8 (q.a.toNat : Int)) := blk_cell kq 3
  have hlp : B + 1 < w12.heap.size := blk_lt kp
  have cp0 : w12.cell? ⟨B + 1, 0, none⟩ = some (.int .i64 W) := blk_cell kp 0
  have cp1 : w12.cell? ⟨B + 1, 1, none⟩ = some (.int .i64 H) := blk_cell kp 1
  have cp2 : w12.cell? ⟨B + 1, 2, none⟩ = some (.slice a n c) := blk_cell kp 2
  have hlQ : bQ < w12.heap.size := blk_lt kQ
  have cQ0 : w12.cell? ⟨bQ, 0, none⟩ = some (.int .i64 0) := blk_cell kQ 0
  have cQ1 : w12.cell? ⟨bQ, 1, none⟩ = some (.int .i64 0) := blk_cell kQ 1
  have cQ2 : w12.cell? ⟨bQ, 2, none⟩ = some (.slice none 0 0) := blk_cell kQ 2
  have hlZ : bZ < w12.heap.size := blk_lt kZ
  have cZ0 : w12.cell? ⟨bZ, 0, none⟩ = some (.int .u8 0) := blk_cell kZ 0
  have cZ1 : w12.cell? ⟨bZ, 1, none⟩ = some (.int .u8 0) := blk_cell kZ 1
  have cZ2 : w12.cell? ⟨bZ, 2, none⟩ = some (.int .u8 0) := blk_cell kZ 2
  have cZ3 : w12.cell? ⟨bZ, 3, none⟩ = some (.int .u8 0) := blk_cell kZ 3
  go_wp2
  clear cq0 cq1 cq2 cq3 cp0 cp1 cp2 cQ0 cQ1 cQ2 cZ0 cZ1 cZ2 cZ3 hlq hlp hlQ hlZ
  go_ret
  exact ⟨rfl, by rw [← unhide HBE]; exact unhide HB⟩
set_option maxHeartbeats 4000000 in
set_option maxRecDepth 100000 in
theorem rasterNew_bad1_shapeout (u v : Int) (q : Px) (W H : Int) (a : Option Addr) (n c : Nat) (p : Nat → Px) (x y : Int) (w : World) (A : Nat → Addr) (hS : Sent w A) (hP : IsPx w a n p) (hn3 : n ≤ 3000) (hu : ¬ (1 ≤ u ∧ u ≤ 256)) (hR : ¬ RightP W H n) (hin : ¬ (0 ≤ x ∧ 0 ≤ y ∧ x < W ∧ y < H)) :
    Calls Tryd.prog 3 #[.int .i64 u, .int .i64 v, q.val, .agg #[.int .i64 W, .int .i64 H, .slice a n c], .int .i64 x, .int .i64 y] w fun e w' => e = .returned (.bool true) ∧ Below w.heap.size w w' := by
  have HPL := hide plainly_any
  have HSM := hide (fun w => small_any W H a n c w)
  rw [decide_eq_true hn3] at HSM
  have HU := hide (fun w => side_any u w)
  have HV := hide (fun w => side_any v w)
  have HRT := hide (fun w => pright_any W H a n c w)
  have HIN := hide (fun w => inP_any W H x y a n c w)
  have HO := hide (fun w (h : IsPx w a n p) => own_isPx W H a n c p w h (by omega))
  have HX := hide hP
  have HS0 := hide hS
  rw [decide_eq_false hu] at HU
  have HN := hide (fun w (h : Sent w A) => new_bound u v q w _ _ (h.cell 1 (by omega)) (fun k => hu k.1))
  have HTe := hide (fun w (h : Sent w A) => told_err 1 2 0 0 none 0 0 w A h (by omega) rfl)
  rw [decide_eq_false hR] at HRT
  rw [decide_eq_false hin] at HIN
  have HAt := hide (fun w a c (h : Sent w A) => rAt_shape W H a n c x y w _ _ (h.cell 2 (by omega)) hR)
  have HCo := hide (fun w (h : Sent w A) => coded2_sent 2 3 w A h (by omega) rfl)
  clear hn3 hP hS hu hR hin
  unfold Px.val at *
  have HA := hide (al2 w (.cells #[.int .u8 (q.r.toNat : Int), .int .u8 (q.g.toNat : Int), .int .u8 (q.b.toNat : Int), .int .u8 (q.a.toNat : Int)] 23) (.cells #[.int .i64 W, .int .i64 H, .slice a n c] 26))
  obtain ⟨B, hB⟩ : ∃ B, B = w.heap.size := ⟨_, rfl⟩
  go_enter Tryd.func3, Tryd.ntmps3
  go_wp2_with fail
  generalize ((w.alloc (.cells #[.int .u8 (q.r.toNat : Int), .int .u8 (q.g.toNat : Int), .int .u8 (q.b.toNat : Int), .int .u8 (q.a.toNat : Int)] 23)).alloc (.cells #[.int .i64 W, .int .i64 H, .slice a n c] 26)) = w1 at *
  rw [← hB] at HA ⊢
  obtain ⟨hs1, kq, kp, hb1⟩ := unhide HA
  have HBE := hide hB
  clear HA hB
  have hs : B + 2 ≤ w1.heap.size := by omega
  have HB := hide hb1
  clear hs1 hb1
  have HXp := hide ((unhide HX).under (unhide HB) (fun x hx h0 => by rw [unhide HBE]; exact (unhide HX).lt x hx h0))
  have HSe := hide ((unhide HS0).below (by rw [← unhide HBE]; exact unhide HB))
  clear HX HS0
  refine (unhide HPL _).mono ?_
  rintro e w2 ⟨rfl, hbN⟩
  have hsz := hbN.size
  have kq := blk_below kq hbN (blk_lt kq)
  have kp := blk_below kp hbN (blk_lt kp)
  have HXp := hide ((unhide HXp).below hbN)
  have HSe := hide ((unhide HSe).below hbN)
  have HB := hide ((unhide HB).trans (hbN.mono (by omega)))
  have hs : B + 2 ≤ w2.heap.size := by omega
  clear hbN hsz
  have hlq : B < w2.heap.size := blk_lt kq
  have cq0 : w2.cell? ⟨B, 0, none⟩ = some (.int .u8 (q.r.toNat : Int)) := blk_cell kq 0
  have cq1 : w2.cell? ⟨B, 1, none⟩ = some (.int .u8 (q.g.toNat : Int)) := blk_cell kq 1
  have cq2 : w2.cell? ⟨B, 2, none⟩ = some (.int .u8 (q.b.toNat : Int)) := blk_cell kq 2
  have cq3 : w2.cell? ⟨B, 3, none⟩ = some (.int .u8 (q.a.toNat : Int)) := blk_cell kq 3
  have hlp : B + 1 < w2.heap.size := blk_lt kp
  have cp0 : w2.cell? ⟨B + 1, 0, none⟩ = some (.int .i64 W) := blk_cell kp 0
  have cp1 : w2.cell? ⟨B + 1, 1, none⟩ = some (.int .i64 H) := blk_cell kp 1
  have cp2 : w2.cell? ⟨B + 1, 2, none⟩ = some (.slice a n c) := blk_cell kp 2
  go_wp2_with fail
  clear cq0 cq1 cq2 cq3 cp0 cp1 cp2 hlq hlp
  refine (unhide HSM _).mono ?_
  rintro e w3 ⟨rfl, hbN⟩
  have hsz := hbN.size
  have kq := blk_below kq hbN (blk_lt kq)
  have kp := blk_below kp hbN (blk_lt kp)
  have HXp := hide ((unhide HXp).below hbN)
  have HSe := hide ((unhide HSe).below hbN)
  have HB := hide ((unhide HB).trans (hbN.mono (by omega)))
  have hs : B + 2 ≤ w3.heap.size := by omega
  clear hbN hsz
  have hlq : B < w3.heap.size := blk_lt kq
  have cq0 : w3.cell? ⟨B, 0, none⟩ = some (.int .u8 (q.r.toNat : Int)) := blk_cell kq 0
  have cq1 : w3.cell? ⟨B, 1, none⟩ = some (.int .u8 (q.g.toNat : Int)) := blk_cell kq 1
  have cq2 : w3.cell? ⟨B, 2, none⟩ = some (.int .u8 (q.b.toNat : Int)) := blk_cell kq 2
  have cq3 : w3.cell? ⟨B, 3, none⟩ = some (.int .u8 (q.a.toNat : Int)) := blk_cell kq 3
  have hlp : B + 1 < w3.heap.size := blk_lt kp
  have cp0 : w3.cell? ⟨B + 1, 0, none⟩ = some (.int .i64 W) := blk_cell kp 0
  have cp1 : w3.cell? ⟨B + 1, 1, none⟩ = some (.int .i64 H) := blk_cell kp 1
  have cp2 : w3.cell? ⟨B + 1, 2, none⟩ = some (.slice a n c) := blk_cell kp 2
  go_wp2_with fail
  clear cq0 cq1 cq2 cq3 cp0 cp1 cp2 hlq hlp
  refine (unhide HN w3 (unhide HSe)).mono ?_
  rintro e w4 ⟨rfl, hbN⟩
  have hsz := hbN.size
  have kq := blk_below kq hbN (blk_lt kq)
  have kp := blk_below kp hbN (blk_lt kp)
  have HXp := hide ((unhide HXp).below hbN)
  have HSe := hide ((unhide HSe).below hbN)
  have HB := hide ((unhide HB).trans (hbN.mono (by omega)))
  have hs : B + 2 ≤ w4.heap.size := by omega
  clear hbN hsz
  have hlq : B < w4.heap.size := blk_lt kq
  have cq0 : w4.cell? ⟨B, 0, none⟩ = some (.int .u8 (q.r.toNat : Int)) := blk_cell kq 0
  have cq1 : w4.cell? ⟨B, 1, none⟩ = some (.int .u8 (q.g.toNat : Int)) := blk_cell kq 1
  have cq2 : w4.cell? ⟨B, 2, none⟩ = some (.int .u8 (q.b.toNat : Int)) := blk_cell kq 2
  have cq3 : w4.cell? ⟨B, 3, none⟩ = some (.int .u8 (q.a.toNat : Int)) := blk_cell kq 3
  have hlp : B + 1 < w4.heap.size := blk_lt kp
  have cp0 : w4.cell? ⟨B + 1, 0, none⟩ = some (.int .i64 W) := blk_cell kp 0
  have cp1 : w4.cell? ⟨B + 1, 1, none⟩ = some (.int .i64 H) := blk_cell kp 1
  have cp2 : w4.cell? ⟨B + 1, 2, none⟩ = some (.slice a n c) := blk_cell kp 2
  have HA := hide (al1 w4 (.cells #[.int .i64 0, .int .i64 0, .slice none 0 0] 26))
  obtain ⟨bQ, heqQ⟩ : ∃ b, b = w4.heap.size := ⟨_, rfl⟩
  go_wp2_with fail
  clear cq0 cq1 cq2 cq3 cp0 cp1 cp2 hlq hlp
  generalize w4.alloc (.cells #[.int .i64 0, .int .i64 0, .slice none 0 0] 26) = w5 at *
  rw [← heqQ] at HA ⊢
  obtain ⟨hsA, kQ, hbA⟩ := unhide HA
  rw [heqQ] at hbA
  have ltQq : B < bQ := by rw [heqQ]; exact blk_lt kq
  have ltQp : B + 1 < bQ := by rw [heqQ]; exact blk_lt kp
  have hgB : B ≤ bQ := by rw [heqQ]; omega
  clear HA
  have hsz := hbA.size
  have kq := blk_below kq hbA (blk_lt kq)
  have kp := blk_below kp hbA (blk_lt kp)
  have HXp := hide ((unhide HXp).below hbA)
  have HSe := hide ((unhide HSe).below hbA)
  have HB := hide ((unhide HB).trans (hbA.mono (by omega)))
  have hs : B + 2 ≤ w5.heap.size := by omega
  clear hbA hsz
  clear heqQ hsA
  refine (unhide HU _).mono ?_
  rintro e w5 ⟨rfl, rfl⟩
  have hlq : B < w5.heap.size := blk_lt kq
  have cq0 : w5.cell? ⟨B, 0, none⟩ = some (.int .u8 (q.r.toNat : Int)) := blk_cell kq 0
  have cq1 : w5.cell? ⟨B, 1, none⟩ = some (.int .u8 (q.g.toNat : Int)) := blk_cell kq 1
  have cq2 : w5.cell? ⟨B, 2, none⟩ = some (.int .u8 (q.b.toNat : Int)) := blk_cell kq 2
  have cq3 : w5.cell? ⟨B, 3, none⟩ = some (.int .u8 (q.a.toNat : Int)) := blk_cell kq 3
  have hlp : B + 1 < w5.heap.size := blk_lt kp
  have cp0 : w5.cell? ⟨B + 1, 0, none⟩ = some (.int .i64 W) := blk_cell kp 0
  have cp1 : w5.cell? ⟨B + 1, 1, none⟩ = some (.int .i64 H) := blk_cell kp 1
  have cp2 : w5.cell? ⟨B + 1, 2, none⟩ = some (.slice a n c) := blk_cell kp 2
  have hlQ : bQ < w5.heap.size := blk_lt kQ
  have cQ0 : w5.cell? ⟨bQ, 0, none⟩ = some (.int .i64 0) := blk_cell kQ 0
  have cQ1 : w5.cell? ⟨bQ, 1, none⟩ = some (.int .i64 0) := blk_cell kQ 1
  have cQ2 : w5.cell? ⟨bQ, 2, none⟩ = some (.slice none 0 0) := blk_cell kQ 2
  go_wp2_with fail
  clear cq0 cq1 cq2 cq3 cp0 cp1 cp2 cQ0 cQ1 cQ2 hlq hlp hlQ
  refine (unhide HTe w5 (unhide HSe)).mono ?_
  rintro e w6 ⟨rfl, hbN⟩
  have hsz := hbN.size
  have kq := blk_below kq hbN (blk_lt kq)
  have kp := blk_below kp hbN (blk_lt kp)
  have kQ := blk_below kQ hbN (blk_lt kQ)
  have HXp := hide ((unhide HXp).below hbN)
  have HSe := hide ((unhide HSe).below hbN)
  have HB := hide ((unhide HB).trans (hbN.mono (by omega)))
  have hs : B + 2 ≤ w6.heap.size := by omega
  clear hbN hsz
  have hlq : B < w6.heap.size := blk_lt kq
  have cq0 : w6.cell? ⟨B, 0, none⟩ = some (.int .u8 (q.r.toNat : Int)) := blk_cell kq 0
  have cq1 : w6.cell? ⟨B, 1, none⟩ = some (.int .u8 (q.g.toNat : Int)) := blk_cell kq 1
  have cq2 : w6.cell? ⟨B, 2, none⟩ = some (.int .u8 (q.b.toNat : Int)) := blk_cell kq 2
  have cq3 : w6.cell? ⟨B, 3, none⟩ = some (.int .u8 (q.a.toNat : Int)) := blk_cell kq 3
  have hlp : B + 1 < w6.heap.size := blk_lt kp
  have cp0 : w6.cell? ⟨B + 1, 0, none⟩ = some (.int .i64 W) := blk_cell kp 0
  have cp1 : w6.cell? ⟨B + 1, 1, none⟩ = some (.int .i64 H) := blk_cell kp 1
  have cp2 : w6.cell? ⟨B + 1, 2, none⟩ = some (.slice a n c) := blk_cell kp 2
  have hlQ : bQ < w6.heap.size := blk_lt kQ
  have cQ0 : w6.cell? ⟨bQ, 0, none⟩ = some (.int .i64 0) := blk_cell kQ 0
  have cQ1 : w6.cell? ⟨bQ, 1, none⟩ = some (.int .i64 0) := blk_cell kQ 1
  have cQ2 : w6.cell? ⟨bQ, 2, none⟩ = some (.slice none 0 0) := blk_cell kQ 2
  go_wp2_with fail
  clear cq0 cq1 cq2 cq3 cp0 cp1 cp2 cQ0 cQ1 cQ2 hlq hlp hlQ
  refine (unhide HO w6 (unhide HXp)).mono ?_
  rintro e w7 ⟨a5, c5, rfl, hpx, hbN⟩
  have hsz := hbN.size
  have kq := blk_below kq hbN (blk_lt kq)
  have kp := blk_below kp hbN (blk_lt kp)
  have kQ := blk_below kQ hbN (blk_lt kQ)
  have HXp := hide ((unhide HXp).below hbN)
  have HSe := hide ((unhide HSe).below hbN)
  have HB := hide ((unhide HB).trans (hbN.mono (by omega)))
  have hs : B + 2 ≤ w7.heap.size := by omega
  clear hbN hsz
  have HX5 := hide hpx
  clear hpx
  have hlq : B < w7.heap.size := blk_lt kq
  have cq0 : w7.cell? ⟨B, 0, none⟩ = some (.int .u8 (q.r.toNat : Int)) := blk_cell kq 0
  have cq1 : w7.cell? ⟨B, 1, none⟩ = some (.int .u8 (q.g.toNat : Int)) := blk_cell kq 1
  have cq2 : w7.cell? ⟨B, 2, none⟩ = some (.int .u8 (q.b.toNat : Int)) := blk_cell kq 2
  have cq3 : w7.cell? ⟨B, 3, none⟩ = some (.int .u8 (q.a.toNat : Int)) := blk_cell kq 3
  have hlp : B + 1 < w7.heap.size := blk_lt kp
  have cp0 : w7.cell? ⟨B + 1, 0, none⟩ = some (.int .i64 W) := blk_cell kp 0
  have cp1 : w7.cell? ⟨B + 1, 1, none⟩ = some (.int .i64 H) := blk_cell kp 1
  have cp2 : w7.cell? ⟨B + 1, 2, none⟩ = some (.slice a n c) := blk_cell kp 2
  have hlQ : bQ < w7.heap.size := blk_lt kQ
  have cQ0 : w7.cell? ⟨bQ, 0, none⟩ = some (.int .i64 0) := blk_cell kQ 0
  have cQ1 : w7.cell? ⟨bQ, 1, none⟩ = some (.int .i64 0) := blk_cell kQ 1
  have cQ2 : w7.cell? ⟨bQ, 2, none⟩ = some (.slice none 0 0) := blk_cell kQ 2
  go_wp2_with fail
  clear cq0 cq1 cq2 cq3 cp0 cp1 cp2 cQ0 cQ1 cQ2 hlq hlp hlQ
  refine (unhide HAt w7 _ _ (unhide HSe)).mono ?_
  rintro e w8 ⟨rfl, hbN⟩
  have hsz := hbN.size
  have kq := blk_below kq hbN (blk_lt kq)
  have kp := blk_below kp hbN (blk_lt kp)
  have kQ := blk_below kQ hbN (blk_lt kQ)
  have HXp := hide ((unhide HXp).below hbN)
  have HX5 := hide ((unhide HX5).below hbN)
  have HSe := hide ((unhide HSe).below hbN)
  have HB := hide ((unhide HB).trans (hbN.mono (by omega)))
  have hs : B + 2 ≤ w8.heap.size := by omega
  clear hbN hsz
  have hlq : B < w8.heap.size := blk_lt kq
  have cq0 : w8.cell? ⟨B, 0, none⟩ = some (.int .u8 (q.r.toNat : Int)) := blk_cell kq 0
  have cq1 : w8.cell? ⟨B, 1, none⟩ = some (.int .u8 (q.g.toNat : Int)) := blk_cell kq 1
  have cq2 : w8.cell? ⟨B, 2, none⟩ = some (.int .u8 (q.b.toNat : Int)) := blk_cell kq 2
  have cq3 : w8.cell? ⟨B, 3, none⟩ = some (.int .u8 (q.a.toNat : Int)) := blk_cell kq 3
  have hlp : B + 1 < w8.heap.size := blk_lt kp
  have cp0 : w8.cell? ⟨B + 1, 0, none⟩ = some (.int .i64 W) := blk_cell kp 0
  have cp1 : w8.cell? ⟨B + 1, 1, none⟩ = some (.int .i64 H) := blk_cell kp 1
  have cp2 : w8.cell? ⟨B + 1, 2, none⟩ = some (.slice a n c) := blk_cell kp 2
  have hlQ : bQ < w8.heap.size := blk_lt kQ
  have cQ0 : w8.cell? ⟨bQ, 0, none⟩ = some (.int .i64 0) := blk_cell kQ 0
  have cQ1 : w8.cell? ⟨bQ, 1, none⟩ = some (.int .i64 0) := blk_cell kQ 1
  have cQ2 : w8.cell? ⟨bQ, 2, none⟩ = some (.slice none 0 0) := blk_cell kQ 2
  have HA := hide (al1 w8 (.cells #[.int .u8 0, .int .u8 0, .int .u8 0, .int .u8 0] 23))
  obtain ⟨bZ, heqZ⟩ : ∃ b, b = w8.heap.size := ⟨_, rfl⟩
  go_wp2_with fail
  clear cq0 cq1 cq2 cq3 cp0 cp1 cp2 cQ0 cQ1 cQ2 hlq hlp hlQ
  generalize w8.alloc (.cells #[.int .u8 0, .int .u8 0, .int .u8 0, .int .u8 0] 23) = w9 at *
  rw [← heqZ] at HA ⊢
  obtain ⟨hsA, kZ, hbA⟩ := unhide HA
  rw [heqZ] at hbA
  have ltZq : B < bZ := by rw [heqZ]; exact blk_lt kq
  have ltZp : B + 1 < bZ := by rw [heqZ]; exact blk_lt kp
  have ltZQ : bQ < bZ := by rw [heqZ]; exact blk_lt kQ
  have hgB : B ≤ bZ := by rw [heqZ]; omega
  clear HA
  have hsz := hbA.size
  have kq := blk_below kq hbA (blk_lt kq)
  have kp := blk_below kp hbA (blk_lt kp)
  have kQ := blk_below kQ hbA (blk_lt kQ)
  have HXp := hide ((unhide HXp).below hbA)
  have HX5 := hide ((unhide HX5).below hbA)
  have HSe := hide ((unhide HSe).below hbA)
  have HB := hide ((unhide HB).trans (hbA.mono (by omega)))
  have hs : B + 2 ≤ w9.heap.size := by omega
  clear hbA hsz
  clear heqZ hsA
  refine (unhide HIN _).mono ?_
  rintro e w10 ⟨rfl, hbN⟩
  have hsz := hbN.size
  have kq := blk_below kq hbN (blk_lt kq)
  have kp := blk_below kp hbN (blk_lt kp)
  have kQ := blk_below kQ hbN (blk_lt kQ)
  have kZ := blk_below kZ hbN (blk_lt kZ)
  have HXp := hide ((unhide HXp).below hbN)
  have HX5 := hide ((unhide HX5).below hbN)
  have HSe := hide ((unhide HSe).below hbN)
  have HB := hide ((unhide HB).trans (hbN.mono (by omega)))
  have hs : B + 2 ≤ w10.heap.size := by omega
  clear hbN hsz
  have hlq : B < w10.heap.size := blk_lt kq
  have cq0 : w10.cell? ⟨B, 0, none⟩ = some (.int .u8 (q.r.toNat : Int)) := blk_cell kq 0
  have cq1 : w10.cell? ⟨B, 1, none⟩ = some (.int .u8 (q.g.toNat : Int)) := blk_cell kq 1
  have cq2 : w10.cell? ⟨B, 2, none⟩ = some (.int .u8 (q.b.toNat : Int)) := blk_cell kq 2
  have cq3 : w10.cell? ⟨B, 3, none⟩ = some (.int .u8 (q.a.toNat : Int)) := blk_cell kq 3
  have hlp : B + 1 < w10.heap.size := blk_lt kp
  have cp0 : w10.cell? ⟨B + 1, 0, none⟩ = some (.int .i64 W) := blk_cell kp 0
  have cp1 : w10.cell? ⟨B + 1, 1, none⟩ = some (.int .i64 H) := blk_cell kp 1
  have cp2 : w10.cell? ⟨B + 1, 2, none⟩ = some (.slice a n c) := blk_cell kp 2
  have hlQ : bQ < w10.heap.size := blk_lt kQ
  have cQ0 : w10.cell? ⟨bQ, 0, none⟩ = some (.int .i64 0) := blk_cell kQ 0
  have cQ1 : w10.cell? ⟨bQ, 1, none⟩ = some (.int .i64 0) := blk_cell kQ 1
  have cQ2 : w10.cell? ⟨bQ, 2, none⟩ = some (.slice none 0 0) := blk_cell kQ 2
  have hlZ : bZ < w10.heap.size := blk_lt kZ
  have cZ0 : w10.cell? ⟨bZ, 0, none⟩ = some (.int .u8 0) := blk_cell kZ 0
  have cZ1 : w10.cell? ⟨bZ, 1, none⟩ = some (.int .u8 0) := blk_cell kZ 1
  have cZ2 : w10.cell? ⟨bZ, 2, none⟩ = some (.int .u8 0) := blk_cell kZ 2
  have cZ3 : w10.cell? ⟨bZ, 3, none⟩ = some (.int .u8 0) := blk_cell kZ 3
  go_wp2_with fail
  clear cq0 cq1 cq2 cq3 cp0 cp1 cp2 cQ0 cQ1 cQ2 cZ0 cZ1 cZ2 cZ3 hlq hlp hlQ hlZ
  refine (unhide HRT _).mono ?_
  rintro e w11 ⟨rfl, hbN⟩
  have hsz := hbN.size
  have kq := blk_below kq hbN (blk_lt kq)
  have kp := blk_below kp hbN (blk_lt kp)
  have kQ := blk_below kQ hbN (blk_lt kQ)
  have kZ := blk_below kZ hbN (blk_lt kZ)
  have HXp := hide ((unhide HXp).below hbN)
  have HX5 := hide ((unhide HX5).below hbN)
  have HSe := hide ((unhide HSe).below hbN)
  have HB := hide ((unhide HB).trans (hbN.mono (by omega)))
  have hs : B + 2 ≤ w11.heap.size := by omega
  clear hbN hsz
  have hlq : B < w11.heap.size := blk_lt kq
  have cq0 : w11.cell? ⟨B, 0, none⟩ = some (.int .u8 (q.r.toNat : Int)) := blk_cell kq 0
  have cq1 : w11.cell? ⟨B, 1, none⟩ = some (.int .u8 (q.g.toNat : Int)) := blk_cell kq 1
  have cq2 : w11.cell? ⟨B, 2, none⟩ = some (.int .u8 (q.b.toNat : Int)) := blk_cell kq 2
  have cq3 : w11.cell? ⟨B, 3, none⟩ = some (.int .u8 (q.a.toNat : Int)) := blk_cell kq 3
  have hlp : B + 1 < w11.heap.size := blk_lt kp
  have cp0 : w11.cell? ⟨B + 1, 0, none⟩ = some (.int .i64 W) := blk_cell kp 0
  have cp1 : w11.cell? ⟨B + 1, 1, none⟩ = some (.int .i64 H) := blk_cell kp 1
  have cp2 : w11.cell? ⟨B + 1, 2, none⟩ = some (.slice a n c) := blk_cell kp 2
  have hlQ : bQ < w11.heap.size := blk_lt kQ
  have cQ0 : w11.cell? ⟨bQ, 0, none⟩ = some (.int .i64 0) := blk_cell kQ 0
  have cQ1 : w11.cell? ⟨bQ, 1, none⟩ = some (.int .i64 0) := blk_cell kQ 1
  have cQ2 : w11.cell? ⟨bQ, 2, none⟩ = some (.slice none 0 0) := blk_cell kQ 2
  have hlZ : bZ < w11.heap.size := blk_lt kZ
  have cZ0 : w11.cell? ⟨bZ, 0, none⟩ = some (.int .u8 0) := blk_cell kZ 0
  have cZ1 : w11.cell? ⟨bZ, 1, none⟩ = some (.int .u8 0) := blk_cell kZ 1
  have cZ2 : w11.cell? ⟨bZ, 2, none⟩ = some (.int .u8 0) := blk_cell kZ 2
  have cZ3 : w11.cell? ⟨bZ, 3, none⟩ = some (.int .u8 0) := blk_cell kZ 3
  go_wp2_with fail
  clear cq0 cq1 cq2 cq3 cp0 cp1 cp2 cQ0 cQ1 cQ2 cZ0 cZ1 cZ2 cZ3 hlq hlp hlQ hlZ
  refine (unhide HCo w11 (unhide HSe)).mono ?_
  rintro e w12 ⟨rfl, hbN⟩
  have hsz := hbN.size
  have kq := blk_below kq hbN (blk_lt kq)
  have kp := blk_below kp hbN (blk_lt kp)
  have kQ := blk_below kQ hbN (blk_lt kQ)
  have kZ := blk_below kZ hbN (blk_lt kZ)
  have HXp := hide ((unhide HXp).below hbN)
  have HX5 := hide ((unhide HX5).below hbN)
  have HSe := hide ((unhide HSe).below hbN)
  have HB := hide ((unhide HB).trans (hbN.mono (by omega)))
  have hs : B + 2 ≤ w12.heap.size := by omega
  clear hbN hsz
  have hlq : B < w12.heap.size := blk_lt kq
  have cq0 : w12.cell? ⟨B, 0, none⟩ = some (.int .u8 (q.r.toNat : Int)) := blk_cell kq 0
  have cq1 : w12.cell? ⟨B, 1, none⟩ = some (.int .u8 (q.g.toNat : Int)) := blk_cell kq 1
  have cq2 : w12.cell? ⟨B, 2, none⟩ = some (.int .u8 (q.b.toNat : Int)) := blk_cell kq 2
  have cq3 : w12.cell? ⟨B, 3, none⟩ = some (.int .u8 (q.a.toNat : Int)) := blk_cell kq 3
  have hlp : B + 1 < w12.heap.size := blk_lt kp
  have cp0 : w12.cell? ⟨B + 1, 0, none⟩ = some (.int .i64 W) := blk_cell kp 0
  have cp1 : w12.cell? ⟨B + 1, 1, none⟩ = some (.int .i64 H) := blk_cell kp 1
  have cp2 : w12.cell? ⟨B + 1, 2, none⟩ = some (.slice a n c) := blk_cell kp 2
  have hlQ : bQ < w12.heap.size := blk_lt kQ
  have cQ0 : w12.cell? ⟨bQ, 0, none⟩ = some (.int .i64 0) := blk_cell kQ 0
  have cQ1 : w12.cell? ⟨bQ, 1, none⟩ = some (.int .i64 0) := blk_cell kQ 1
  have cQ2 : w12.cell? ⟨bQ, 2, none⟩ = some (.slice none 0 0) := blk_cell kQ 2
  have hlZ : bZ < w12.heap.size := blk_lt kZ
  have cZ0 : w12.cell? ⟨bZ, 0, none⟩ = some (.int .u8 0) := blk_cell kZ 0
  have cZ1 : w12.cell? ⟨bZ, 1, none⟩ = some (.int .u8 0) := blk_cell kZ 1
  have cZ2 : w12.cell? ⟨bZ, 2, none⟩ = some (.int .u8 0) := blk_cell kZ 2
  have cZ3 : w12.cell? ⟨bZ, 3, none⟩ = some (.int .u8 0) := blk_cell kZ 3
  go_wp2
  clear cq0 cq1 cq2 cq3 cp0 cp1 cp2 cQ0 cQ1 cQ2 cZ0 cZ1 cZ2 cZ3 hlq hlp hlQ hlZ
  go_ret
  exact ⟨rfl, by rw [← unhide HBE]; exact unhide HB⟩
set_option maxHeartbeats 4000000 in
set_option maxRecDepth 100000 in
theorem rasterNew_bad1_bound (u v : Int) (q : Px) (W H : Nat) (a : Option Addr) (n c : Nat) (p : Nat → Px) (x y : Int) (w : World) (A : Nat → Addr) (hS : Sent w A) (hP : IsPx w a n p) (hn3 : n ≤ 3000) (hu : ¬ (1 ≤ u ∧ u ≤ 256)) (hW0 : 1 ≤ W) (hW : W ≤ 256) (hH0 : 1 ≤ H) (hH : H ≤ 256) (hn : n = W * H) (hin : ¬ (0 ≤ x ∧ 0 ≤ y ∧ x < (W : Int) ∧ y < (H : Int))) :
    Calls Tryd.prog 3 #[.int .i64 u, .int .i64 v, q.val, .agg #[.int .i64 (W : Int), .int .i64 (H : Int), .slice a n c], .int .i64 x, .int .i64 y] w fun e w' => e = .returned (.bool true) ∧ Below w.heap.size w w' := by
  have HPL := hide plainly_any
  have HSM := hide (fun w => small_any (W : Int) (H : Int) a n c w)
  rw [decide_eq_true hn3] at HSM
  have HU := hide (fun w => side_any u w)
  have HV := hide (fun w => side_any v w)
  have HRT := hide (fun w => pright_any (W : Int) (H : Int) a n c w)
  have HIN := hide (fun w => inP_any (W : Int) (H : Int) x y a n c w)
  have HO := hide (fun w (h : IsPx w a n p) => own_isPx (W : Int) (H : Int) a n c p w h (by omega))
  have HX := hide hP
  have HS0 := hide hS
  rw [decide_eq_false hu] at HU
  have HN := hide (fun w (h : Sent w A) => new_bound u v q w _ _ (h.cell 1 (by omega)) (fun k => hu k.1))
  have HTe := hide (fun w (h : Sent w A) => told_err 1 2 0 0 none 0 0 w A h (by omega) rfl)
  rw [decide_eq_true (rightN hW0 hW hH0 hH hn)] at HRT
  rw [decide_eq_false hin] at HIN
  have HAt := hide (fun w a c (h : Sent w A) => rAt_bound W H a n c x y w _ _ (h.cell 1 (by omega)) hW0 hW hH0 hH hn (fun k => hin ⟨k.1, k.2.2.1, k.2.1, k.2.2.2⟩))
  have HCo := hide (fun w (h : Sent w A) => coded2_sent 1 2 w A h (by omega) rfl)
  clear hn3 hP hS hu hW0 hW hH0 hH hn hin
  unfold Px.val at *
  have HA := hide (al2 w (.cells #[.int .u8 (q.r.toNat : Int), .int .u8 (q.g.toNat : Int), .int .u8 (q.b.toNat : Int), .int .u8 (q.a.toNat : Int)] 23) (.cells #[.int .i64 (W : Int), .int .i64 (H : Int), .slice a n c] 26))
  obtain ⟨B, hB⟩ : ∃ B, B = w.heap.size := ⟨_, rfl⟩
  go_enter Tryd.func3, Tryd.ntmps3
  go_wp2_with fail
  generalize ((w.alloc (.cells #[.int .u8 (q.r.toNat : Int), .int .u8 (q.g.toNat : Int), .int .u8 (q.b.toNat : Int), .int .u8 (q.a.toNat : Int)] 23)).alloc (.cells #[.int .i64 (W : Int), .int .i64 (H : Int), .slice a n c] 26)) = w1 at *
  rw [← hB] at HA ⊢
  obtain ⟨hs1, kq, kp, hb1⟩ := unhide HA
  have HBE := hide hB
  clear HA hB
  have hs : B + 2 ≤ w1.heap.size := by omega
  have HB := hide hb1
  clear hs1 hb1
  have HXp := hide ((unhide HX).under (unhide HB) (fun x hx h0 => by rw [unhide HBE]; exact (unhide HX).lt x hx h0))
  have HSe := hide ((unhide HS0).below (by rw [← unhide HBE]; exact unhide HB))
  clear HX HS0
  refine (unhide HPL _).mono ?_
  rintro e w2 ⟨rfl, hbN⟩
  have hsz := hbN.size
  have kq := blk_below kq hbN (blk_lt kq)
  have kp := blk_below kp hbN (blk_lt kp)
  have HXp := hide ((unhide HXp).below hbN)
  have HSe := hide ((unhide HSe).below hbN)
  have HB := hide ((unhide HB).trans (hbN.mono (by omega)))
  have hs : B + 2 ≤ w2.heap.size := by omega
  clear hbN hsz
  have hlq : B < w2.heap.size := blk_lt kq
  have cq0 : w2.cell? ⟨B, 0, none⟩ = some (.int .u8 (q.r.toNat : Int)) := blk_cell kq 0
  have cq1 : w2.cell? ⟨B, 1, none⟩ = some (.int .u8 (q.g.toNat : Int)) := blk_cell kq 1
  have cq2 : w2.cell? ⟨B, 2, none⟩ = some (.int .u8 (q.b.toNat : Int)) := blk_cell kq 2
  have cq3 : w2.cell? ⟨B, 3, none⟩ = some (.int .u8 (q.a.toNat : Int)) := blk_cell kq 3
  have hlp : B + 1 < w2.heap.size := blk_lt kp
  have cp0 : w2.cell? ⟨B + 1, 0, none⟩ = some (.int .i64 (W : Int)) := blk_cell kp 0
  have cp1 : w2.cell? ⟨B + 1, 1, none⟩ = some (.int .i64 (H : Int)) := blk_cell kp 1
  have cp2 : w2.cell? ⟨B + 1, 2, none⟩ = some (.slice a n c) := blk_cell kp 2
  go_wp2_with fail
  clear cq0 cq1 cq2 cq3 cp0 cp1 cp2 hlq hlp
  refine (unhide HSM _).mono ?_
  rintro e w3 ⟨rfl, hbN⟩
  have hsz := hbN.size
  have kq := blk_below kq hbN (blk_lt kq)
  have kp := blk_below kp hbN (blk_lt kp)
  have HXp := hide ((unhide HXp).below hbN)
  have HSe := hide ((unhide HSe).below hbN)
  have HB := hide ((unhide HB).trans (hbN.mono (by omega)))
  have hs : B + 2 ≤ w3.heap.size := by omega
  clear hbN hsz
  have hlq : B < w3.heap.size := blk_lt kq
  have cq0 : w3.cell? ⟨B, 0, none⟩ = some (.int .u8 (q.r.toNat : Int)) := blk_cell kq 0
  have cq1 : w3.cell? ⟨B, 1, none⟩ = some (.int .u8 (q.g.toNat : Int)) := blk_cell kq 1
  have cq2 : w3.cell? ⟨B, 2, none⟩ = some (.int .u8 (q.b.toNat : Int)) := blk_cell kq 2
  have cq3 : w3.cell? ⟨B, 3, none⟩ = some (.int .u8 (q.a.toNat : Int)) := blk_cell kq 3
  have hlp : B + 1 < w3.heap.size := blk_lt kp
  have cp0 : w3.cell? ⟨B + 1, 0, none⟩ = some (.int .i64 (W : Int)) := blk_cell kp 0
  have cp1 : w3.cell? ⟨B + 1, 1, none⟩ = some (.int .i64 (H : Int)) := blk_cell kp 1
  have cp2 : w3.cell? ⟨B + 1, 2, none⟩ = some (.slice a n c) := blk_cell kp 2
  go_wp2_with fail
  clear cq0 cq1 cq2 cq3 cp0 cp1 cp2 hlq hlp
  refine (unhide HN w3 (unhide HSe)).mono ?_
  rintro e w4 ⟨rfl, hbN⟩
  have hsz := hbN.size
  have kq := blk_below kq hbN (blk_lt kq)
  have kp := blk_below kp hbN (blk_lt kp)
  have HXp := hide ((unhide HXp).below hbN)
  have HSe := hide ((unhide HSe).below hbN)
  have HB := hide ((unhide HB).trans (hbN.mono (by omega)))
  have hs : B + 2 ≤ w4.heap.size := by omega
  clear hbN hsz
  have hlq : B < w4.heap.size := blk_lt kq
  have cq0 : w4.cell? ⟨B, 0, none⟩ = some (.int .u8 (q.r.toNat : Int)) := blk_cell kq 0
  have cq1 : w4.cell? ⟨B, 1, none⟩ = some (.int .u8 (q.g.toNat : Int)) := blk_cell kq 1
  have cq2 : w4.cell? ⟨B, 2, none⟩ = some (.int .u8 (q.b.toNat : Int)) := blk_cell kq 2
  have cq3 : w4.cell? ⟨B, 3, none⟩ = some (.int .u8 (q.a.toNat : Int)) := blk_cell kq 3
  have hlp : B + 1 < w4.heap.size := blk_lt kp
  have cp0 : w4.cell? ⟨B + 1, 0, none⟩ = some (.int .i64 (W : Int)) := blk_cell kp 0
  have cp1 : w4.cell? ⟨B + 1, 1, none⟩ = some (.int .i64 (H : Int)) := blk_cell kp 1
  have cp2 : w4.cell? ⟨B + 1, 2, none⟩ = some (.slice a n c) := blk_cell kp 2
  have HA := hide (al1 w4 (.cells #[.int .i64 0, .int .i64 0, .slice none 0 0] 26))
  obtain ⟨bQ, heqQ⟩ : ∃ b, b = w4.heap.size := ⟨_, rfl⟩
  go_wp2_with fail
  clear cq0 cq1 cq2 cq3 cp0 cp1 cp2 hlq hlp
  generalize w4.alloc (.cells #[.int .i64 0, .int .i64 0, .slice none 0 0] 26) = w5 at *
  rw [← heqQ] at HA ⊢
  obtain ⟨hsA, kQ, hbA⟩ := unhide HA
  rw [heqQ] at hbA
  have ltQq : B < bQ := by rw [heqQ]; exact blk_lt kq
  have ltQp : B + 1 < bQ := by rw [heqQ]; exact blk_lt kp
  have hgB : B ≤ bQ := by rw [heqQ]; omega
  clear HA
  have hsz := hbA.size
  have kq := blk_below kq hbA (blk_lt kq)
  have kp := blk_below kp hbA (blk_lt kp)
  have HXp := hide ((unhide HXp).below hbA)
  have HSe := hide ((unhide HSe).below hbA)
  have HB := hide ((unhide HB).trans (hbA.mono (by omega)))
  have hs : B + 2 ≤ w5.heap.size := by omega
  clear hbA hsz
  clear heqQ hsA
  refine (unhide HU _).mono ?_
  rintro e w5 ⟨rfl, rfl⟩
  have hlq : B < w5.heap.size := blk_lt kq
  have cq0 : w5.cell? ⟨B, 0, none⟩ = some (.int .u8 (q.r.toNat : Int)) := blk_cell kq 0
  have cq1 : w5.cell? ⟨B, 1, none⟩ = some (.int .u8 (q.g.toNat : Int)) := blk_cell kq 1
  have cq2 : w5.cell? ⟨B, 2, none⟩ = some (.int .u8 (q.b.toNat : Int)) := blk_cell kq 2
  have cq3 : w5.cell? ⟨B, 3, none⟩ = some (.int .u8 (q.a.toNat : Int)) := blk_cell kq 3
  have hlp : B + 1 < w5.heap.size := blk_lt kp
  have cp0 : w5.cell? ⟨B + 1, 0, none⟩ = some (.int .i64 (W : Int)) := blk_cell kp 0
  have cp1 : w5.cell? ⟨B + 1, 1, none⟩ = some (.int .i64 (H : Int)) := blk_cell kp 1
  have cp2 : w5.cell? ⟨B + 1, 2, none⟩ = some (.slice a n c) := blk_cell kp 2
  have hlQ : bQ < w5.heap.size := blk_lt kQ
  have cQ0 : w5.cell? ⟨bQ, 0, none⟩ = some (.int .i64 0) := blk_cell kQ 0
  have cQ1 : w5.cell? ⟨bQ, 1, none⟩ = some (.int .i64 0) := blk_cell kQ 1
  have cQ2 : w5.cell? ⟨bQ, 2, none⟩ = some (.slice none 0 0) := blk_cell kQ 2
  go_wp2_with fail
  clear cq0 cq1 cq2 cq3 cp0 cp1 cp2 cQ0 cQ1 cQ2 hlq hlp hlQ
  refine (unhide HTe w5 (unhide HSe)).mono ?_
  rintro e w6 ⟨rfl, hbN⟩
  have hsz := hbN.size
  have kq := blk_below kq hbN (blk_lt kq)
  have kp := blk_below kp hbN (blk_lt kp)
  have kQ := blk_below kQ hbN (blk_lt kQ)
  have HXp := hide ((unhide HXp).below hbN)
  have HSe := hide ((unhide HSe).below hbN)
  have HB := hide ((unhide HB).trans (hbN.mono (by omega)))
  have hs : B + 2 ≤ w6.heap.size := by omega
  clear hbN hsz
  have hlq : B < w6.heap.size := blk_lt kq
  have cq0 : w6.cell? ⟨B, 0, none⟩ = some (.int .u8 (q.r.toNat : Int)) := blk_cell kq 0
  have cq1 : w6.cell? ⟨B, 1, none⟩ = some (.int .u8 (q.g.toNat : Int)) := blk_cell kq 1
  have cq2 : w6.cell? ⟨B, 2, none⟩ = some (.int .u8 (q.b.toNat : Int)) := blk_cell kq 2
  have cq3 : w6.cell? ⟨B, 3, none⟩ = some (.int .u8 (q.a.toNat : Int)) := blk_cell kq 3
  have hlp : B + 1 < w6.heap.size := blk_lt kp
  have cp0 : w6.cell? ⟨B + 1, 0, none⟩ = some (.int .i64 (W : Int)) := blk_cell kp 0
  have cp1 : w6.cell? ⟨B + 1, 1, none⟩ = some (.int .i64 (H : Int)) := blk_cell kp 1
  have cp2 : w6.cell? ⟨B + 1, 2, none⟩ = some (.slice a n c) := blk_cell kp 2
  have hlQ : bQ < w6.heap.size := blk_lt kQ
  have cQ0 : w6.cell? ⟨bQ, 0, none⟩ = some (.int .i64 0) := blk_cell kQ 0
  have cQ1 : w6.cell? ⟨bQ, 1, none⟩ = some (.int .i64 0) := blk_cell kQ 1
  have cQ2 : w6.cell? ⟨bQ, 2, none⟩ = some (.slice none 0 0) := blk_cell kQ 2
  go_wp2_with fail
  clear cq0 cq1 cq2 cq3 cp0 cp1 cp2 cQ0 cQ1 cQ2 hlq hlp hlQ
  refine (unhide HO w6 (unhide HXp)).mono ?_
  rintro e w7 ⟨a5, c5, rfl, hpx, hbN⟩
  have hsz := hbN.size
  have kq := blk_below kq hbN (blk_lt kq)
  have kp := blk_below kp hbN (blk_lt kp)
  have kQ := blk_below kQ hbN (blk_lt kQ)
  have HXp := hide ((unhide HXp).below hbN)
  have HSe := hide ((unhide HSe).below hbN)
  have HB := hide ((unhide HB).trans (hbN.mono (by omega)))
  have hs : B + 2 ≤ w7.heap.size := by omega
  clear hbN hsz
  have HX5 := hide hpx
  clear hpx
  have hlq : B < w7.heap.size := blk_lt kq
  have cq0 : w7.cell? ⟨B, 0, none⟩ = some (.int .u8 (q.r.toNat : Int)) := blk_cell kq 0
  have cq1 : w7.cell? ⟨B, 1, none⟩ = some (.int .u8 (q.g.toNat : Int)) := blk_cell kq 1
  have cq2 : w7.cell? ⟨B, 2, none⟩ = some (.int .u8 (q.b.toNat : Int)) := blk_cell kq 2
  have cq3 : w7.cell? ⟨B, 3, none⟩ = some (.int .u8 (q.a.toNat : Int)) := blk_cell kq 3
  have hlp : B + 1 < w7.heap.size := blk_lt kp
  have cp0 : w7.cell? ⟨B + 1, 0, none⟩ = some (.int .i64 (W : Int)) := blk_cell kp 0
  have cp1 : w7.cell? ⟨B + 1, 1, none⟩ = some (.int .i64 (H : Int)) := blk_cell kp 1
  have cp2 : w7.cell? ⟨B + 1, 2, none⟩ = some (.slice a n c) := blk_cell kp 2
  have hlQ : bQ < w7.heap.size := blk_lt kQ
  have cQ0 : w7.cell? ⟨bQ, 0, none⟩ = some (.int .i64 0) := blk_cell kQ 0
  have cQ1 : w7.cell? ⟨bQ, 1, none⟩ = some (.int .i64 0) := blk_cell kQ 1
  have cQ2 : w7.cell? ⟨bQ, 2, none⟩ = some (.slice none 0 0) := blk_cell kQ 2
  go_wp2_with fail
  clear cq0 cq1 cq2 cq3 cp0 cp1 cp2 cQ0 cQ1 cQ2 hlq hlp hlQ
  refine (unhide HAt w7 _ _ (unhide HSe)).mono ?_
  rintro e w8 ⟨rfl, hbN⟩
  have hsz := hbN.size
  have kq := blk_below kq hbN (blk_lt kq)
  have kp := blk_below kp hbN (blk_lt kp)
  have kQ := blk_below kQ hbN (blk_lt kQ)
  have HXp := hide ((unhide HXp).below hbN)
  have HX5 := hide ((unhide HX5).below hbN)
  have HSe := hide ((unhide HSe).below hbN)
  have HB := hide ((unhide HB).trans (hbN.mono (by omega)))
  have hs : B + 2 ≤ w8.heap.size := by omega
  clear hbN hsz
  have hlq : B < w8.heap.size := blk_lt kq
  have cq0 : w8.cell? ⟨B, 0, none⟩ = some (.int .u8 (q.r.toNat : Int)) := blk_cell kq 0
  have cq1 : w8.cell? ⟨B, 1, none⟩ = some (.int .u8 (q.g.toNat : Int)) := blk_cell kq 1
  have cq2 : w8.cell? ⟨B, 2, none⟩ = some (.int .u8 (q.b.toNat : Int)) := blk_cell kq 2
  have cq3 : w8.cell? ⟨B, 3, none⟩ = some (.int .u8 (q.a.toNat : Int)) := blk_cell kq 3
  have hlp : B + 1 < w8.heap.size := blk_lt kp
  have cp0 : w8.cell? ⟨B + 1, 0, none⟩ = some (.int .i64 (W : Int)) := blk_cell kp 0
  have cp1 : w8.cell? ⟨B + 1, 1, none⟩ = some (.int .i64 (H : Int)) := blk_cell kp 1
  have cp2 : w8.cell? ⟨B + 1, 2, none⟩ = some (.slice a n c) := blk_cell kp 2
  have hlQ : bQ < w8.heap.size := blk_lt kQ
  have cQ0 : w8.cell? ⟨bQ, 0, none⟩ = some (.int .i64 0) := blk_cell kQ 0
  have cQ1 : w8.cell? ⟨bQ, 1, none⟩ = some (.int .i64 0) := blk_cell kQ 1
  have cQ2 : w8.cell? ⟨bQ, 2, none⟩ = some (.slice none 0 0) := blk_cell kQ 2
  have HA := hide (al1 w8 (.cells #[.int .u8 0, .int .u8 0, .int .u8 0, .int .u8 0] 23))
  obtain ⟨bZ, heqZ⟩ : ∃ b, b = w8.heap.size := ⟨_, rfl⟩
  go_wp2_with fail
  clear cq0 cq1 cq2 cq3 cp0 cp1 cp2 cQ0 cQ1 cQ2 hlq hlp hlQ
  generalize w8.alloc (.cells #[.int .u8 0, .int .u8 0, .int .u8 0, .int .u8 0] 23) = w9 at *
  rw [← heqZ] at HA ⊢
  obtain ⟨hsA, kZ, hbA⟩ := unhide HA
  rw [heqZ] at hbA
  have ltZq : B < bZ := by rw [heqZ]; exact blk_lt kq
  have ltZp : B + 1 < bZ := by rw [heqZ]; exact blk_lt kp
  have ltZQ : bQ < bZ := by rw [heqZ]; exact blk_lt kQ
  have hgB : B ≤ bZ := by rw [heqZ]; omega
  clear HA
  have hsz := hbA.size
  have kq := blk_below kq hbA (blk_lt kq)
  have kp := blk_below kp hbA (blk_lt kp)
  have kQ := blk_below kQ hbA (blk_lt kQ)
  have HXp := hide ((unhide HXp).below hbA)
  have HX5 := hide ((unhide HX5).below hbA)
  have HSe := hide ((unhide HSe).below hbA)
  have HB := hide ((unhide HB).trans (hbA.mono (by omega)))
  have hs : B + 2 ≤ w9.heap.size := by omega
  clear hbA hsz
  clear heqZ hsA
  refine (unhide HIN _).mono ?_
  rintro e w10 ⟨rfl, hbN⟩
  have hsz := hbN.size
  have kq := blk_below kq hbN (blk_lt kq)
  have kp := blk_below kp hbN (blk_lt kp)
  have kQ := blk_below kQ hbN (blk_lt kQ)
  have kZ := blk_below kZ hbN (blk_lt kZ)
  have HXp := hide ((unhide HXp).below hbN)
  have HX5 := hide ((unhide HX5).below hbN)
  have HSe := hide ((unhide HSe).below hbN)
  have HB := hide ((unhide HB).trans (hbN.mono (by omega)))
  have hs : B + 2 ≤ w10.heap.size := by omega
  clear hbN hsz
  have hlq : B < w10.heap.size := blk_lt kq
  have cq0 : w10.cell? ⟨B, 0, none⟩ = some (.int .u8 (q.r.toNat : Int)) := blk_cell kq 0
  have cq1 : w10.cell? ⟨B, 1, none⟩ = some (.int .u8 (q.g.toNat : Int)) := blk_cell kq 1
  have cq2 : w10.cell? ⟨B, 2, none⟩ = some (.int .u8 (q.b.toNat : Int)) := blk_cell kq 2
  have cq3 : w10.cell? ⟨B, 3, none⟩ = some (.int .u8 (q.a.toNat : Int)) := blk_cell kq 3
  have hlp : B + 1 < w10.heap.size := blk_lt kp
  have cp0 : w10.cell? ⟨B + 1, 0, none⟩ = some (.int .i64 (W : Int)) := blk_cell kp 0
  have cp1 : w10.cell? ⟨B + 1, 1, none⟩ = some (.int .i64 (H : Int)) := blk_cell kp 1
  have cp2 : w10.cell? ⟨B + 1, 2, none⟩ = some (.slice a n c) := blk_cell kp 2
  have hlQ : bQ < w10.heap.size := blk_lt kQ
  have cQ0 : w10.cell? ⟨bQ, 0, none⟩ = some (.int .i64 0) := blk_cell kQ 0
  have cQ1 : w10.cell? ⟨bQ, 1, none⟩ = some (.int .i64 0) := blk_cell kQ 1
  have cQ2 : w10.cell? ⟨bQ, 2, none⟩ = some (.slice none 0 0) := blk_cell kQ 2
  have hlZ : bZ < w10.heap.size := blk_lt kZ
  have cZ0 : w10.cell? ⟨bZ, 0, none⟩ = some (.int .u8 0) := blk_cell kZ 0
  have cZ1 : w10.cell? ⟨bZ, 1, none⟩ = some (.int .u8 0) := blk_cell kZ 1
  have cZ2 : w10.cell? ⟨bZ, 2, none⟩ = some (.int .u8 0) := blk_cell kZ 2
  have cZ3 : w10.cell? ⟨bZ, 3, none⟩ = some (.int .u8 0) := blk_cell kZ 3
  go_wp2_with fail
  clear cq0 cq1 cq2 cq3 cp0 cp1 cp2 cQ0 cQ1 cQ2 cZ0 cZ1 cZ2 cZ3 hlq hlp hlQ hlZ
  refine (unhide HRT _).mono ?_
  rintro e w11 ⟨rfl, hbN⟩
  have hsz := hbN.size
  have kq := blk_below kq hbN (blk_lt kq)
  have kp := blk_below kp hbN (blk_lt kp)
  have kQ := blk_below kQ hbN (blk_lt kQ)
  have kZ := blk_below kZ hbN (blk_lt kZ)
  have HXp := hide ((unhide HXp).below hbN)
  have HX5 := hide ((unhide HX5).below hbN)
  have HSe := hide ((unhide HSe).below hbN)
  have HB := hide ((unhide HB).trans (hbN.mono (by omega)))
  have hs : B + 2 ≤ w11.heap.size := by omega
  clear hbN hsz
  have hlq : B < w11.heap.size := blk_lt kq
  have cq0 : w11.cell? ⟨B, 0, none⟩ = some (.int .u8 (q.r.toNat : Int)) := blk_cell kq 0
  have cq1 : w11.cell? ⟨B, 1, none⟩ = some (.int .u8 (q.g.toNat : Int)) := blk_cell kq 1
  have cq2 : w11.cell? ⟨B, 2, none⟩ = some (.int .u8 (q.b.toNat : Int)) := blk_cell kq 2
  have cq3 : w11.cell? ⟨B, 3, none⟩ = some (.int .u8 (q.a.toNat : Int)) := blk_cell kq 3
  have hlp : B + 1 < w11.heap.size := blk_lt kp
  have cp0 : w11.cell? ⟨B + 1, 0, none⟩ = some (.int .i64 (W : Int)) := blk_cell kp 0
  have cp1 : w11.cell? ⟨B + 1, 1, none⟩ = some (.int .i64 (H : Int)) := blk_cell kp 1
  have cp2 : w11.cell? ⟨B + 1, 2, none⟩ = some (.slice a n c) := blk_cell kp 2
  have hlQ : bQ < w11.heap.size := blk_lt kQ
  have cQ0 : w11.cell? ⟨bQ, 0, none⟩ = some (.int .i64 0) := blk_cell kQ 0
  have cQ1 : w11.cell? ⟨bQ, 1, none⟩ = some (.int .i64 0) := blk_cell kQ 1
  have cQ2 : w11.cell? ⟨bQ, 2, none⟩ = some (.slice none 0 0) := blk_cell kQ 2
  have hlZ : bZ < w11.heap.size := blk_lt kZ
  have cZ0 : w11.cell? ⟨bZ, 0, none⟩ = some (.int .u8 0) := blk_cell kZ 0
  have cZ1 : w11.cell? ⟨bZ, 1, none⟩ = some (.int .u8 0) := blk_cell kZ 1
  have cZ2 : w11.cell? ⟨bZ, 2, none⟩ = some (.int .u8 0) := blk_cell kZ 2
  have cZ3 : w11.cell? ⟨bZ, 3, none⟩ = some (.int .u8 0) := blk_cell kZ 3
  go_wp2_with fail
  clear cq0 cq1 cq2 cq3 cp0 cp1 cp2 cQ0 cQ1 cQ2 cZ0 cZ1 cZ2 cZ3 hlq hlp hlQ hlZ
  refine (unhide HCo w11 (unhide HSe)).mono ?_
  rintro e w12 ⟨rfl, hbN⟩
  have hsz := hbN.size
  have kq := blk_below kq hbN (blk_lt kq)
  have kp := blk_below kp hbN (blk_lt kp)
  have kQ := blk_below kQ hbN (blk_lt kQ)
  have kZ := blk_below kZ hbN (blk_lt kZ)
  have HXp := hide ((unhide HXp).below hbN)
  have HX5 := hide ((unhide HX5).below hbN)
  have HSe := hide ((unhide HSe).below hbN)
  have HB := hide ((unhide HB).trans (hbN.mono (by omega)))
  have hs : B + 2 ≤ w12.heap.size := by omega
  clear hbN hsz
  have hlq : B < w12.heap.size := blk_lt kq
  have cq0 : w12.cell? ⟨B, 0, none⟩ = some (.int .u8 (q.r.toNat : Int)) := blk_cell kq 0
  have cq1 : w12.cell? ⟨B, 1, none⟩ = some (.int .u8 (q.g.toNat : Int)) := blk_cell kq 1
  have cq2 : w12.cell? ⟨B, 2, none⟩ = some (.int .u8 (q.b.toNat : Int)) := blk_cell kq 2
  have cq3 : w12.cell? ⟨B, 3, none⟩ = some (.int .u8 (q.a.toNat : Int)) := blk_cell kq 3
  have hlp : B + 1 < w12.heap.size := blk_lt kp
  have cp0 : w12.cell? ⟨B + 1, 0, none⟩ = some (.int .i64 (W : Int)) := blk_cell kp 0
  have cp1 : w12.cell? ⟨B + 1, 1, none⟩ = some (.int .i64 (H : Int)) := blk_cell kp 1
  have cp2 : w12.cell? ⟨B + 1, 2, none⟩ = some (.slice a n c) := blk_cell kp 2
  have hlQ : bQ < w12.heap.size := blk_lt kQ
  have cQ0 : w12.cell? ⟨bQ, 0, none⟩ = some (.int .i64 0) := blk_cell kQ 0
  have cQ1 : w12.cell? ⟨bQ, 1, none⟩ = some (.int .i64 0) := blk_cell kQ 1
  have cQ2 : w12.cell? ⟨bQ, 2, none⟩ = some (.slice none 0 0) := blk_cell kQ 2
  have hlZ : bZ < w12.heap.size := blk_lt kZ
  have cZ0 : w12.cell? ⟨bZ, 0, none⟩ = some (.int .u8 0) := blk_cell kZ 0
  have cZ1 : w12.cell? ⟨bZ, 1, none⟩ = some (.int .u8 0) := blk_cell kZ 1
  have cZ2 : w12.cell? ⟨bZ, 2, none⟩ = some (.int .u8 0) := blk_cell kZ 2
  have cZ3 : w12.cell? ⟨bZ, 3, none⟩ = some (.int .u8 0) := blk_cell kZ 3
  go_wp2
  clear cq0 cq1 cq2 cq3 cp0 cp1 cp2 cQ0 cQ1 cQ2 cZ0 cZ1 cZ2 cZ3 hlq hlp hlQ hlZ
  go_ret
  exact ⟨rfl, by rw [← unhide HBE]; exact unhide HB⟩
set_option maxHeartbeats 4000000 in
set_option maxRecDepth 100000 in
theorem rasterNew_bad1_ok (u v : Int) (q : Px) (W H : Nat) (a : Option Addr) (n c : Nat) (p : Nat → Px) (x y : Nat) (w : World) (A : Nat → Addr) (hS : Sent w A) (hP : IsPx w a n p) (hn3 : n ≤ 3000) (hu : ¬ (1 ≤ u ∧ u ≤ 256)) (hW0 : 1 ≤ W) (hW : W ≤ 256) (hH0 : 1 ≤ H) (hH : H ≤ 256) (hn : n = W * H) (hx : x < W) (hy : y < H) :
    Calls Tryd.prog 3 #[.int .i64 u, .int .i64 v, q.val, .agg #[.int .i64 (W : Int), .int .i64 (H : Int), .slice a n c], .int .i64 (x : Int), .int .i64 (y : Int)] w fun e w' => e = .returned (.bool true) ∧ Below w.heap.size w w' := by
  have HPL := hide plainly_any
  have HSM := hide (fun w => small_any (W : Int) (H : Int) a n c w)
  rw [decide_eq_true hn3] at HSM
  have HU := hide (fun w => side_any u w)
  have HV := hide (fun w => side_any v w)
  have HRT := hide (fun w => pright_any (W : Int) (H : Int) a n c w)
  have HIN := hide (fun w => inP_any (W : Int) (H : Int) (x : Int) (y : Int) a n c w)
  have HO := hide (fun w (h : IsPx w a n p) => own_isPx (W : Int) (H : Int) a n c p w h (by omega))
  have HX := hide hP
  have HS0 := hide hS
  rw [decide_eq_false hu] at HU
  have HN := hide (fun w (h : Sent w A) => new_bound u v q w _ _ (h.cell 1 (by omega)) (fun k => hu k.1))
  have HTe := hide (fun w (h : Sent w A) => told_err 1 2 0 0 none 0 0 w A h (by omega) rfl)
  rw [decide_eq_true (rightN hW0 hW hH0 hH hn)] at HRT
  rw [decide_eq_true (show (0 : Int) ≤ x ∧ (0 : Int) ≤ y ∧ (x : Int) < W ∧ (y : Int) < H by omega)] at HIN
  have HAt := hide (fun w a c (h : IsPx w a n p) => rAt_ok W H a n c x y p w hW0 hW hH0 hH hn h hx hy)
  have hlt : y * W + x < n := by rw [hn]; exact place_lt hx hy
  have hyW : y * W ≤ 65536 := Nat.mul_le_mul (show y ≤ 256 by omega) hW
  obtain ⟨t, ht⟩ : ∃ t, t = y * W := ⟨_, rfl⟩
  have zt : (y : Int) * (W : Int) = (t : Int) := by rw [ht]; simp
  rw [← ht] at hlt hyW HAt
  have wt : IntKind.i64.wrap (t : Int) = (t : Int) := by rw [IntKind.wrap_i64]; omega
  obtain ⟨k, hk⟩ : ∃ k, k = t + x := ⟨_, rfl⟩
  have e0 : (t : Int) + (x : Int) = (k : Int) := by rw [hk]; simp
  rw [← hk] at hlt HAt
  have wk : IntKind.i64.wrap (k : Int) = (k : Int) := by rw [IntKind.wrap_i64]; omega
  have hkn : (k : Int) < (n : Int) := by omega
  clear hk ht hx hy
  clear hn3 hP hS hu hW0 hW hH0 hH hn
  unfold Px.val at *
  have HA := hide (al2 w (.cells #[.int .u8 (q.r.toNat : Int), .int .u8 (q.g.toNat : Int), .int .u8 (q.b.toNat : Int), .int .u8 (q.a.toNat : Int)] 23) (.cells #[.int .i64 (W : Int), .int .i64 (H : Int), .slice a n c] 26))
  obtain ⟨B, hB⟩ : ∃ B, B = w.heap.size := ⟨_, rfl⟩
  go_enter Tryd.func3, Tryd.ntmps3
  go_wp2_with fail
  generalize ((w.alloc (.cells #[.int .u8 (q.r.toNat : Int), .int .u8 (q.g.toNat : Int), .int .u8 (q.b.toNat : Int), .int .u8 (q.a.toNat : Int)] 23)).alloc (.cells #[.int .i64 (W : Int), .int .i64 (H : Int), .slice a n c] 26)) = w1 at *
  rw [← hB] at HA ⊢
  obtain ⟨hs1, kq, kp, hb1⟩ := unhide HA
  have HBE := hide hB
  clear HA hB
  have hs : B + 2 ≤ w1.heap.size := by omega
  have HB := hide hb1
  clear hs1 hb1
  have HXp := hide ((unhide HX).under (unhide HB) (fun x hx h0 => by rw [unhide HBE]; exact (unhide HX).lt x hx h0))
  have HSe := hide ((unhide HS0).below (by rw [← unhide HBE]; exact unhide HB))
  clear HX HS0
  refine (unhide HPL _).mono ?_
  rintro e w2 ⟨rfl, hbN⟩
  have hsz := hbN.size
  have kq := blk_below kq hbN (blk_lt kq)
  have kp := blk_below kp hbN (blk_lt kp)
  have HXp := hide ((unhide HXp).below hbN)
  have HSe := hide ((unhide HSe).below hbN)
  have HB := hide ((unhide HB).trans (hbN.mono (by omega)))
  have hs : B + 2 ≤ w2.heap.size := by omega
  clear hbN hsz
  have hlq : B < w2.heap.size := blk_lt kq
  have cq0 : w2.cell? ⟨B, 0, none⟩ = some (.int .u8 (q.r.toNat : Int)) := blk_cell kq 0
  have cq1 : w2.cell? ⟨B, 1, none⟩ = some (.int .u8 (q.g.toNat : Int)) := blk_cell kq 1
  have cq2 : w2.cell? ⟨B, 2, none⟩ = some (.int .u8 (q.b.toNat : Int)) := blk_cell kq 2
  have cq3 : w2.cell? ⟨B, 3, none⟩ = some (.int .u8 (q.a.toNat : Int)) := blk_cell kq 3
  have hlp : B + 1 < w2.heap.size := blk_lt kp
  have cp0 : w2.cell? ⟨B + 1, 0, none⟩ = some (.int .i64 (W : Int)) := blk_cell kp 0
  have cp1 : w2.cell? ⟨B + 1, 1, none⟩ = some (.int .i64 (H : Int)) := blk_cell kp 1
  have cp2 : w2.cell? ⟨B + 1, 2, none⟩ = some (.slice a n c) := blk_cell kp 2
  go_wp2_with fail
  clear cq0 cq1 cq2 cq3 cp0 cp1 cp2 hlq hlp
  refine (unhide HSM _).mono ?_
  rintro e w3 ⟨rfl, hbN⟩
  have hsz := hbN.size
  have kq := blk_below kq hbN (blk_lt kq)
  have kp := blk_below kp hbN (blk_lt kp)
  have HXp := hide ((unhide HXp).below hbN)
  have HSe := hide ((unhide HSe).below hbN)
  have HB := hide ((unhide HB).trans (hbN.mono (by omega)))
  have hs : B + 2 ≤ w3.heap.size := by omega
  clear hbN hsz
  have hlq : B < w3.heap.size := blk_lt kq
  have cq0 : w3.cell? ⟨B, 0, none⟩ = some (.int .u8 (q.r.toNat : Int)) := blk_cell kq 0
  have cq1 : w3.cell? ⟨B, 1, none⟩ = some (.int .u8 (q.g.toNat : Int)) := blk_cell kq 1
  have cq2 : w3.cell? ⟨B, 2, none⟩ = some (.int .u8 (q.b.toNat : Int)) := blk_cell kq 2
  have cq3 : w3.cell? ⟨B, 3, none⟩ = some (.int .u8 (q.a.toNat : Int)) := blk_cell kq 3
  have hlp : B + 1 < w3.heap.size := blk_lt kp
  have cp0 : w3.cell? ⟨B + 1, 0, none⟩ = some (.int .i64 (W : Int)) := blk_cell kp 0
  have cp1 : w3.cell? ⟨B + 1, 1, none⟩ = some (.int .i64 (H : Int)) := blk_cell kp 1
  have cp2 : w3.cell? ⟨B + 1, 2, none⟩ = some (.slice a n c) := blk_cell kp 2
  go_wp2_with fail
  clear cq0 cq1 cq2 cq3 cp0 cp1 cp2 hlq hlp
  refine (unhide HN w3 (unhide HSe)).mono ?_
  rintro e w4 ⟨rfl, hbN⟩
  have hsz := hbN.size
  have kq := blk_below kq hbN (blk_lt kq)
  have kp := blk_below kp hbN (blk_lt kp)
  have HXp := hide ((unhide HXp).below hbN)
  have HSe := hide ((unhide HSe).below hbN)
  have HB := hide ((unhide HB).trans (hbN.mono (by omega)))
  have hs : B + 2 ≤ w4.heap.size := by omega
  clear hbN hsz
  have hlq : B < w4.heap.size := blk_lt kq
  have cq0 : w4.cell? ⟨B, 0, none⟩ = some (.int .u8 (q.r.toNat : Int)) := blk_cell kq 0
  have cq1 : w4.cell? ⟨B, 1, none⟩ = some (.int .u8 (q.g.toNat : Int)) := blk_cell kq 1
  have cq2 : w4.cell? ⟨B, 2, none⟩ = some (.int .u8 (q.b.toNat : Int)) := blk_cell kq 2
  have cq3 : w4.cell? ⟨B, 3, none⟩ = some (.int .u8 (q.a.toNat : Int)) := blk_cell kq 3
  have hlp : B + 1 < w4.heap.size := blk_lt kp
  have cp0 : w4.cell? ⟨B + 1, 0, none⟩ = some (.int .i64 (W : Int)) := blk_cell kp 0
  have cp1 : w4.cell? ⟨B + 1, 1, none⟩ = some (.int .i64 (H : Int)) := blk_cell kp 1
  have cp2 : w4.cell? ⟨B + 1, 2, none⟩ = some (.slice a n c) := blk_cell kp 2
  have HA := hide (al1 w4 (.cells #[.int .i64 0, .int .i64 0, .slice none 0 0] 26))
  obtain ⟨bQ, heqQ⟩ : ∃ b, b = w4.heap.size := ⟨_, rfl⟩
  go_wp2_with fail
  clear cq0 cq1 cq2 cq3 cp0 cp1 cp2 hlq hlp
  generalize w4.alloc (.cells #[.int .i64 0, .int .i64 0, .slice none 0 0] 26) = w5 at *
  rw [← heqQ] at HA ⊢
  obtain ⟨hsA, kQ, hbA⟩ := unhide HA
  rw [heqQ] at hbA
  have ltQq : B < bQ := by rw [heqQ]; exact blk_lt kq
  have ltQp : B + 1 < bQ := by rw [heqQ]; exact blk_lt kp
  have hgB : B ≤ bQ := by rw [heqQ]; omega
  clear HA
  have hsz := hbA.size
  have kq := blk_below kq hbA (blk_lt kq)
  have kp := blk_below kp hbA (blk_lt kp)
  have HXp := hide ((unhide HXp).below hbA)
  have HSe := hide ((unhide HSe).below hbA)
  have HB := hide ((unhide HB).trans (hbA.mono (by omega)))
  have hs : B + 2 ≤ w5.heap.size := by omega
  clear hbA hsz
  clear heqQ hsA
  refine (unhide HU _).mono ?_
  rintro e w5 ⟨rfl, rfl⟩
  have hlq : B < w5.heap.size := blk_lt kq
  have cq0 : w5.cell? ⟨B, 0, none⟩ = some (.int .u8 (q.r.toNat : Int)) := blk_cell kq 0
  have cq1 : w5.cell? ⟨B, 1, none⟩ = some (.int .u8 (q.g.toNat : Int)) := blk_cell kq 1
  have cq2 : w5.cell? ⟨B, 2, none⟩ = some (.int .u8 (q.b.toNat : Int)) := blk_cell kq 2
  have cq3 : w5.cell? ⟨B, 3, none⟩ = some (.int .u8 (q.a.toNat : Int)) := blk_cell kq 3
  have hlp : B + 1 < w5.heap.size := blk_lt kp
  have cp0 : w5.cell? ⟨B + 1, 0, none⟩ = some (.int .i64 (W : Int)) := blk_cell kp 0
  have cp1 : w5.cell? ⟨B + 1, 1, none⟩ = some (.int .i64 (H : Int)) := blk_cell kp 1
  have cp2 : w5.cell? ⟨B + 1, 2, none⟩ = some (.slice a n c) := blk_cell kp 2
  have hlQ : bQ < w5.heap.size := blk_lt kQ
  have cQ0 : w5.cell? ⟨bQ, 0, none⟩ = some (.int .i64 0) := blk_cell kQ 0
  have cQ1 : w5.cell? ⟨bQ, 1, none⟩ = some (.int .i64 0) := blk_cell kQ 1
  have cQ2 : w5.cell? ⟨bQ, 2, none⟩ = some (.slice none 0 0) := blk_cell kQ 2
  go_wp2_with fail
  clear cq0 cq1 cq2 cq3 cp0 cp1 cp2 cQ0 cQ1 cQ2 hlq hlp hlQ
  refine (unhide HTe w5 (unhide HSe)).mono ?_
  rintro e w6 ⟨rfl, hbN⟩
  have hsz := hbN.size
  have kq := blk_below kq hbN (blk_lt kq)
  have kp := blk_below kp hbN (blk_lt kp)
  have kQ := blk_below kQ hbN (blk_lt kQ)
  have HXp := hide ((unhide HXp).below hbN)
  have HSe := hide ((unhide HSe).below hbN)
  have HB := hide ((unhide HB).trans (hbN.mono (by omega)))
  have hs : B + 2 ≤ w6.heap.size := by omega
  clear hbN hsz
  have hlq : B < w6.heap.size := blk_lt kq
  have cq0 : w6.cell? ⟨B, 0, none⟩ = some (.int .u8 (q.r.toNat : Int)) := blk_cell kq 0
  have cq1 : w6.cell? ⟨B, 1, none⟩ = some (.int .u8 (q.g.toNat : Int)) := blk_cell kq 1
  have cq2 : w6.cell? ⟨B, 2, none⟩ = some (.int .u8 (q.b.toNat : Int)) := blk_cell kq 2
  have cq3 : w6.cell? ⟨B, 3, none⟩ = some (.int .u8 (q.a.toNat : Int)) := blk_cell kq 3
  have hlp : B + 1 < w6.heap.size := blk_lt kp
  have cp0 : w6.cell? ⟨B + 1, 0, none⟩ = some (.int .i64 (W : Int)) := blk_cell kp 0
  have cp1 : w6.cell? ⟨B + 1, 1, none⟩ = some (.int .i64 (H : Int)) := blk_cell kp 1
  have cp2 : w6.cell? ⟨B + 1, 2, none⟩ = some (.slice a n c) := blk_cell kp 2
  have hlQ : bQ < w6.heap.size := blk_lt kQ
  have cQ0 : w6.cell? ⟨bQ, 0, none⟩ = some (.int .i64 0) := blk_cell kQ 0
  have cQ1 : w6.cell? ⟨bQ, 1, none⟩ = some (.int .i64 0) := blk_cell kQ 1
  have cQ2 : w6.cell? ⟨bQ, 2, none⟩ = some (.slice none 0 0) := blk_cell kQ 2
  go_wp2_with fail
  clear cq0 cq1 cq2 cq3 cp0 cp1 cp2 cQ0 cQ1 cQ2 hlq hlp hlQ
  refine (unhide HO w6 (unhide HXp)).mono ?_
  rintro e w7 ⟨a5, c5, rfl, hpx, hbN⟩
  have hsz := hbN.size
  have kq := blk_below kq hbN (blk_lt kq)
  have kp := blk_below kp hbN (blk_lt kp)
  have kQ := blk_below kQ hbN (blk_lt kQ)
  have HXp := hide ((unhide HXp).below hbN)
  have HSe := hide ((unhide HSe).below hbN)
  have HB := hide ((unhide HB).trans (hbN.mono (by omega)))
  have hs : B + 2 ≤ w7.heap.size := by omega
  clear hbN hsz
  have HX5 := hide hpx
  clear hpx
  have hlq : B < w7.heap.size := blk_lt kq
  have cq0 : w7.cell? ⟨B, 0, none⟩ = some (.int .u8 (q.r.toNat : Int)) := blk_cell kq 0
  have cq1 : w7.cell? ⟨B, 1, none⟩ = some (.int .u8 (q.g.toNat : Int)) := blk_cell kq 1
  have cq2 : w7.cell? ⟨B, 2, none⟩ = some (.int .u8 (q.b.toNat : Int)) := blk_cell kq 2
  have cq3 : w7.cell? ⟨B, 3, none⟩ = some (.int .u8 (q.a.toNat : Int)) := blk_cell kq 3
  have hlp : B + 1 < w7.heap.size := blk_lt kp
  have cp0 : w7.cell? ⟨B + 1, 0, none⟩ = some (.int .i64 (W : Int)) := blk_cell kp 0
  have cp1 : w7.cell? ⟨B + 1, 1, none⟩ = some (.int .i64 (H : Int)) := blk_cell kp 1
  have cp2 : w7.cell? ⟨B + 1, 2, none⟩ = some (.slice a n c) := blk_cell kp 2
  have hlQ : bQ < w7.heap.size := blk_lt kQ
  have cQ0 : w7.cell? ⟨bQ, 0, none⟩ = some (.int .i64 0) := blk_cell kQ 0
  have cQ1 : w7.cell? ⟨bQ, 1, none⟩ = some (.int .i64 0) := blk_cell kQ 1
  have cQ2 : w7.cell? ⟨bQ, 2, none⟩ = some (.slice none 0 0) := blk_cell kQ 2
  go_wp2_with fail
  clear cq0 cq1 cq2 cq3 cp0 cp1 cp2 cQ0 cQ1 cQ2 hlq hlp hlQ
  refine (unhide HAt w7 _ _ (unhide HX5)).mono ?_
  rintro e w8 ⟨rfl, hbN⟩
  have hsz := hbN.size
  have kq := blk_below kq hbN (blk_lt kq)
  have kp := blk_below kp hbN (blk_lt kp)
  have kQ := blk_below kQ hbN (blk_lt kQ)
  have HXp := hide ((unhide HXp).below hbN)
  have HX5 := hide ((unhide HX5).below hbN)
  have HSe := hide ((unhide HSe).below hbN)
  have HB := hide ((unhide HB).trans (hbN.mono (by omega)))
  have hs : B + 2 ≤ w8.heap.size := by omega
  clear hbN hsz
  generalize hqk : p k = qk at *
  have hlq : B < w8.heap.size := blk_lt kq
  have cq0 : w8.cell? ⟨B, 0, none⟩ = some (.int .u8 (q.r.toNat : Int)) := blk_cell kq 0
  have cq1 : w8.cell? ⟨B, 1, none⟩ = some (.int .u8 (q.g.toNat : Int)) := blk_cell kq 1
  have cq2 : w8.cell? ⟨B, 2, none⟩ = some (.int .u8 (q.b.toNat : Int)) := blk_cell kq 2
  have cq3 : w8.cell? ⟨B, 3, none⟩ = some (.int .u8 (q.a.toNat : Int)) := blk_cell kq 3
  have hlp : B + 1 < w8.heap.size := blk_lt kp
  have cp0 : w8.cell? ⟨B + 1, 0, none⟩ = some (.int .i64 (W : Int)) := blk_cell kp 0
  have cp1 : w8.cell? ⟨B + 1, 1, none⟩ = some (.int .i64 (H : Int)) := blk_cell kp 1
  have cp2 : w8.cell? ⟨B + 1, 2, none⟩ = some (.slice a n c) := blk_cell kp 2
  have hlQ : bQ < w8.heap.size := blk_lt kQ
  have cQ0 : w8.cell? ⟨bQ, 0, none⟩ = some (.int .i64 0) := blk_cell kQ 0
  have cQ1 : w8.cell? ⟨bQ, 1, none⟩ = some (.int .i64 0) := blk_cell kQ 1
  have cQ2 : w8.cell? ⟨bQ, 2, none⟩ = some (.slice none 0 0) := blk_cell kQ 2
  have HA := hide (al1 w8 (.cells #[.int .u8 (qk.r.toNat : Int), .int .u8 (qk.g.toNat : Int), .int .u8 (qk.b.toNat : Int), .int .u8 (qk.a.toNat : Int)] 23))
  obtain ⟨bZ, heqZ⟩ : ∃ b, b = w8.heap.size := ⟨_, rfl⟩
  go_wp2_with fail
  clear cq0 cq1 cq2 cq3 cp0 cp1 cp2 cQ0 cQ1 cQ2 hlq hlp hlQ
  generalize w8.alloc (.cells #[.int .u8 (qk.r.toNat : Int), .int .u8 (qk.g.toNat : Int), .int .u8 (qk.b.toNat : Int), .int .u8 (qk.a.toNat : Int)] 23) = w9 at *
  rw [← heqZ] at HA ⊢
  obtain ⟨hsA, kZ, hbA⟩ := unhide HA
  rw [heqZ] at hbA
  have ltZq : B < bZ := by rw [heqZ]; exact blk_lt kq
  have ltZp : B + 1 < bZ := by rw [heqZ]; exact blk_lt kp
  have ltZQ : bQ < bZ := by rw [heqZ]; exact blk_lt kQ
  have hgB : B ≤ bZ := by rw [heqZ]; omega
  clear HA
  have hsz := hbA.size
  have kq := blk_below kq hbA (blk_lt kq)
  have kp := blk_below kp hbA (blk_lt kp)
  have kQ := blk_below kQ hbA (blk_lt kQ)
  have HXp := hide ((unhide HXp).below hbA)
  have HX5 := hide ((unhide HX5).below hbA)
  have HSe := hide ((unhide HSe).below hbA)
  have HB := hide ((unhide HB).trans (hbA.mono (by omega)))
  have hs : B + 2 ≤ w9.heap.size := by omega
  clear hbA hsz
  clear heqZ hsA
  refine (unhide HIN _).mono ?_
  rintro e w10 ⟨rfl, hbN⟩
  have hsz := hbN.size
  have kq := blk_below kq hbN (blk_lt kq)
  have kp := blk_below kp hbN (blk_lt kp)
  have kQ := blk_below kQ hbN (blk_lt kQ)
  have kZ := blk_below kZ hbN (blk_lt kZ)
  have HXp := hide ((unhide HXp).below hbN)
  have HX5 := hide ((unhide HX5).below hbN)
  have HSe := hide ((unhide HSe).below hbN)
  have HB := hide ((unhide HB).trans (hbN.mono (by omega)))
  have hs : B + 2 ≤ w10.heap.size := by omega
  clear hbN hsz
  have hlq : B < w10.heap.size := blk_lt kq
  have cq0 : w10.cell? ⟨B, 0, none⟩ = some (.int .u8 (q.r.toNat : Int)) := blk_cell kq 0
  have cq1 : w10.cell? ⟨B, 1, none⟩ = some (.int .u8 (q.g.toNat : Int)) := blk_cell kq 1
  have cq2 : w10.cell? ⟨B, 2, none⟩ = some (.int .u8 (q.b.toNat : Int)) := blk_cell kq 2
  have cq3 : w10.cell? ⟨B, 3, none⟩ = some (.int .u8 (q.a.toNat : Int)) := blk_cell kq 3
  have hlp : B + 1 < w10.heap.size := blk_lt kp
  have cp0 : w10.cell? ⟨B + 1, 0, none⟩ = some (.int .i64 (W : Int)) := blk_cell kp 0
  have cp1 : w10.cell? ⟨B + 1, 1, none⟩ = some (.int .i64 (H : Int)) := blk_cell kp 1
  have cp2 : w10.cell? ⟨B + 1, 2, none⟩ = some (.slice a n c) := blk_cell kp 2
  have hlQ : bQ < w10.heap.size := blk_lt kQ
  have cQ0 : w10.cell? ⟨bQ, 0, none⟩ = some (.int .i64 0) := blk_cell kQ 0
  have cQ1 : w10.cell? ⟨bQ, 1, none⟩ = some (.int .i64 0) := blk_cell kQ 1
  have cQ2 : w10.cell? ⟨bQ, 2, none⟩ = some (.slice none 0 0) := blk_cell kQ 2
  have hlZ : bZ < w10.heap.size := blk_lt kZ
  have cZ0 : w10.cell? ⟨bZ, 0, none⟩ = some (.int .u8 (qk.r.toNat : Int)) := blk_cell kZ 0
  have cZ1 : w10.cell? ⟨bZ, 1, none⟩ = some (.int .u8 (qk.g.toNat : Int)) := blk_cell kZ 1
  have cZ2 : w10.cell? ⟨bZ, 2, none⟩ = some (.int .u8 (qk.b.toNat : Int)) := blk_cell kZ 2
  have cZ3 : w10.cell? ⟨bZ, 3, none⟩ = some (.int .u8 (qk.a.toNat : Int)) := blk_cell kZ 3
  go_wp2_with fail
  clear cq0 cq1 cq2 cq3 cp0 cp1 cp2 cQ0 cQ1 cQ2 cZ0 cZ1 cZ2 cZ3 hlq hlp hlQ hlZ
  refine (unhide HRT _).mono ?_
  rintro e w11 ⟨rfl, hbN⟩
  have hsz := hbN.size
  have kq := blk_below kq hbN (blk_lt kq)
  have kp := blk_below kp hbN (blk_lt kp)
  have kQ := blk_below kQ hbN (blk_lt kQ)
  have kZ := blk_below kZ hbN (blk_lt kZ)
  have HXp := hide ((unhide HXp).below hbN)
  have HX5 := hide ((unhide HX5).below hbN)
  have HSe := hide ((unhide HSe).below hbN)
  have HB := hide ((unhide HB).trans (hbN.mono (by omega)))
  have hs : B + 2 ≤ w11.heap.size := by omega
  clear hbN hsz
  have hlq : B < w11.heap.size := blk_lt kq
  have cq0 : w11.cell? ⟨B, 0, none⟩ = some (.int .u8 (q.r.toNat : Int)) := blk_cell kq 0
  have cq1 : w11.cell? ⟨B, 1, none⟩ = some (.int .u8 (q.g.toNat : Int)) := blk_cell kq 1
  have cq2 : w11.cell? ⟨B, 2, none⟩ = some (.int .u8 (q.b.toNat : Int)) := blk_cell kq 2
  have cq3 : w11.cell? ⟨B, 3, none⟩ = some (.int .u8 (q.a.toNat : Int)) := blk_cell kq 3
  have hlp : B + 1 < w11.heap.size := blk_lt kp
  have cp0 : w11.cell? ⟨B + 1, 0, none⟩ = some (.int .i64 (W : Int)) := blk_cell kp 0
  have cp1 : w11.cell? ⟨B + 1, 1, none⟩ = some (.int .i64 (H : Int)) := blk_cell kp 1
  have cp2 : w11.cell? ⟨B + 1, 2, none⟩ = some (.slice a n c) := blk_cell kp 2
  have hlQ : bQ < w11.heap.size := blk_lt kQ
  have cQ0 : w11.cell? ⟨bQ, 0, none⟩ = some (.int .i64 0) := blk_cell kQ 0
  have cQ1 : w11.cell? ⟨bQ, 1, none⟩ = some (.int .i64 0) := blk_cell kQ 1
  have cQ2 : w11.cell? ⟨bQ, 2, none⟩ = some (.slice none 0 0) := blk_cell kQ 2
  have hlZ : bZ < w11.heap.size := blk_lt kZ
  have cZ0 : w11.cell? ⟨bZ, 0, none⟩ = some (.int .u8 (qk.r.toNat : Int)) := blk_cell kZ 0
  have cZ1 : w11.cell? ⟨bZ, 1, none⟩ = some (.int .u8 (qk.g.toNat : Int)) := blk_cell kZ 1
  have cZ2 : w11.cell? ⟨bZ, 2, none⟩ = some (.int .u8 (qk.b.toNat : Int)) := blk_cell kZ 2
  have cZ3 : w11.cell? ⟨bZ, 3, none⟩ = some (.int .u8 (qk.a.toNat : Int)) := blk_cell kZ 3
  obtain ⟨b, off, rfl, hm, hc⟩ := (unhide HXp).resolve_left (by omega)
  obtain ⟨t0, t1, t2, t3⟩ := hc k hlt
  rw [hqk] at t0 t1 t2 t3
  clear hc HX5 HXp hqk
  go_wp2
  go_quiet (fail)
  go_wp2
  go_ret
  exact ⟨rfl, by rw [← unhide HBE]; exact below_drewN (unhide HB) _⟩
set_option maxHeartbeats 4000000 in
set_option maxRecDepth 100000 in
theorem rasterNew_bad2_shapein (u v : Int) (q : Px) (W H : Int) (a : Option Addr) (n c : Nat) (p : Nat → Px) (x y : Int) (w : World) (A : Nat → Addr) (hS : Sent w A) (hP : IsPx w a n p) (hn3 : n ≤ 3000) (hu : 1 ≤ u ∧ u ≤ 256) (hv : ¬ (1 ≤ v ∧ v ≤ 256)) (hR : ¬ RightP W H n) (hin : 0 ≤ x ∧ 0 ≤ y ∧ x < W ∧ y < H) :
    Calls Tryd.prog 3 #[.int .i64 u, .int .i64 v, q.val, .agg #[.int .i64 W, .int .i64 H, .slice a n c], .int .i64 x, .int .i64 y] w fun e w' => e = .returned (.bool true) ∧ Below w.heap.size w w' := by
  have HPL := hide plainly_any
  have HSM := hide (fun w => small_any W H a n c w)
  rw [decide_eq_true hn3] at HSM
  have HU := hide (fun w => side_any u w)
  have HV := hide (fun w => side_any v w)
  have HRT := hide (fun w => pright_any W H a n c w)
  have HIN := hide (fun w => inP_any W H x y a n c w)
  have HO := hide (fun w (h : IsPx w a n p) => own_isPx W H a n c p w h (by omega))
  have HX := hide hP
  have HS0 := hide hS
  rw [decide_eq_true hu] at HU
  rw [decide_eq_false hv] at HV
  have HN := hide (fun w (h : Sent w A) => new_bound u v q w _ _ (h.cell 1 (by omega)) (fun k => hv k.2))
  have HTe := hide (fun w (h : Sent w A) => told_err 1 2 0 0 none 0 0 w A h (by omega) rfl)
  rw [decide_eq_false hR] at HRT
  rw [decide_eq_true hin] at HIN
  have HAt := hide (fun w a c (h : Sent w A) => rAt_shape W H a n c x y w _ _ (h.cell 2 (by omega)) hR)
  have HCo := hide (fun w (h : Sent w A) => coded2_sent 2 3 w A h (by omega) rfl)
  clear hn3 hP hS hu hv hR hin
  unfold Px.val at *
  have HA := hide (al2 w (.cells #[.int .u8 (q.r.toNat : Int), .int .u8 (q.g.toNat : Int), .int .u8 (q.b.toNat : Int), .int .u8 (q.a.toNat : Int)] 23) (.cells #[.int .i64 W, .int .i64 H, .slice a n c] 26))
  obtain ⟨B, hB⟩ : ∃ B, B = w.heap.size := ⟨_, rfl⟩
  go_enter Tryd.func3, Tryd.ntmps3
  go_wp2_with fail
  generalize ((w.alloc (.cells #[.int .u8 (q.r.toNat : Int), .int .u8 (q.g.toNat : Int), .int .u8 (q.b.toNat : Int), .int .u8 (q.a.toNat : Int)] 23)).alloc (.cells #[.int .i64 W, .int .i64 H, .slice a n c] 26)) = w1 at *
  rw [← hB] at HA ⊢
  obtain ⟨hs1, kq, kp, hb1⟩ := unhide HA
  have HBE := hide hB
  clear HA hB
  have hs : B + 2 ≤ w1.heap.size := by omega
  have HB := hide hb1
  clear hs1 hb1
  have HXp := hide ((unhide HX).under (unhide HB) (fun x hx h0 => by rw [unhide HBE]; exact (unhide HX).lt x hx h0))
  have HSe := hide ((unhide HS0).below (by rw [← unhide HBE]; exact unhide HB))
  clear HX HS0
  refine (unhide HPL _).mono ?_
  rintro e w2 ⟨rfl, hbN⟩
  have hsz := hbN.size
  have kq := blk_below kq hbN (blk_lt kq)
  have kp := blk_below kp hbN (blk_lt kp)
  have HXp := hide ((unhide HXp).below hbN)
  have HSe := hide ((unhide HSe).below hbN)
  have HB := hide ((unhide HB).trans (hbN.mono (by omega)))
  have hs : B + 2 ≤ w2.heap.size := by omega
  clear hbN hsz
  have hlq : B < w2.heap.size := blk_lt kq
  have cq0 : w2.cell? ⟨B, 0, none⟩ = some (.int .u8 (q.r.toNat : Int)) := blk_cell kq 0
  have cq1 : w2.cell? ⟨B, 1, none⟩ = some (.int .u8 (q.g.toNat : Int)) := blk_cell kq 1
  have cq2 : w2.cell? ⟨B, 2, none⟩ = some (.int .u8 (q.b.toNat : Int)) := blk_cell kq 2
  have cq3 : w2.cell? ⟨B, 3, none⟩ = some (.int .u8 (q.a.toNat : Int)) := blk_cell kq 3
  have hlp : B + 1 < w2.heap.size := blk_lt kp
  have cp0 : w2.cell? ⟨B + 1, 0, none⟩ = some (.int .i64 W) := blk_cell kp 0
  have cp1 : w2.cell? ⟨B + 1, 1, none⟩ = some (.int .i64 H) := blk_cell kp 1
  have cp2 : w2.cell? ⟨B + 1, 2, none⟩ = some (.slice a n c) := blk_cell kp 2
  go_wp2_with fail
  clear cq0 cq1 cq2 cq3 cp0 cp1 cp2 hlq hlp
  refine (unhide HSM _).mono ?_
  rintro e w3 ⟨rfl, hbN⟩
  have hsz := hbN.size
  have kq := blk_below kq hbN (blk_lt kq)
  have kp := blk_below kp hbN (blk_lt kp)
  have HXp := hide ((unhide HXp).below hbN)
  have HSe := hide ((unhide HSe).below hbN)
  have HB := hide ((unhide HB).trans (hbN.mono (by omega)))
  have hs : B + 2 ≤ w3.heap.size := by omega
  clear hbN hsz
  have hlq : B < w3.heap.size := blk_lt kq
  have cq0 : w3.cell? ⟨B, 0, none⟩ = some (.int .u8 (q.r.toNat : Int)) := blk_cell kq 0
  have cq1 : w3.cell? ⟨B, 1, none⟩ = some (.int .u8 (q.g.toNat : Int)) := blk_cell kq 1
  have cq2 : w3.cell? ⟨B, 2, none⟩ = some (.int .u8 (q.b.toNat : Int)) := blk_cell kq 2
  have cq3 : w3.cell? ⟨B, 3, none⟩ = some (.int .u8 (q.a.toNat : Int)) := blk_cell kq 3
  have hlp : B + 1 < w3.heap.size := blk_lt kp
  have cp0 : w3.cell? ⟨B + 1, 0, none⟩ = some (.int .i64 W) := blk_cell kp 0
  have cp1 : w3.cell? ⟨B + 1, 1, none⟩ = some (.int .i64 H) := blk_cell kp 1
  have cp2 : w3.cell? ⟨B + 1, 2, none⟩ = some (.slice a n c) := blk_cell kp 2
  go_wp2_with fail
  clear cq0 cq1 cq2 cq3 cp0 cp1 cp2 hlq hlp
  refine (unhide HN w3 (unhide HSe)).mono ?_
  rintro e w4 ⟨rfl, hbN⟩
  have hsz := hbN.size
  have kq := blk_below kq hbN (blk_lt kq)
  have kp := blk_below kp hbN (blk_lt kp)
  have HXp := hide ((unhide HXp).below hbN)
  have HSe := hide ((unhide HSe).below hbN)
  have HB := hide ((unhide HB).trans (hbN.mono (by omega)))
  have hs : B + 2 ≤ w4.heap.size := by omega
  clear hbN hsz
  have hlq : B < w4.heap.size := blk_lt kq
  have cq0 : w4.cell? ⟨B, 0, none⟩ = some (.int .u8 (q.r.toNat : Int)) := blk_cell kq 0
  have cq1 : w4.cell? ⟨B, 1, none⟩ = some (.int .u8 (q.g.toNat : Int)) := blk_cell kq 1
  have cq2 : w4.cell? ⟨B, 2, none⟩ = some (.int .u8 (q.b.toNat : Int)) := blk_cell kq 2
  have cq3 : w4.cell? ⟨B, 3, none⟩ = some (.int .u8 (q.a.toNat : Int)) := blk_cell kq 3
  have hlp : B + 1 < w4.heap.size := blk_lt kp
  have cp0 : w4.cell? ⟨B + 1, 0, none⟩ = some (.int .i64 W) := blk_cell kp 0
  have cp1 : w4.cell? ⟨B + 1, 1, none⟩ = some (.int .i64 H) := blk_cell kp 1
  have cp2 : w4.cell? ⟨B + 1, 2, none⟩ = some (.slice a n c) := blk_cell kp 2
  have HA := hide (al1 w4 (.cells #[.int .i64 0, .int .i64 0, .slice none 0 0] 26))
  obtain ⟨bQ, heqQ⟩ : ∃ b, b = w4.heap.size := ⟨_, rfl⟩
  go_wp2_with fail
  clear cq0 cq1 cq2 cq3 cp0 cp1 cp2 hlq hlp
  generalize w4.alloc (.cells #[.int .i64 0, .int .i64 0, .slice none 0 0] 26) = w5 at *
  rw [← heqQ] at HA ⊢
  obtain ⟨hsA, kQ, hbA⟩ := unhide HA
  rw [heqQ] at hbA
  have ltQq : B < bQ := by rw [heqQ]; exact blk_lt kq
  have ltQp : B + 1 < bQ := by rw [heqQ]; exact blk_lt kp
  have hgB : B ≤ bQ := by rw [heqQ]; omega
  clear HA
  have hsz := hbA.size
  have kq := blk_below kq hbA (blk_lt kq)
  have kp := blk_below kp hbA (blk_lt kp)
  have HXp := hide ((unhide HXp).below hbA)
  have HSe := hide ((unhide HSe).below hbA)
  have HB := hide ((unhide HB).trans (hbA.mono (by omega)))
  have hs : B + 2 ≤ w5.heap.size := by omega
  clear hbA hsz
  clear heqQ hsA
  refine (unhide HU _).mono ?_
  rintro e w5 ⟨rfl, rfl⟩
  have hlq : B < w5.heap.size := blk_lt kq
  have cq0 : w5.cell? ⟨B, 0, none⟩ = some (.int .u8 (q.r.toNat : Int)) := blk_cell kq 0
  have cq1 : w5.cell? ⟨B, 1, none⟩ = some (.int .u8 (q.g.toNat : Int)) := blk_cell kq 1
  have cq2 : w5.cell? ⟨B, 2, none⟩ = some (.int .u8 (q.b.toNat : Int)) := blk_cell kq 2
  have cq3 : w5.cell? ⟨B, 3, none⟩ = some (.int .u8 (q.a.toNat : Int)) := blk_cell kq 3
  have hlp : B + 1 < w5.heap.size := blk_lt kp
  have cp0 : w5.cell? ⟨B + 1, 0, none⟩ = some (.int .i64 W) := blk_cell kp 0
  have cp1 : w5.cell? ⟨B + 1, 1, none⟩ = some (.int .i64 H) := blk_cell kp 1
  have cp2 : w5.cell? ⟨B + 1, 2, none⟩ = some (.slice a n c) := blk_cell kp 2
  have hlQ : bQ < w5.heap.size := blk_lt kQ
  have cQ0 : w5.cell? ⟨bQ, 0, none⟩ = some (.int .i64 0) := blk_cell kQ 0
  have cQ1 : w5.cell? ⟨bQ, 1, none⟩ = some (.int .i64 0) := blk_cell kQ 1
  have cQ2 : w5.cell? ⟨bQ, 2, none⟩ = some (.slice none 0 0) := blk_cell kQ 2
  go_wp2_with fail
  clear cq0 cq1 cq2 cq3 cp0 cp1 cp2 cQ0 cQ1 cQ2 hlq hlp hlQ
  refine (unhide HV _).mono ?_
  rintro e w5 ⟨rfl, rfl⟩
  have hlq : B < w5.heap.size := blk_lt kq
  have cq0 : w5.cell? ⟨B, 0, none⟩ = some (.int .u8 (q.r.toNat : Int)) := blk_cell kq 0
  have cq1 : w5.cell? ⟨B, 1, none⟩ = some (.int .u8 (q.g.toNat : Int)) := blk_cell kq 1
  have cq2 : w5.cell? ⟨B, 2, none⟩ = some (.int .u8 (q.b.toNat : Int)) := blk_cell kq 2
  have cq3 : w5.cell? ⟨B, 3, none⟩ = some (.int .u8 (q.a.toNat : Int)) := blk_cell kq 3
  have hlp : B + 1 < w5.heap.size := blk_lt kp
  have cp0 : w5.cell? ⟨B + 1, 0, none⟩ = some (.int .i64 W) := blk_cell kp 0
  have cp1 : w5.cell? ⟨B + 1, 1, none⟩ = some (.int .i64 H) := blk_cell kp 1
  have cp2 : w5.cell? ⟨B + 1, 2, none⟩ = some (.slice a n c) := blk_cell kp 2
  have hlQ : bQ < w5.heap.size := blk_lt kQ
  have cQ0 : w5.cell? ⟨bQ, 0, none⟩ = some (.int .i64 0) := blk_cell kQ 0
  have cQ1 : w5.cell? ⟨bQ, 1, none⟩ = some (.int .i64 0) := blk_cell kQ 1
  have cQ2 : w5.cell? ⟨bQ, 2, none⟩ = some (.slice none 0 0) := blk_cell kQ 2
  go_wp2_with fail
  clear cq0 cq1 cq2 cq3 cp0 cp1 cp2 cQ0 cQ1 cQ2 hlq hlp hlQ
  refine (unhide HTe w5 (unhide HSe)).mono ?_
  rintro e w6 ⟨rfl, hbN⟩
  have hsz := hbN.size
  have kq := blk_below kq hbN (blk_lt kq)
  have kp := blk_below kp hbN (blk_lt kp)
  have kQ := blk_below kQ hbN (blk_lt kQ)
  have HXp := hide ((unhide HXp).below hbN)
  have HSe := hide ((unhide HSe).below hbN)
  have HB := hide ((unhide HB).trans (hbN.mono (by omega)))
  have hs : B + 2 ≤ w6.heap.size := by omega
  clear hbN hsz
  have hlq : B < w6.heap.size := blk_lt kq
  have cq0 : w6.cell? ⟨B, 0, none⟩ = some (.int .u8 (q.r.toNat : Int)) := blk_cell kq 0
  have cq1 : w6.cell? ⟨B, 1, none⟩ = some (.int .u8 (q.g.toNat : Int)) := blk_cell kq 1
  have cq2 : w6.cell? ⟨B, 2, none⟩ = some (.int .u8 (q.b.toNat : Int)) := blk_cell kq 2
  have cq3 : w6.cell? ⟨B, 3, none⟩ = some (.int .u8 (q.a.toNat : Int)) := blk_cell kq 3
  have hlp : B + 1 < w6.heap.size := blk_lt kp
  have cp0 : w6.cell? ⟨B + 1, 0, none⟩ = some (.int .i64 W) := blk_cell kp 0
  have cp1 : w6.cell? ⟨B + 1, 1, none⟩ = some (.int .i64 H) := blk_cell kp 1
  have cp2 : w6.cell? ⟨B + 1, 2, none⟩ = some (.slice a n c) := blk_cell kp 2
  have hlQ : bQ < w6.heap.size := blk_lt kQ
  have cQ0 : w6.cell? ⟨bQ, 0, none⟩ = some (.int .i64 0) := blk_cell kQ 0
  have cQ1 : w6.cell? ⟨bQ, 1, none⟩ = some (.int .i64 0) := blk_cell kQ 1
  have cQ2 : w6.cell? ⟨bQ, 2, none⟩ = some (.slice none 0 0) := blk_cell kQ 2
  go_wp2_with fail
  clear cq0 cq1 cq2 cq3 cp0 cp1 cp2 cQ0 cQ1 cQ2 hlq hlp hlQ
  refine (unhide HO w6 (unhide HXp)).mono ?_
  rintro e w7 ⟨a5, c5, rfl, hpx, hbN⟩
  have hsz := hbN.size
  have kq := blk_below kq hbN (blk_lt kq)
  have kp := blk_below kp hbN (blk_lt kp)
  have kQ := blk_below kQ hbN (blk_lt kQ)
  have HXp := hide ((unhide HXp).below hbN)
  have HSe := hide ((unhide HSe).below hbN)
  have HB := hide ((unhide HB).trans (hbN.mono (by omega)))
  have hs : B + 2 ≤ w7.heap.size := by omega
  clear hbN hsz
  have HX5 := hide hpx
  clear hpx
  have hlq : B < w7.heap.size := blk_lt kq
  have cq0 : w7.cell? ⟨B, 0, none⟩ = some (.int .u8 (q.r.toNat : Int)) := blk_cell kq 0
  have cq1 : w7.cell? ⟨B, 1, none⟩ = some (.int .u8 (q.g.toNat : Int)) := blk_cell kq 1
  have cq2 : w7.cell? ⟨B, 2, none⟩ = some (.int .u8 (q.b.toNat : Int)) := blk_cell kq 2
  have cq3 : w7.cell? ⟨B, 3, none⟩ = some (.int .u8 (q.a.toNat : Int)) := blk_cell kq 3
  have hlp : B + 1 < w7.heap.size := blk_lt kp
  have cp0 : w7.cell? ⟨B + 1, 0, none⟩ = some (.int .i64 W) := blk_cell kp 0
  have cp1 : w7.cell? ⟨B + 1, 1, none⟩ = some (.int .i64 H) := blk_cell kp 1
  have cp2 : w7.cell? ⟨B + 1, 2, none⟩ = some (.slice a n c) := blk_cell kp 2
  have hlQ : bQ < w7.heap.size := blk_lt kQ
  have cQ0 : w7.cell? ⟨bQ, 0, none⟩ = some (.int .i64 0) := blk_cell kQ 0
  have cQ1 : w7.cell? ⟨bQ, 1, none⟩ = some (.int .i64 0) := blk_cell kQ 1
  have cQ2 : w7.cell? ⟨bQ, 2, none⟩ = some (.slice none 0 0) := blk_cell kQ 2
  go_wp2_with fail
  clear cq0 cq1 cq2 cq3 cp0 cp1 cp2 cQ0 cQ1 cQ2 hlq hlp hlQ
  refine (unhide HAt w7 _ _ (unhide HSe)).mono ?_
  rintro e w8 ⟨rfl, hbN⟩
  have hsz := hbN.size
  have kq := blk_below kq hbN (blk_lt kq)
  have kp := blk_below kp hbN (blk_lt kp)
  have kQ := blk_below kQ hbN (blk_lt kQ)
  have HXp := hide ((unhide HXp).below hbN)
  have HX5 := hide ((unhide HX5).below hbN)
  have HSe := hide ((unhide HSe).below hbN)
  have HB := hide ((unhide HB).trans (hbN.mono (by omega)))
  have hs : B + 2 ≤ w8.heap.size := by omega
  clear hbN hsz
  have hlq : B < w8.heap.size := blk_lt kq
  have cq0 : w8.cell? ⟨B, 0, none⟩ = some (.int .u8 (q.r.toNat : Int)) := blk_cell kq 0
  have cq1 : w8.cell? ⟨B, 1, none⟩ = some (.int .u8 (q.g.toNat : Int)) := blk_cell kq 1
  have cq2 : w8.cell? ⟨B, 2, none⟩ = some (.int .u8 (q.b.toNat : Int)) := blk_cell kq 2
  have cq3 : w8.cell? ⟨B, 3, none⟩ = some (.int .u8 (q.a.toNat : Int)) := blk_cell kq 3
  have hlp : B + 1 < w8.heap.size := blk_lt kp
  have cp0 : w8.cell? ⟨B + 1, 0, none⟩ = some (.int .i64 W) := blk_cell kp 0
  have cp1 : w8.cell? ⟨B + 1, 1, none⟩ = some (.int .i64 H) := blk_cell kp 1
  have cp2 : w8.cell? ⟨B + 1, 2, none⟩ = some (.slice a n c) := blk_cell kp 2
  have hlQ : bQ < w8.heap.size := blk_lt kQ
  have cQ0 : w8.cell? ⟨bQ, 0, none⟩ = some (.int .i64 0) := blk_cell kQ 0
  have cQ1 : w8.cell? ⟨bQ, 1, none⟩ = some (.int .i64 0) := blk_cell kQ 1
  have cQ2 : w8.cell? ⟨bQ, 2, none⟩ = some (.slice none 0 0) := blk_cell kQ 2
  have HA := hide (al1 w8 (.cells #[.int .u8 0, .int .u8 0, .int .u8 0, .int .u8 0] 23))
  obtain ⟨bZ, heqZ⟩ : ∃ b, b = w8.heap.size := ⟨_, rfl⟩
  go_wp2_with fail
  clear cq0 cq1 cq2 cq3 cp0 cp1 cp2 cQ0 cQ1 cQ2 hlq hlp hlQ
  generalize w8.alloc (.cells #[.int .u8 0, .int .u8 0, .int .u8 0, .int .u8 0] 23) = w9 at *
  rw [← heqZ] at HA ⊢
  obtain ⟨hsA, kZ, hbA⟩ := unhide HA
  rw [heqZ] at hbA
  have ltZq : B < bZ := by rw [heqZ]; exact blk_lt kq
  have ltZp : B + 1 < bZ := by rw [heqZ]; exact blk_lt kp
  have ltZQ : bQ < bZ := by rw [heqZ]; exact blk_lt kQ
  have hgB : B ≤ bZ := by rw [heqZ]; omega
  clear HA
  have hsz := hbA.size
  have kq := blk_below kq hbA (blk_lt kq)
  have kp := blk_below kp hbA (blk_lt kp)
  have kQ := blk_below kQ hbA (blk_lt kQ)
  have HXp := hide ((unhide HXp).below hbA)
  have HX5 := hide ((unhide HX5).below hbA)
  have HSe := hide ((unhide HSe).below hbA)
  have HB := hide ((unhide HB).trans (hbA.mono (by omega)))
  have hs : B + 2 ≤ w9.heap.size := by omega
  clear hbA hsz
  clear heqZ hsA
  refine (unhide HIN _).mono ?_
  rintro e w10 ⟨rfl, hbN⟩
  have hsz := hbN.size
  have kq := blk_below kq hbN (blk_lt kq)
  have kp := blk_below kp hbN (blk_lt kp)
  have kQ := blk_below kQ hbN (blk_lt kQ)
  have kZ := blk_below kZ hbN (blk_lt kZ)
  have HXp := hide ((unhide HXp).below hbN)
  have HX5 := hide ((unhide HX5).below hbN)
  have HSe := hide ((unhide HSe).below hbN)
  have HB := hide ((unhide HB).trans (hbN.mono (by omega)))
  have hs : B + 2 ≤ w10.heap.size := by omega
  clear hbN hsz
  have hlq : B < w10.heap.size := blk_lt kq
  have cq0 : w10.cell? ⟨B, 0, none⟩ = some (.int .u8 (q.r.toNat : Int)) := blk_cell kq 0
  have cq1 : w10.cell? ⟨B, 1, none⟩ = some (.int .u8 (q.g.toNat : Int)) := blk_cell kq 1
  have cq2 : w10.cell? ⟨B, 2, none⟩ = some (.int .u8 (q.b.toNat : Int)) := blk_cell kq 2
  have cq3 : w10.cell? ⟨B, 3, none⟩ = some (.int .u8 (q.a.toNat : Int)) := blk_cell kq 3
  have hlp : B + 1 < w10.heap.size := blk_lt kp
  have cp0 : w10.cell? ⟨B + 1, 0, none⟩ = some (.int .i64 W) := blk_cell kp 0
  have cp1 : w10.cell? ⟨B + 1, 1, none⟩ = some (.int .i64 H) := blk_cell kp 1
  have cp2 : w10.cell? ⟨B + 1, 2, none⟩ = some (.slice a n c) := blk_cell kp 2
  have hlQ : bQ < w10.heap.size := blk_lt kQ
  have cQ0 : w10.cell? ⟨bQ, 0, none⟩ = some (.int .i64 0) := blk_cell kQ 0
  have cQ1 : w10.cell? ⟨bQ, 1, none⟩ = some (.int .i64 0) := blk_cell kQ 1
  have cQ2 : w10.cell? ⟨bQ, 2, none⟩ = some (.slice none 0 0) := blk_cell kQ 2
  have hlZ : bZ < w10.heap.size := blk_lt kZ
  have cZ0 : w10.cell? ⟨bZ, 0, none⟩ = some (.int .u8 0) := blk_cell kZ 0
  have cZ1 : w10.cell? ⟨bZ, 1, none⟩ = some (.int .u8 0) := blk_cell kZ 1
  have cZ2 : w10.cell? ⟨bZ, 2, none⟩ = some (.int .u8 0) := blk_cell kZ 2
  have cZ3 : w10.cell? ⟨bZ, 3, none⟩ = some (.int .u8 0) := blk_cell kZ 3
  go_wp2_with fail
  clear cq0 cq1 cq2 cq3 cp0 cp1 cp2 cQ0 cQ1 cQ2 cZ0 cZ1 cZ2 cZ3 hlq hlp hlQ hlZ
  refine (unhide HRT _).mono ?_
  rintro e w11 ⟨rfl, hbN⟩
  have hsz := hbN.size
  have kq := blk_below kq hbN (blk_lt kq)
  have kp := blk_below kp hbN (blk_lt kp)
  have kQ := blk_below kQ hbN (blk_lt kQ)
  have kZ := blk_below kZ hbN (blk_lt kZ)
  have HXp := hide ((unhide HXp).below hbN)
  have HX5 := hide ((unhide HX5).below hbN)
  have HSe := hide ((unhide HSe).below hbN)
  have HB := hide ((unhide HB).trans (hbN.mono (by omega)))
  have hs : B + 2 ≤ w11.heap.size := by omega
  clear hbN hsz
  have hlq : B < w11.heap.size := blk_lt kq
  have cq0 : w11.cell? ⟨B, 0, none⟩ = some (.int .u8 (q.r.toNat : Int)) := blk_cell kq 0
  have cq1 : w11.cell? ⟨B, 1, none⟩ = some (.int .u8 (q.g.toNat : Int)) := blk_cell kq 1
  have cq2 : w11.cell? ⟨B, 2, none⟩ = some (.int .u8 (q.b.toNat : Int)) := blk_cell kq 2
  have cq3 : w11.cell? ⟨B, 3, none⟩ = some (.int .u8 (q.a.toNat : Int)) := blk_cell kq 3
  have hlp : B + 1 < w11.heap.size := blk_lt kp
  have cp0 : w11.cell? ⟨B + 1, 0, none⟩ = some (.int .i64 W) := blk_cell kp 0
  have cp1 : w11.cell? ⟨B + 1, 1, none⟩ = some (.int .i64 H) := blk_cell kp 1
  have cp2 : w11.cell? ⟨B + 1, 2, none⟩ = some (.slice a n c) := blk_cell kp 2
  have hlQ : bQ < w11.heap.size := blk_lt kQ
  have cQ0 : w11.cell? ⟨bQ, 0, none⟩ = some (.int .i64 0) := blk_cell kQ 0
  have cQ1 : w11.cell? ⟨bQ, 1, none⟩ = some (.int .i64 0) := blk_cell kQ 1
  have cQ2 : w11.cell? ⟨bQ, 2, none⟩ = some (.slice none 0 0) := blk_cell kQ 2
  have hlZ : bZ < w11.heap.size := blk_lt kZ
  have cZ0 : w11.cell? ⟨bZ, 0, none⟩ = some (.int .u8 0) := blk_cell kZ 0
  have cZ1 : w11.cell? ⟨bZ, 1, none⟩ = some (.int .u8 0) := blk_cell kZ 1
  have cZ2 : w11.cell? ⟨bZ, 2, none⟩ = some (.int .u8 0) := blk_cell kZ 2
  have cZ3 : w11.cell? ⟨bZ, 3, none⟩ = some (.int .u8 0) := blk_cell kZ 3
  go_wp2_with fail
  clear cq0 cq1 cq2 cq3 cp0 cp1 cp2 cQ0 cQ1 cQ2 cZ0 cZ1 cZ2 cZ3 hlq hlp hlQ hlZ
  refine (unhide HCo w11 (unhide HSe)).mono ?_
  rintro e w12 ⟨rfl, hbN⟩
  have hsz := hbN.size
  have kq := blk_below kq hbN (blk_lt kq)
  have kp := blk_below kp hbN (blk_lt kp)
  have kQ := blk_below kQ hbN (blk_lt kQ)
  have kZ := blk_below kZ hbN (blk_lt kZ)
  have HXp := hide ((unhide HXp).below hbN)
  have HX5 := hide ((unhide HX5).below hbN)
  have HSe := hide ((unhide HSe).below hbN)
  have HB := hide ((unhide HB).trans (hbN.mono (by omega)))
  have hs : B + 2 ≤ w12.heap.size := by omega
  clear hbN hsz
  have hlq : B < w12.heap.size := blk_lt kq
  have cq0 : w12.cell? ⟨B, 0, none⟩ = some (.int .u8 (q.r.toNat : Int)) := blk_cell kq 0
  have cq1 : w12.cell? ⟨B, 1, none⟩ = some (.int .u8 (q.g.toNat : Int)) := blk_cell kq 1
  have cq2 : w12.cell? ⟨B, 2, none⟩ = some (.int .u8 (q.b.toNat : Int)) := blk_cell kq 2
  have cq3 : w12.cell? ⟨B, 3, none⟩ = some (.int .u8 (q.a.toNat : Int)) := blk_cell kq 3
  have hlp : B + 1 < w12.heap.size := blk_lt kp
  have cp0 : w12.cell? ⟨B + 1, 0, none⟩ = some (.int .i64 W) := blk_cell kp 0
  have cp1 : w12.cell? ⟨B + 1, 1, none⟩ = some (.int .i64 H) := blk_cell kp 1
  have cp2 : w12.cell? ⟨B + 1, 2, none⟩ = some (.slice a n c) := blk_cell kp 2
  have hlQ : bQ < w12.heap.size := blk_lt kQ
  have cQ0 : w12.cell? ⟨bQ, 0, none⟩ = some (.int .i64 0) := blk_cell kQ 0
  have cQ1 : w12.cell? ⟨bQ, 1, none⟩ = some (.int .i64 0) := blk_cell kQ 1
  have cQ2 : w12.cell? ⟨bQ, 2, none⟩ = some (.slice none 0 0) := blk_cell kQ 2
  have hlZ : bZ < w12.heap.size := blk_lt kZ
  have cZ0 : w12.cell? ⟨bZ, 0, none⟩ = some (.int .u8 0) := blk_cell kZ 0
  have cZ1 : w12.cell? ⟨bZ, 1, none⟩ = some (.int .u8 0) := blk_cell kZ 1
  have cZ2 : w12.cell? ⟨bZ, 2, none⟩ = some (.int .u8 0) := blk_cell kZ 2
  have cZ3 : w12.cell? ⟨bZ, 3, none⟩ = some (.int .u8 0) := blk_cell kZ 3
  go_wp2
  clear cq0 cq1 cq2 cq3 cp0 cp1 cp2 cQ0 cQ1 cQ2 cZ0 cZ1 cZ2 cZ3 hlq hlp hlQ hlZ
  go_ret
  exact ⟨rfl, by rw [← unhide HBE]; exact unhide HB⟩
set_option maxHeartbeats 4000000 in
set_option maxRecDepth 100000 in
theorem rasterNew_bad2_shapeout (u v : Int) (q : Px) (W H : Int) (a : Option Addr) (n c : Nat) (p : Nat → Px) (x y : Int) (w : World) (A : Nat → Addr) (hS : Sent w A) (hP : IsPx w a n p) (hn3 : n ≤ 3000) (hu : 1 ≤ u ∧ u ≤ 256) (hv : ¬ (1 ≤ v ∧ v ≤ 256)) (hR : ¬ RightP W H n) (hin : ¬ (0 ≤ x ∧ 0 ≤ y ∧ x < W ∧ y < H)) :
    Calls Tryd.prog 3 #[.int .i64 u, .int .i64 v, q.val, .agg #[.int .i64 W, .int .i64 H, .slice a n c], .int .i64 x, .int .i64 y] w fun e w' => e = .returned (.bool true) ∧ Below w.heap.size w w' := by
  have HPL := hide plainly_any
  have HSM := hide (fun w => small_any W H a n c w)
  rw [decide_eq_true hn3] at HSM
  have HU := hide (fun w => side_any u w)
  have HV := hide (fun w => side_any v w)
  have HRT := hide (fun w => pright_any W H a n c w)
  have HIN := hide (fun w => inP_any W H x y a n c w)
  have HO := hide (fun w (h : IsPx w a n p) => own_isPx W H a n c p w h (by omega))
  have HX := hide hP
  have HS0 := hide hS
  rw [decide_eq_true hu] at HU
  rw [decide_eq_false hv] at HV
  have HN := hide (fun w (h : Sent w A) => new_bound u v q w _ _ (h.cell 1 (by omega)) (fun k => hv k.2))
  have HTe := hide (fun w (h : Sent w A) => told_err 1 2 0 0 none 0 0 w A h (by omega) rfl)
  rw [decide_eq_false hR] at HRT
  rw [decide_eq_false hin] at HIN
  have HAt := hide (fun w a c (h : Sent w A) => rAt_shape W H a n c x y w _ _ (h.cell 2 (by omega)) hR)
  have HCo := hide (fun w (h : Sent w A) => coded2_sent 2 3 w A h (by omega) rfl)
  clear hn3 hP hS hu hv hR hin
  unfold Px.val at *
  have HA := hide (al2 w (.cells #[.int .u8 (q.r.toNat : Int), .int .u8 (q.g.toNat : Int), .int .u8 (q.b.toNat : Int), .int .u8 (q.a.toNat : Int)] 23) (.cells #[.int .i64 W, .int .i64 H, .slice a n c] 26))
  obtain ⟨B, hB⟩ : ∃ B, B = w.heap.size := ⟨_, rfl⟩
  go_enter Tryd.func3, Tryd.ntmps3
  go_wp2_with fail
  generalize ((w.alloc (.cells #[.int .u8 (q.r.toNat : Int), .int .u8 (q.g.toNat : Int), .int .u8 (q.b.toNat : Int), .int .u8 (q.a.toNat : Int)] 23)).alloc (.cells #[.int .i64 W, .int .i64 H, .slice a n c] 26)) = w1 at *
  rw [← hB] at HA ⊢
  obtain ⟨hs1, kq, kp, hb1⟩ := unhide HA
  have HBE := hide hB
  clear HA hB
  have hs : B + 2 ≤ w1.heap.size := by omega
  have HB := hide hb1
  clear hs1 hb1
  have HXp := hide ((unhide HX).under (unhide HB) (fun x hx h0 => by rw [unhide HBE]; exact (unhide HX).lt x hx h0))
  have HSe := hide ((unhide HS0).below (by rw [← unhide HBE]; exact unhide HB))
  clear HX HS0
  refine (unhide HPL _).mono ?_
  rintro e w2 ⟨rfl, hbN⟩
  have hsz := hbN.size
  have kq := blk_below kq hbN (blk_lt kq)
  have kp := blk_below kp hbN (blk_lt kp)
  have HXp := hide ((unhide HXp).below hbN)
  have HSe := hide ((unhide HSe).below hbN)
  have HB := hide ((unhide HB).trans (hbN.mono (by omega)))
  have hs : B + 2 ≤ w2.heap.size := by omega
  clear hbN hsz
  have hlq : B < w2.heap.size := blk_lt kq
  have cq0 : w2.cell? ⟨B, 0, none⟩ = some (.int .u8 (q.r.toNat : Int)) := blk_cell kq 0
  have cq1 : w2.cell? ⟨B, 1, none⟩ = some (.int .u8 (q.g.toNat : Int)) := blk_cell kq 1
  have cq2 : w2.cell? ⟨B, 2, none⟩ = some (.int .u8 (q.b.toNat : Int)) := blk_cell kq 2
  have cq3 : w2.cell? ⟨B, 3, none⟩ = some (.int .u8 (q.a.toNat : Int)) := blk_cell kq 3
  have hlp : B + 1 < w2.heap.size := blk_lt kp
  have cp0 : w2.cell? ⟨B + 1, 0, none⟩ = some (.int .i64 W) := blk_cell kp 0
  have cp1 : w2.cell? ⟨B + 1, 1, none⟩ = some (.int .i64 H) := blk_cell kp 1
  have cp2 : w2.cell? ⟨B + 1, 2, none⟩ = some (.slice a n c) := blk_cell kp 2
  go_wp2_with fail
  clear cq0 cq1 cq2 cq3 cp0 cp1 cp2 hlq hlp
  refine (unhide HSM _).mono ?_
  rintro e w3 ⟨rfl, hbN⟩
  have hsz := hbN.size
  have kq := blk_below kq hbN (blk_lt kq)
  have kp := blk_below kp hbN (blk_lt kp)
  have HXp := hide ((unhide HXp).below hbN)
  have HSe := hide ((unhide HSe).below hbN)
  have HB := hide ((unhide HB).trans (hbN.mono (by omega)))
  have hs : B + 2 ≤ w3.heap.size := by omega
  clear hbN hsz
  have hlq : B < w3.heap.size := blk_lt kq
  have cq0 : w3.cell? ⟨B, 0, none⟩ = some (.int .u8 (q.r.toNat : Int)) := blk_cell kq 0
  have cq1 : w3.cell? ⟨B, 1, none⟩ = some (.int .u8 (q.g.toNat : Int)) := blk_cell kq 1
  have cq2 : w3.cell? ⟨B, 2, none⟩ = some (.int .u8 (q.b.toNat : Int)) := blk_cell kq 2
  have cq3 : w3.cell? ⟨B, 3, none⟩ = some (.int .u8 (q.a.toNat : Int)) := blk_cell kq 3
  have hlp : B + 1 < w3.heap.size := blk_lt kp
  have cp0 : w3.cell? ⟨B + 1, 0, none⟩ = some (.int .i64 W) := blk_cell kp 0
  have cp1 : w3.cell? ⟨B + 1, 1, none⟩ = some (.int .i64 H) := blk_cell kp 1
  have cp2 : w3.cell? ⟨B + 1, 2, none⟩ = some (.slice a n c) := blk_cell kp 2
  go_wp2_with fail
  clear cq0 cq1 cq2 cq3 cp0 cp1 cp2 hlq hlp
  refine (unhide HN w3 (unhide HSe)).mono ?_
  rintro e w4 ⟨rfl, hbN⟩
  have hsz := hbN.size
  have kq := blk_below kq hbN (blk_lt kq)
  have kp := blk_below kp hbN (blk_lt kp)
  have HXp := hide ((unhide HXp).below hbN)
  have HSe := hide ((unhide HSe).below hbN)
  have HB := hide ((unhide HB).trans (hbN.mono (by omega)))
  have hs : B + 2 ≤ w4.heap.size := by omega
  clear hbN hsz
  have hlq : B < w4.heap.size := blk_lt kq
  have cq0 : w4.cell? ⟨B, 0, none⟩ = some (.int .u8 (q.r.toNat : Int)) := blk_cell kq 0
  have cq1 : w4.cell? ⟨B, 1, none⟩ = some (.int .u8 (q.g.toNat : Int)) := blk_cell kq 1
  have cq2 : w4.cell? ⟨B, 2, none⟩ = some (.int .u8 (q.b.toNat : Int)) := blk_cell kq 2
  have cq3 : w4.cell? ⟨B, 3, none⟩ = some (.int .u8 (q.a.toNat : Int)) := blk_cell kq 3
  have hlp : B + 1 < w4.heap.size := blk_lt kp
  have cp0 : w4.cell? ⟨B + 1, 0, none⟩ = some (.int .i64 W) := blk_cell kp 0
  have cp1 : w4.cell? ⟨B + 1, 1, none⟩ = some (.int .i64 H) := blk_cell kp 1
  have cp2 : w4.cell? ⟨B + 1, 2, none⟩ = some (.slice a n c) := blk_cell kp 2
  have HA := hide (al1 w4 (.cells #[.int .i64 0, .int .i64 0, .slice none 0 0] 26))
  obtain ⟨bQ, heqQ⟩ : ∃ b, b = w4.heap.size := ⟨_, rfl⟩
  go_wp2_with fail
  clear cq0 cq1 cq2 cq3 cp0 cp1 cp2 hlq hlp
  generalize w4.alloc (.cells #[.int .i64 0, .int .i64 0, .slice none 0 0] 26) = w5 at *
  rw [← heqQ] at HA ⊢
  obtain ⟨hsA, kQ, hbA⟩ := unhide HA
  rw [heqQ] at hbA
  have ltQq : B < bQ := by rw [heqQ]; exact blk_lt kq
  have ltQp : B + 1 < bQ := by rw [heqQ]; exact blk_lt kp
  have hgB : B ≤ bQ := by rw [heqQ]; omega
  clear HA
  have hsz := hbA.size
  have kq := blk_below kq hbA (blk_lt kq)
  have kp := blk_below kp hbA (blk_lt kp)
  have HXp := hide ((unhide HXp).below hbA)
  have HSe := hide ((unhide HSe).below hbA)
  have HB := hide ((unhide HB).trans (hbA.mono (by omega)))
  have hs : B + 2 ≤ w5.heap.size := by omega
  clear hbA hsz
  clear heqQ hsA
  refine (unhide HU _).mono ?_
  rintro e w5 ⟨rfl, rfl⟩
  have hlq : B < w5.heap.size := blk_lt kq
  have cq0 : w5.cell? ⟨B, 0, none⟩ = some (.int .u8 (q.r.toNat : Int)) := blk_cell kq 0
  have cq1 : w5.cell? ⟨B, 1, none⟩ = some (.int .u8 (q.g.toNat : Int)) := blk_cell kq 1
  have cq2 : w5.cell? ⟨B, 2, none⟩ = some (.int .u8 (q.b.toNat : Int)) := blk_cell kq 2
  have cq3 : w5.cell? ⟨B, 3, none⟩ = some (.int .u8 (q.a.toNat : Int)) := blk_cell kq 3
  have hlp : B + 1 < w5.heap.size := blk_lt kp
  have cp0 : w5.cell? ⟨B + 1, 0, none⟩ = some (.int .i64 W) := blk_cell kp 0
  have cp1 : w5.cell? ⟨B + 1, 1, none⟩ = some (.int .i64 H) := blk_cell kp 1
  have cp2 : w5.cell? ⟨B + 1, 2, none⟩ = some (.slice a n c) := blk_cell kp 2
  have hlQ : bQ < w5.heap.size := blk_lt kQ
  have cQ0 : w5.cell? ⟨bQ, 0, none⟩ = some (.int .i64 0) := blk_cell kQ 0
  have cQ1 : w5.cell? ⟨bQ, 1, none⟩ = some (.int .i64 0) := blk_cell kQ 1
  have cQ2 : w5.cell? ⟨bQ, 2, none⟩ = some (.slice none 0 0) := blk_cell kQ 2
  go_wp2_with fail
  clear cq0 cq1 cq2 cq3 cp0 cp1 cp2 cQ0 cQ1 cQ2 hlq hlp hlQ
  refine (unhide HV _).mono ?_
  rintro e w5 ⟨rfl, rfl⟩
  have hlq : B < w5.heap.size := blk_lt kq
  have cq0 : w5.cell? ⟨B, 0, none⟩ = some (.int .u8 (q.r.toNat : Int)) := blk_cell kq 0
  have cq1 : w5.cell? ⟨B, 1, none⟩ = some (.int .u8 (q.g.toNat : Int)) := blk_cell kq 1
  have cq2 : w5.cell? ⟨B, 2, none⟩ = some (.int .u8 (q.b.toNat : Int)) := blk_cell kq 2
  have cq3 : w5.cell? ⟨B, 3, none⟩ = some (.int .u8 (q.a.toNat : Int)) := blk_cell kq 3
  have hlp : B + 1 < w5.heap.size := blk_lt kp
  have cp0 : w5.cell? ⟨B + 1, 0, none⟩ = some (.int .i64 W) := blk_cell kp 0
  have cp1 : w5.cell? ⟨B + 1, 1, none⟩ = some (.int .i64 H) := blk_cell kp 1
  have cp2 : w5.cell? ⟨B + 1, 2, none⟩ = some (.slice a n c) := blk_cell kp 2
  have hlQ : bQ < w5.heap.size := blk_lt kQ
  have cQ0 : w5.cell? ⟨bQ, 0, none⟩ = some (.int .i64 0) := blk_cell kQ 0
  have cQ1 : w5.cell? ⟨bQ, 1, none⟩ = some (.int .i64 0) := blk_cell kQ 1
  have cQ2 : w5.cell? ⟨bQ, 2, none⟩ = some (.slice none 0 0) := blk_cell kQ 2
  go_wp2_with fail
  clear cq0 cq1 cq2 cq3 cp0 cp1 cp2 cQ0 cQ1 cQ2 hlq hlp hlQ
  refine (unhide HTe w5 (unhide HSe)).mono ?_
  rintro e w6 ⟨rfl, hbN⟩
  have hsz := hbN.size
  have kq := blk_below kq hbN (blk_lt kq)
  have kp := blk_below kp hbN (blk_lt kp)
  have kQ := blk_below kQ hbN (blk_lt kQ)
  have HXp := hide ((unhide HXp).below hbN)
  have HSe := hide ((unhide HSe).below hbN)
  have HB := hide ((unhide HB).trans (hbN.mono (by omega)))
  have hs : B + 2 ≤ w6.heap.size := by omega
  clear hbN hsz
  have hlq : B < w6.heap.size := blk_lt kq
  have cq0 : w6.cell? ⟨B, 0, none⟩ = some (.int .u8 (q.r.toNat : Int)) := blk_cell kq 0
  have cq1 : w6.cell? ⟨B, 1, none⟩ = some (.int .u8 (q.g.toNat : Int)) := blk_cell kq 1
  have cq2 : w6.cell? ⟨B, 2, none⟩ = some (.int .u8 (q.b.toNat : Int)) := blk_cell kq 2
  have cq3 : w6.cell? ⟨B, 3, none⟩ = some (.int .u8 (q.a.toNat : Int)) := blk_cell kq 3
  have hlp : B + 1 < w6.heap.size := blk_lt kp
  have cp0 : w6.cell? ⟨B + 1, 0, none⟩ = some (.int .i64 W) := blk_cell kp 0
  have cp1 : w6.cell? ⟨B + 1, 1, none⟩ = some (.int .i64 H) := blk_cell kp 1
  have cp2 : w6.cell? ⟨B + 1, 2, none⟩ = some (.slice a n c) := blk_cell kp 2
  have hlQ : bQ < w6.heap.size := blk_lt kQ
  have cQ0 : w6.cell? ⟨bQ, 0, none⟩ = some (.int .i64 0) := blk_cell kQ 0
  have cQ1 : w6.cell? ⟨bQ, 1, none⟩ = some (.int .i64 0) := blk_cell kQ 1
  have cQ2 : w6.cell? ⟨bQ, 2, none⟩ = some (.slice none 0 0) := blk_cell kQ 2
  go_wp2_with fail
  clear cq0 cq1 cq2 cq3 cp0 cp1 cp2 cQ0 cQ1 cQ2 hlq hlp hlQ
  refine (unhide HO w6 (unhide HXp)).mono ?_
  rintro e w7 ⟨a5, c5, rfl, hpx, hbN⟩
  have hsz := hbN.size
  have kq := blk_below kq hbN (blk_lt kq)
  have kp := blk_below kp hbN (blk_lt kp)
  have kQ := blk_below kQ hbN (blk_lt kQ)
  have HXp := hide ((unhide HXp).below hbN)
  have HSe := hide ((unhide HSe).below hbN)
  have HB := hide ((unhide HB).trans (hbN.mono (by omega)))
  have hs : B + 2 ≤ w7.heap.size := by omega
  clear hbN hsz
  have HX5 := hide hpx
  clear hpx
  have hlq : B < w7.heap.size := blk_lt kq
  have cq0 : w7.cell? ⟨B, 0, none⟩ = some (.int .u8 (q.r.toNat : Int)) := blk_cell kq 0
  have cq1 : w7.cell? ⟨B, 1, none⟩ = some (.int .u8 (q.g.toNat : Int)) := blk_cell kq 1
  have cq2 : w7.cell? ⟨B, 2, none⟩ = some (.int .u8 (q.b.toNat : Int)) := blk_cell kq 2
  have cq3 : w7.cell? ⟨B, 3, none⟩ = some (.int .u8 (q.a.toNat : Int)) := blk_cell kq 3
  have hlp : B + 1 < w7.heap.size := blk_lt kp
  have cp0 : w7.cell? ⟨B + 1, 0, none⟩ = some (.int .i64 W) := blk_cell kp 0
  have cp1 : w7.cell? ⟨B + 1, 1, none⟩ = some (.int .i64 H) := blk_cell kp 1
  have cp2 : w7.cell? ⟨B + 1, 2, none⟩ = some (.slice a n c) := blk_cell kp 2
  have hlQ : bQ < w7.heap.size := blk_lt kQ
  have cQ0 : w7.cell? ⟨bQ, 0, none⟩ = some (.int .i64 0) := blk_cell kQ 0
  have cQ1 : w7.cell? ⟨bQ, 1, none⟩ = some (.int .i64 0) := blk_cell kQ 1
  have cQ2 : w7.cell? ⟨bQ, 2, none⟩ = some (.slice none 0 0) := blk_cell kQ 2
  go_wp2_with fail
  clear cq0 cq1 cq2 cq3 cp0 cp1 cp2 cQ0 cQ1 cQ2 hlq hlp hlQ
  refine (unhide HAt w7 _ _ (unhide HSe)).mono ?_
  rintro e w8 ⟨rfl, hbN⟩
  have hsz := hbN.size
  have kq := blk_below kq hbN (blk_lt kq)
  have kp := blk_below kp hbN (blk_lt kp)
  have kQ := blk_below kQ hbN (blk_lt kQ)
  have HXp := hide ((unhide HXp).below hbN)
  have HX5 := hide ((unhide HX5).below hbN)
  have HSe := hide ((unhide HSe).below hbN)
  have HB := hide ((unhide HB).trans (hbN.mono (by omega)))
  have hs : B + 2 ≤ w8.heap.size := by omega
  clear hbN hsz
  have hlq : B < w8.heap.size := blk_lt kq
  have cq0 : w8.cell? ⟨B, 0, none⟩ = some (.int .u8 (q.r.toNat : Int)) := blk_cell kq 0
  have cq1 : w8.cell? ⟨B, 1, none⟩ = some (.int .u8 (q.g.toNat : Int)) := blk_cell kq 1
  have cq2 : w8.cell? ⟨B, 2, none⟩ = some (.int .u8 (q.b.toNat : Int)) := blk_cell kq 2
  have cq3 : w8.cell? ⟨B, 3, none⟩ = some (.int .u8 (q.a.toNat : Int)) := blk_cell kq 3
  have hlp : B + 1 < w8.heap.size := blk_lt kp
  have cp0 : w8.cell? ⟨B + 1, 0, none⟩ = some (.int .i64 W) := blk_cell kp 0
  have cp1 : w8.cell? ⟨B + 1, 1, none⟩ = some (.int .i64 H) := blk_cell kp 1
  have cp2 : w8.cell? ⟨B + 1, 2, none⟩ = some (.slice a n c) := blk_cell kp 2
  have hlQ : bQ < w8.heap.size := blk_lt kQ
  have cQ0 : w8.cell? ⟨bQ, 0, none⟩ = some (.int .i64 0) := blk_cell kQ 0
  have cQ1 : w8.cell? ⟨bQ, 1, none⟩ = some (.int .i64 0) := blk_cell kQ 1
  have cQ2 : w8.cell? ⟨bQ, 2, none⟩ = some (.slice none 0 0) := blk_cell kQ 2
  have HA := hide (al1 w8 (.cells #[.int .u8 0, .int .u8 0, .int .u8 0, .int .u8 0] 23))
  obtain ⟨bZ, heqZ⟩ : ∃ b, b = w8.heap.size := ⟨_, rfl⟩
  go_wp2_with fail
  clear cq0 cq1 cq2 cq3 cp0 cp1 cp2 cQ0 cQ1 cQ2 hlq hlp hlQ
  generalize w8.alloc (.cells #[.int .u8 0, .int .u8 0, .int .u8 0, .int .u8 0] 23) = w9 at *
  rw [← heqZ] at HA ⊢
  obtain ⟨hsA, kZ, hbA⟩ := unhide HA
  rw [heqZ] at hbA
  have ltZq : B < bZ := by rw [heqZ]; exact blk_lt kq
  have ltZp : B + 1 < bZ := by rw [heqZ]; exact blk_lt kp
  have ltZQ : bQ < bZ := by rw [heqZ]; exact blk_lt kQ
  have hgB : B ≤ bZ := by rw [heqZ]; omega
  clear HA
  have hsz := hbA.size
  have kq := blk_below kq hbA (blk_lt kq)
  have kp := blk_below kp hbA (blk_lt kp)
  have kQ := blk_below kQ hbA (blk_lt kQ)
  have HXp := hide ((unhide HXp).below hbA)
  have HX5 := hide ((unhide HX5).below hbA)
  have HSe := hide ((unhide HSe).below hbA)
  have HB := hide ((unhide HB).trans (hbA.mono (by omega)))
  have hs : B + 2 ≤ w9.heap.size := by omega
  clear hbA hsz
  clear heqZ hsA
  refine (unhide HIN _).mono ?_
  rintro e w10 ⟨rfl, hbN⟩
  have hsz := hbN.size
  have kq := blk_below kq hbN (blk_lt kq)
  have kp := blk_below kp hbN (blk_lt kp)
  have kQ := blk_below kQ hbN (blk_lt kQ)
  have kZ := blk_below kZ hbN (blk_lt kZ)
  have HXp := hide ((unhide HXp).below hbN)
  have HX5 := hide ((unhide HX5).below hbN)
  have HSe := hide ((unhide HSe).below hbN)
  have HB := hide ((unhide HB).trans (hbN.mono (by omega)))
  have hs : B + 2 ≤ w10.heap.size := by omega
  clear hbN hsz
  have hlq : B < w10.heap.size := blk_lt kq
  have cq0 : w10.cell? ⟨B, 0, none⟩ = some (.int .u8 (q.r.toNat : Int)) := blk_cell kq 0
  have cq1 : w10.cell? ⟨B, 1, none⟩ = some (.int .u8 (q.g.toNat : Int)) := blk_cell kq 1
  have cq2 : w10.cell? ⟨B, 2, none⟩ = some (.int .u8 (q.b.toNat : Int)) := blk_cell kq 2
  have cq3 : w10.cell? ⟨B, 3, none⟩ = some (.int .u8 (q.a.toNat : Int)) := blk_cell kq 3
  have hlp : B + 1 < w10.heap.size := blk_lt kp
  have cp0 : w10.cell? ⟨B + 1, 0, none⟩ = some (.int .i64 W) := blk_cell kp 0
  have cp1 : w10.cell? ⟨B + 1, 1, none⟩ = some (.int .i64 H) := blk_cell kp 1
  have cp2 : w10.cell? ⟨B + 1, 2, none⟩ = some (.slice a n c) := blk_cell kp 2
  have hlQ : bQ < w10.heap.size := blk_lt kQ
  have cQ0 : w10.cell? ⟨bQ, 0, none⟩ = some (.int .i64 0) := blk_cell kQ 0
  have cQ1 : w10.cell? ⟨bQ, 1, none⟩ = some (.int .i64 0) := blk_cell kQ 1
  have cQ2 : w10.cell? ⟨bQ, 2, none⟩ = some (.slice none 0 0) := blk_cell kQ 2
  have hlZ : bZ < w10.heap.size := blk_lt kZ
  have cZ0 : w10.cell? ⟨bZ, 0, none⟩ = some (.int .u8 0) := blk_cell kZ 0
  have cZ1 : w10.cell? ⟨bZ, 1, none⟩ = some (.int .u8 0) := blk_cell kZ 1
  have cZ2 : w10.cell? ⟨bZ, 2, none⟩ = some (.int .u8 0) := blk_cell kZ 2
  have cZ3 : w10.cell? ⟨bZ, 3, none⟩ = some (.int .u8 0) := blk_cell kZ 3
  go_wp2_with fail
  clear cq0 cq1 cq2 cq3 cp0 cp1 cp2 cQ0 cQ1 cQ2 cZ0 cZ1 cZ2 cZ3 hlq hlp hlQ hlZ
  refine (unhide HRT _).mono ?_
  rintro e w11 ⟨rfl, hbN⟩
  have hsz := hbN.size
  have kq := blk_below kq hbN (blk_lt kq)
  have kp := blk_below kp hbN (blk_lt kp)
  have kQ := blk_below kQ hbN (blk_lt kQ)
  have kZ := blk_below kZ hbN (blk_lt kZ)
  have HXp := hide ((unhide HXp).below hbN)
  have HX5 := hide ((unhide HX5).below hbN)
  have HSe := hide ((unhide HSe).below hbN)
  have HB := hide ((unhide HB).trans (hbN.mono (by omega)))
  have hs : B + 2 ≤ w11.heap.size := by omega
  clear hbN hsz
  have hlq : B < w11.heap.size := blk_lt kq
  have cq0 : w11.cell? ⟨B, 0, none⟩ = some (.int .u8 (q.r.toNat : Int)) := blk_cell kq 0
  have cq1 : w11.cell? ⟨B, 1, none⟩ = some (.int .u8 (q.g.toNat : Int)) := blk_cell kq 1
  have cq2 : w11.cell? ⟨B, 2, none⟩ = some (.int .u8 (q.b.toNat : Int)) := blk_cell kq 2
  have cq3 : w11.cell? ⟨B, 3, none⟩ = some (.int .u8 (q.a.toNat : Int)) := blk_cell kq 3
  have hlp : B + 1 < w11.heap.size := blk_lt kp
  have cp0 : w11.cell? ⟨B + 1, 0, none⟩ = some (.int .i64 W) := blk_cell kp 0
  have cp1 : w11.cell? ⟨B + 1, 1, none⟩ = some (.int .i64 H) := blk_cell kp 1
  have cp2 : w11.cell? ⟨B + 1, 2, none⟩ = some (.slice a n c) := blk_cell kp 2
  have hlQ : bQ < w11.heap.size := blk_lt kQ
  have cQ0 : w11.cell? ⟨bQ, 0, none⟩ = some (.int .i64 0) := blk_cell kQ 0
  have cQ1 : w11.cell? ⟨bQ, 1, none⟩ = some (.int .i64 0) := blk_cell kQ 1
  have cQ2 : w11.cell? ⟨bQ, 2, none⟩ = some (.slice none 0 0) := blk_cell kQ 2
  have hlZ : bZ < w11.heap.size := blk_lt kZ
  have cZ0 : w11.cell? ⟨bZ, 0, none⟩ = some (.int .u8 0) := blk_cell kZ 0
  have cZ1 : w11.cell? ⟨bZ, 1, none⟩ = some (.int .u8 0) := blk_cell kZ 1
  have cZ2 : w11.cell? ⟨bZ, 2, none⟩ = some (.int .u8 0) := blk_cell kZ 2
  have cZ3 : w11.cell? ⟨bZ, 3, none⟩ = some (.int .u8 0) := blk_cell kZ 3
  go_wp2_with fail
  clear cq0 cq1 cq2 cq3 cp0 cp1 cp2 cQ0 cQ1 cQ2 cZ0 cZ1 cZ2 cZ3 hlq hlp hlQ hlZ
  refine (unhide HCo w11 (unhide HSe)).mono ?_
  rintro e w12 ⟨rfl, hbN⟩
  have hsz := hbN.size
  have kq := blk_below kq hbN (blk_lt kq)
  have kp := blk_below kp hbN (blk_lt kp)
  have kQ := blk_below kQ hbN (blk_lt kQ)
  have kZ := blk_below kZ hbN (blk_lt kZ)
  have HXp := hide ((unhide HXp).below hbN)
  have HX5 := hide ((unhide HX5).below hbN)
  have HSe := hide ((unhide HSe).below hbN)
  have HB := hide ((unhide HB).trans (hbN.mono (by omega)))
  have hs : B + 2 ≤ w12.heap.size := by omega
  clear hbN hsz
  have hlq : B < w12.heap.size := blk_lt kq
  have cq0 : w12.cell? ⟨B, 0, none⟩ = some (.int .u8 (q.r.toNat : Int)) := blk_cell kq 0
  have cq1 : w12.cell? ⟨B, 1, none⟩ = some (.int .u8 (q.g.toNat : Int)) := blk_cell kq 1
  have cq2 : w12.cell? ⟨B, 2, none⟩ = some (.int .u8 (q.b.toNat : Int)) := blk_cell kq 2
  have cq3 : w12.cell? ⟨B, 3, none⟩ = some (.int .u8 (q.a.toNat : Int)) := blk_cell kq 3
  have hlp : B + 1 < w12.heap.size := blk_lt kp
  have cp0 : w12.cell? ⟨B + 1, 0, none⟩ = some (.int .i64 W) := blk_cell kp 0
  have cp1 : w12.cell? ⟨B + 1, 1, none⟩ = some (.int .i64 H) := blk_cell kp 1
  have cp2 : w12.cell? ⟨B + 1, 2, none⟩ = some (.slice a n c) := blk_cell kp 2
  have hlQ : bQ < w12.heap.size := blk_lt kQ
  have cQ0 : w12.cell? ⟨bQ, 0, none⟩ = some (.int .i64 0) := blk_cell kQ 0
  have cQ1 : w12.cell? ⟨bQ, 1, none⟩ = some (.int .i64 0) := blk_cell kQ 1
  have cQ2 : w12.cell? ⟨bQ, 2, none⟩ = some (.slice none 0 0) := blk_cell kQ 2
  have hlZ : bZ < w12.heap.size := blk_lt kZ
  have cZ0 : w12.cell? ⟨bZ, 0, none⟩ = some (.int .u8 0) := blk_cell kZ 0
  have cZ1 : w12.cell? ⟨bZ, 1, none⟩ = some (.int .u8 0) := blk_cell kZ 1
  have cZ2 : w12.cell? ⟨bZ, 2, none⟩ = some (.int .u8 0) := blk_cell kZ 2
  have cZ3 : w12.cell? ⟨bZ, 3, none⟩ = some (.int .u8 0) := blk_cell kZ 3
  go_wp2
  clear cq0 cq1 cq2 cq3 cp0 cp1 cp2 cQ0 cQ1 cQ2 cZ0 cZ1 cZ2 cZ3 hlq hlp hlQ hlZ
  go_ret
  exact ⟨rfl, by rw [← unhide HBE]; exact unhide HB⟩
set_option maxHeartbeats 4000000 in
set_option maxRecDepth 100000 in
theorem rasterNew_bad2_bound (u v : Int) (q : Px) (W H : Nat) (a : Option Addr) (n c : Nat) (p : Nat → Px) (x y : Int) (w : World) (A : Nat → Addr) (hS : Sent w A) (hP : IsPx w a n p) (hn3 : n ≤ 3000) (hu : 1 ≤ u ∧ u ≤ 256) (hv : ¬ (1 ≤ v ∧ v ≤ 256)) (hW0 : 1 ≤ W) (hW : W ≤ 256) (hH0 : 1 ≤ H) (hH : H ≤ 256) (hn : n = W * H) (hin : ¬ (0 ≤ x ∧ 0 ≤ y ∧ x < (W : Int) ∧ y < (H : Int))) :
    Calls Tryd.prog 3 #[.int .i64 u, .int .i64 v, q.val, .agg #[.int .i64 (W : Int), .int .i64 (H : Int), .slice a n c], .int .i64 x, .int .i64 y] w fun e w' => e = .returned (.bool true) ∧ Below w.heap.size w w' := by
  have HPL := hide plainly_any
  have HSM := hide (fun w => small_any (W : Int) (H : Int) a n c w)
  rw [decide_eq_true hn3] at HSM
  have HU := hide (fun w => side_any u w)
  have HV := hide (fun w => side_any v w)
  have HRT := hide (fun w => pright_any (W : Int) (H : Int) a n c w)
  have HIN := hide (fun w => inP_any (W : Int) (H : Int) x y a n c w)
  have HO := hide (fun w (h : IsPx w a n p) => own_isPx (W : Int) (H : Int) a n c p w h (by omega))
  have HX := hide hP
  have HS0 := hide hS
  rw [decide_eq_true hu] at HU
  rw [decide_eq_false hv] at HV
  have HN := hide (fun w (h : Sent w A) => new_bound u v q w _ _ (h.cell 1 (by omega)) (fun k => hv k.2))
  have HTe := hide (fun w (h : Sent w A) => told_err 1 2 0 0 none 0 0 w A h (by omega) rfl)
  rw [decide_eq_true (rightN hW0 hW hH0 hH hn)] at HRT
  rw [decide_eq_false hin] at HIN
  have HAt := hide (fun w a c (h : Sent w A) => rAt_bound W H a n c x y w _ _ (h.cell 1 (by omega)) hW0 hW hH0 hH hn (fun k => hin ⟨k.1, k.2.2.1, k.2.1, k.2.2.2⟩))
  have HCo := hide (fun w (h : Sent w A) => coded2_sent 1 2 w A h (by omega) rfl)
  clear hn3 hP hS hu hv hW0 hW hH0 hH hn hin
  unfold Px.val at *
  have HA := hide (al2 w (.cells #[.int .u8 (q.r.toNat : Int), .int .u8 (q.g.toNat : Int), .int .u8 (q.b.toNat : Int), .int .u8 (q.a.toNat : Int)] 23) (.cells #[.int .i64 (W : Int), .int .i64 (H : Int), .slice a n c] 26))
  obtain ⟨B, hB⟩ : ∃ B, B = w.heap.size := ⟨_, rfl⟩
  go_enter Tryd.func3, Tryd.ntmps3
  go_wp2_with fail
  generalize ((w.alloc (.cells #[.int .u8 (q.r.toNat : Int), .int .u8 (q.g.toNat : Int), .int .u8 (q.b.toNat : Int), .int .u8 (q.a.toNat : Int)] 23)).alloc (.cells #[.int .i64 (W : Int), .int .i64 (H : Int), .slice a n c] 26)) = w1 at *
  rw [← hB] at HA ⊢
  obtain ⟨hs1, kq, kp, hb1⟩ := unhide HA
  have HBE := hide hB
  clear HA hB
  have hs : B + 2 ≤ w1.heap.size := by omega
  have HB := hide hb1
  clear hs1 hb1
  have HXp := hide ((unhide HX).under (unhide HB) (fun x hx h0 => by rw [unhide HBE]; exact (unhide HX).lt x hx h0))
  have HSe := hide ((unhide HS0).below (by rw [← unhide HBE]; exact unhide HB))
  clear HX HS0
  refine (unhide HPL _).mono ?_
  rintro e w2 ⟨rfl, hbN⟩
  have hsz := hbN.size
  have kq := blk_below kq hbN (blk_lt kq)
  have kp := blk_below kp hbN (blk_lt kp)
  have HXp := hide ((unhide HXp).below hbN)
  have HSe := hide ((unhide HSe).below hbN)
  have HB := hide ((unhide HB).trans (hbN.mono (by omega)))
  have hs : B + 2 ≤ w2.heap.size := by omega
  clear hbN hsz
  have hlq : B < w2.heap.size := blk_lt kq
  have cq0 : w2.cell? ⟨B, 0, none⟩ = some (.int .u8 (q.r.toNat : Int)) := blk_cell kq 0
  have cq1 : w2.cell? ⟨B, 1, none⟩ = some (.int .u8 (q.g.toNat : Int)) := blk_cell kq 1
  have cq2 : w2.cell? ⟨B, 2, none⟩ = some (.int .u8 (q.b.toNat : Int)) := blk_cell kq 2
  have cq3 : w2.cell? ⟨B, 3, none⟩ = some (.int .u8 (q.a.toNat : Int)) := blk_cell kq 3
  have hlp : B + 1 < w2.heap.size := blk_lt kp
  have cp0 : w2.cell? ⟨B + 1, 0, none⟩ = some (.int .i64 (W : Int)) := blk_cell kp 0
  have cp1 : w2.cell? ⟨B + 1, 1, none⟩ = some (.int .i64 (H : Int)) := blk_cell kp 1
  have cp2 : w2.cell? ⟨B + 1, 2, none⟩ = some (.slice a n c) := blk_cell kp 2
  go_wp2_with fail
  clear cq0 cq1 cq2 cq3 cp0 cp1 cp2 hlq hlp
  refine (unhide HSM _).mono ?_
  rintro e w3 ⟨rfl, hbN⟩
  have hsz := hbN.size
  have kq := blk_below kq hbN (blk_lt kq)
  have kp := blk_below kp hbN (blk_lt kp)
  have HXp := hide ((unhide HXp).below hbN)
  have HSe := hide ((unhide HSe).below hbN)
  have HB := hide ((unhide HB).trans (hbN.mono (by omega)))
  have hs : B + 2 ≤ w3.heap.size := by omega
  clear hbN hsz
  have hlq : B < w3.heap.size := blk_lt kq
  have cq0 : w3.cell? ⟨B, 0, none⟩ = some (.int .u8 (q.r.toNat : Int)) := blk_cell kq 0
  have cq1 : w3.cell? ⟨B, 1, none⟩ = some (.int .u8 (q.g.toNat : Int)) := blk_cell kq 1
  have cq2 : w3.cell? ⟨B, 2, none⟩ = some (.int .u8 (q.b.toNat : Int)) := blk_cell kq 2
  have cq3 : w3.cell? ⟨B, 3, none⟩ = some (.int .u8 (q.a.toNat : Int)) := blk_cell kq 3
  have hlp : B + 1 < w3.heap.size := blk_lt kp
  have cp0 : w3.cell? ⟨B + 1, 0, none⟩ = some (.int .i64 (W : Int)) := blk_cell kp 0
  have cp1 : w3.cell? ⟨B + 1, 1, none⟩ = some (.int .i64 (H : Int)) := blk_cell kp 1
  have cp2 : w3.cell? ⟨B + 1, 2, none⟩ = some (.slice a n c) := blk_cell kp 2
  go_wp2_with fail
  clear cq0 cq1 cq2 cq3 cp0 cp1 cp2 hlq hlp
  refine (unhide HN w3 (unhide HSe)).mono ?_
  rintro e w4 ⟨rfl, hbN⟩
  have hsz := hbN.size
  have kq := blk_below kq hbN (blk_lt kq)
  have kp := blk_below kp hbN (blk_lt kp)
  have HXp := hide ((unhide HXp).below hbN)
  have HSe := hide ((unhide HSe).below hbN)
  have HB := hide ((unhide HB).trans (hbN.mono (by omega)))
  have hs : B + 2 ≤ w4.heap.size := by omega
  clear hbN hsz
  have hlq : B < w4.heap.size := blk_lt kq
  have cq0 : w4.cell? ⟨B, 0, none⟩ = some (.int .u8 (q.r.toNat : Int)) := blk_cell kq 0
  have cq1 : w4.cell? ⟨B, 1, none⟩ = some (.int .u8 (q.g.toNat : Int)) := blk_cell kq 1
  have cq2 : w4.cell? ⟨B, 2, none⟩ = some (.int .u8 (q.b.toNat : Int)) := blk_cell kq 2
  have cq3 : w4.cell? ⟨B, 3, none⟩ = some (.int .u8 (q.a.toNat : Int)) := blk_cell kq 3
  have hlp : B + 1 < w4.heap.size := blk_lt kp
  have cp0 : w4.cell? ⟨B + 1, 0, none⟩ = some (.int .i64 (W : Int)) := blk_cell kp 0
  have cp1 : w4.cell? ⟨B + 1, 1, none⟩ = some (.int .i64 (H : Int)) := blk_cell kp 1
  have cp2 : w4.cell? ⟨B + 1, 2, none⟩ = some (.slice a n c) := blk_cell kp 2
  have HA := hide (al1 w4 (.cells #[.int .i64 0, .int .i64 0, .slice none 0 0] 26))
  obtain ⟨bQ, heqQ⟩ : ∃ b, b = w4.heap.size := ⟨_, rfl⟩
  go_wp2_with fail
  clear cq0 cq1 cq2 cq3 cp0 cp1 cp2 hlq hlp
  generalize w4.alloc (.cells #[.int .i64 0, .int .i64 0, .slice none 0 0] 26) = w5 at *
  rw [← heqQ] at HA ⊢
  obtain ⟨hsA, kQ, hbA⟩ := unhide HA
  rw [heqQ] at hbA
  have ltQq : B < bQ := by rw [heqQ]; exact blk_lt kq
  have ltQp : B + 1 < bQ := by rw [heqQ]; exact blk_lt kp
  have hgB : B ≤ bQ := by rw [heqQ]; omega
  clear HA
  have hsz := hbA.size
  have kq := blk_below kq hbA (blk_lt kq)
  have kp := blk_below kp hbA (blk_lt kp)
  have HXp := hide ((unhide HXp).below hbA)
  have HSe := hide ((unhide HSe).below hbA)
  have HB := hide ((unhide HB).trans (hbA.mono (by omega)))
  have hs : B + 2 ≤ w5.heap.size := by omega
  clear hbA hsz
  clear heqQ hsA
  refine (unhide HU _).mono ?_
  rintro e w5 ⟨rfl, rfl⟩
  have hlq : B < w5.heap.size := blk_lt kq
  have cq0 : w5.cell? ⟨B, 0, none⟩ = some (.int .u8 (q.r.toNat : Int)) := blk_cell kq 0
  have cq1 : w5.cell? ⟨B, 1, none⟩ = some (.int .u8 (q.g.toNat : Int)) := blk_cell kq 1
  have cq2 : w5.cell? ⟨B, 2, none⟩ = some (.int .u8 (q.b.toNat : Int)) := blk_cell kq 2
  have cq3 : w5.cell? ⟨B, 3, none⟩ = some (.int .u8 (q.a.toNat : Int)) := blk_cell kq 3
  have hlp : B + 1 < w5.heap.size := blk_lt kp
  have cp0 : w5.cell? ⟨B + 1, 0, none⟩ = some (.int .i64 (W : Int)) := blk_cell kp 0
  have cp1 : w5.cell? ⟨B + 1, 1, none⟩ = some (.int .i64 (H : Int)) := blk_cell kp 1
  have cp2 : w5.cell? ⟨B + 1, 2, none⟩ = some (.slice a n c) := blk_cell kp 2
  have hlQ : bQ < w5.heap.size := blk_lt kQ
  have cQ0 : w5.cell? ⟨bQ, 0, none⟩ = some (.int .i64 0) := blk_cell kQ 0
  have cQ1 : w5.cell? ⟨bQ, 1, none⟩ = some (.int .i64 0) := blk_cell kQ 1
  have cQ2 : w5.cell? ⟨bQ, 2, none⟩ = some (.slice none 0 0) := blk_cell kQ 2
  go_wp2_with fail
  clear cq0 cq1 cq2 cq3 cp0 cp1 cp2 cQ0 cQ1 cQ2 hlq hlp hlQ
  refine (unhide HV _).mono ?_
  rintro e w5 ⟨rfl, rfl⟩
  have hlq : B < w5.heap.size := blk_lt kq
  have cq0 : w5.cell? ⟨B, 0, none⟩ = some (.int .u8 (q.r.toNat : Int)) := blk_cell kq 0
  have cq1 : w5.cell? ⟨B, 1, none⟩ = some (.int .u8 (q.g.toNat : Int)) := blk_cell kq 1
  have cq2 : w5.cell? ⟨B, 2, none⟩ = some (.int .u8 (q.b.toNat : Int)) := blk_cell kq 2
  have cq3 : w5.cell? ⟨B, 3, none⟩ = some (.int .u8 (q.a.toNat : Int)) := blk_cell kq 3
  have hlp : B + 1 < w5.heap.size := blk_lt kp
  have cp0 : w5.cell? ⟨B + 1, 0, none⟩ = some (.int .i64 (W : Int)) := blk_cell kp 0
  have cp1 : w5.cell? ⟨B + 1, 1, none⟩ = some (.int .i64 (H : Int)) := blk_cell kp 1
  have cp2 : w5.cell? ⟨B + 1, 2, none⟩ = some (.slice a n c) := blk_cell kp 2
  have hlQ : bQ < w5.heap.size := blk_lt kQ
  have cQ0 : w5.cell? ⟨bQ, 0, none⟩ = some (.int .i64 0) := blk_cell kQ 0
  have cQ1 : w5.cell? ⟨bQ, 1, none⟩ = some (.int .i64 0) := blk_cell kQ 1
  have cQ2 : w5.cell? ⟨bQ, 2, none⟩ = some (.slice none 0 0) := blk_cell kQ 2
  go_wp2_with fail
  clear cq0 cq1 cq2 cq3 cp0 cp1 cp2 cQ0 cQ1 cQ2 hlq hlp hlQ
  refine (unhide HTe w5 (unhide HSe)).mono ?_
  rintro e w6 ⟨rfl, hbN⟩
  have hsz := hbN.size
  have kq := blk_below kq hbN (blk_lt kq)
  have kp := blk_below kp hbN (blk_lt kp)
  have kQ := blk_below kQ hbN (blk_lt kQ)
  have HXp := hide ((unhide HXp).below hbN)
  have HSe := hide ((unhide HSe).below hbN)
  have HB := hide ((unhide HB).trans (hbN.mono (by omega)))
  have hs : B + 2 ≤ w6.heap.size := by omega
  clear hbN hsz
  have hlq : B < w6.heap.size := blk_lt kq
  have cq0 : w6.cell? ⟨B, 0, none⟩ = some (.int .u8 (q.r.toNat : Int)) := blk_cell kq 0
  have cq1 : w6.cell? ⟨B, 1, none⟩ = some (.int .u8 (q.g.toNat : Int)) := blk_cell kq 1
  have cq2 : w6.cell? ⟨B, 2, none⟩ = some (.int .u8 (q.b.toNat : Int)) := blk_cell kq 2
  have cq3 : w6.cell? ⟨B, 3, none⟩ = some (.int .u8 (q.a.toNat : Int)) := blk_cell kq 3
  have hlp : B + 1 < w6.heap.size := blk_lt kp
  have cp0 : w6.cell? ⟨B + 1, 0, none⟩ = some (.int .i64 (W : Int)) := blk_cell kp 0
  have cp1 : w6.cell? ⟨B + 1, 1, none⟩ = some (.int .i64 (H : Int)) := blk_cell kp 1
  have cp2 : w6.cell? ⟨B + 1, 2, none⟩ = some (.slice a n c) := blk_cell kp 2
  have hlQ : bQ < w6.heap.size := blk_lt kQ
  have cQ0 : w6.cell? ⟨bQ, 0, none⟩ = some (.int .i64 0) := blk_cell kQ 0
  have cQ1 : w6.cell? ⟨bQ, 1, none⟩ = some (.int .i64 0) := blk_cell kQ 1
  have cQ2 : w6.cell? ⟨bQ, 2, none⟩ = some (.slice none 0 0) := blk_cell kQ 2
  go_wp2_with fail
  clear cq0 cq1 cq2 cq3 cp0 cp1 cp2 cQ0 cQ1 cQ2 hlq hlp hlQ
  refine (unhide HO w6 (unhide HXp)).mono ?_
  rintro e w7 ⟨a5, c5, rfl, hpx, hbN⟩
  have hsz := hbN.size
  have kq := blk_below kq hbN (blk_lt kq)
  have kp := blk_below kp hbN (blk_lt kp)
  have kQ := blk_below kQ hbN (blk_lt kQ)
  have HXp := hide ((unhide HXp).below hbN)
  have HSe := hide ((unhide HSe).below hbN)
  have HB := hide ((unhide HB).trans (hbN.mono (by omega)))
  have hs : B + 2 ≤ w7.heap.size := by omega
  clear hbN hsz
  have HX5 := hide hpx
  clear hpx
  have hlq : B < w7.heap.size := blk_lt kq
  have cq0 : w7.cell? ⟨B, 0, none⟩ = some (.int .u8 (q.r.toNat : Int)) := blk_cell kq 0
  have cq1 : w7.cell? ⟨B, 1, none⟩ = some (.int .u8 (q.g.toNat : Int)) := blk_cell kq 1
  have cq2 : w7.cell? ⟨B, 2, none⟩ = some (.int .u8 (q.b.toNat : Int)) := blk_cell kq 2
  have cq3 : w7.cell? ⟨B, 3, none⟩ = some (.int .u8 (q.a.toNat : Int)) := blk_cell kq 3
  have hlp : B + 1 < w7.heap.size := blk_lt kp
  have cp0 : w7.cell? ⟨B + 1, 0, none⟩ = some (.int .i64 (W : Int)) := blk_cell kp 0
  have cp1 : w7.cell? ⟨B + 1, 1, none⟩ = some (.int .i64 (H : Int)) := blk_cell kp 1
  have cp2 : w7.cell? ⟨B + 1, 2, none⟩ = some (.slice a n c) := blk_cell kp 2
  have hlQ : bQ < w7.heap.size := blk_lt kQ
  have cQ0 : w7.cell? ⟨bQ, 0, none⟩ = some (.int .i64 0) := blk_cell kQ 0
  have cQ1 : w7.cell? ⟨bQ, 1, none⟩ = some (.int .i64 0) := blk_cell kQ 1
  have cQ2 : w7.cell? ⟨bQ, 2, none⟩ = some (.slice none 0 0) := blk_cell kQ 2
  go_wp2_with fail
  clear cq0 cq1 cq2 cq3 cp0 cp1 cp2 cQ0 cQ1 cQ2 hlq hlp hlQ
  refine (unhide HAt w7 _ _ (unhide HSe)).mono ?_
  rintro e w8 ⟨rfl, hbN⟩
  have hsz := hbN.size
  have kq := blk_below kq hbN (blk_lt kq)
  have kp := blk_below kp hbN (blk_lt kp)
  have kQ := blk_below kQ hbN (blk_lt kQ)
  have HXp := hide ((unhide HXp).below hbN)
  have HX5 := hide ((unhide HX5).below hbN)
  have HSe := hide ((unhide HSe).below hbN)
  have HB := hide ((unhide HB).trans (hbN.mono (by omega)))
  have hs : B + 2 ≤ w8.heap.size := by omega
  clear hbN hsz
  have hlq : B < w8.heap.size := blk_lt kq
  have cq0 : w8.cell? ⟨B, 0, none⟩ = some (.int .u8 (q.r.toNat : Int)) := blk_cell kq 0
  have cq1 : w8.cell? ⟨B, 1, none⟩ = some (.int .u8 (q.g.toNat : Int)) := blk_cell kq 1
  have cq2 : w8.cell? ⟨B, 2, none⟩ = some (.int .u8 (q.b.toNat : Int)) := blk_cell kq 2
  have cq3 : w8.cell? ⟨B, 3, none⟩ = some (.int .u8 (q.a.toNat : Int)) := blk_cell kq 3
  have hlp : B + 1 < w8.heap.size := blk_lt kp
  have cp0 : w8.cell? ⟨B + 1, 0, none⟩ = some (.int .i64 (W : Int)) := blk_cell kp 0
  have cp1 : w8.cell? ⟨B + 1, 1, none⟩ = some (.int .i64 (H : Int)) := blk_cell kp 1
  have cp2 : w8.cell? ⟨B + 1, 2, none⟩ = some (.slice a n c) := blk_cell kp 2
  have hlQ : bQ < w8.heap.size := blk_lt kQ
  have cQ0 : w8.cell? ⟨bQ, 0, none⟩ = some (.int .i64 0) := blk_cell kQ 0
  have cQ1 : w8.cell? ⟨bQ, 1, none⟩ = some (.int .i64 0) := blk_cell kQ 1
  have cQ2 : w8.cell? ⟨bQ, 2, none⟩ = some (.slice none 0 0) := blk_cell kQ 2
  have HA := hide (al1 w8 (.cells #[.int .u8 0, .int .u8 0, .int .u8 0, .int .u8 0] 23))
  obtain ⟨bZ, heqZ⟩ : ∃ b, b = w8.heap.size := ⟨_, rfl⟩
  go_wp2_with fail
  clear cq0 cq1 cq2 cq3 cp0 cp1 cp2 cQ0 cQ1 cQ2 hlq hlp hlQ
  generalize w8.alloc (.cells #[.int .u8 0, .int .u8 0, .int .u8 0, .int .u8 0] 23) = w9 at *
  rw [← heqZ] at HA ⊢
  obtain ⟨hsA, kZ, hbA⟩ := unhide HA
  rw [heqZ] at hbA
  have ltZq : B < bZ := by rw [heqZ]; exact blk_lt kq
  have ltZp : B + 1 < bZ := by rw [heqZ]; exact blk_lt kp
  have ltZQ : bQ < bZ := by rw [heqZ]; exact blk_lt kQ
  have hgB : B ≤ bZ := by rw [heqZ]; omega
  clear HA
  have hsz := hbA.size
  have kq := blk_below kq hbA (blk_lt kq)
  have kp := blk_below kp hbA (blk_lt kp)
  have kQ := blk_below kQ hbA (blk_lt kQ)
  have HXp := hide ((unhide HXp).below hbA)
  have HX5 := hide ((unhide HX5).below hbA)
  have HSe := hide ((unhide HSe).below hbA)
  have HB := hide ((unhide HB).trans (hbA.mono (by omega)))
  have hs : B + 2 ≤ w9.heap.size := by omega
  clear hbA hsz
  clear heqZ hsA
  refine (unhide HIN _).mono ?_
  rintro e w10 ⟨rfl, hbN⟩
  have hsz := hbN.size
  have kq := blk_below kq hbN (blk_lt kq)
  have kp := blk_below kp hbN (blk_lt kp)
  have kQ := blk_below kQ hbN (blk_lt kQ)
  have kZ := blk_below kZ hbN (blk_lt kZ)
  have HXp := hide ((unhide HXp).below hbN)
  have HX5 := hide ((unhide HX5).below hbN)
  have HSe := hide ((unhide HSe).below hbN)
  have HB := hide ((unhide HB).trans (hbN.mono (by omega)))
  have hs : B + 2 ≤ w10.heap.size := by omega
  clear hbN hsz
  have hlq : B < w10.heap.size := blk_lt kq
  have cq0 : w10.cell? ⟨B, 0, none⟩ = some (.int .u8 (q.r.toNat : Int)) := blk_cell kq 0
  have cq1 : w10.cell? ⟨B, 1, none⟩ = some (.int .u8 (q.g.toNat : Int)) := blk_cell kq 1
  have cq2 : w10.cell? ⟨B, 2, none⟩ = some (.int .u8 (q.b.toNat : Int)) := blk_cell kq 2
  have cq3 : w10.cell? ⟨B, 3, none⟩ = some (.int .u8 (q.a.toNat : Int)) := blk_cell kq 3
  have hlp : B + 1 < w10.heap.size := blk_lt kp
  have cp0 : w10.cell? ⟨B + 1, 0, none⟩ = some (.int .i64 (W : Int)) := blk_cell kp 0
  have cp1 : w10.cell? ⟨B + 1, 1, none⟩ = some (.int .i64 (H : Int)) := blk_cell kp 1
  have cp2 : w10.cell? ⟨B + 1, 2, none⟩ = some (.slice a n c) := blk_cell kp 2
  have hlQ : bQ < w10.heap.size := blk_lt kQ
  have cQ0 : w10.cell? ⟨bQ, 0, none⟩ = some (.int .i64 0) := blk_cell kQ 0
  have cQ1 : w10.cell? ⟨bQ, 1, none⟩ = some (.int .i64 0) := blk_cell kQ 1
  have cQ2 : w10.cell? ⟨bQ, 2, none⟩ = some (.slice none 0 0) := blk_cell kQ 2
  have hlZ : bZ < w10.heap.size := blk_lt kZ
  have cZ0 : w10.cell? ⟨bZ, 0, none⟩ = some (.int .u8 0) := blk_cell kZ 0
  have cZ1 : w10.cell? ⟨bZ, 1, none⟩ = some (.int .u8 0) := blk_cell kZ 1
  have cZ2 : w10.cell? ⟨bZ, 2, none⟩ = some (.int .u8 0) := blk_cell kZ 2
  have cZ3 : w10.cell? ⟨bZ, 3, none⟩ = some (.int .u8 0) := blk_cell kZ 3
  go_wp2_with fail
  clear cq0 cq1 cq2 cq3 cp0 cp1 cp2 cQ0 cQ1 cQ2 cZ0 cZ1 cZ2 cZ3 hlq hlp hlQ hlZ
  refine (unhide HRT _).mono ?_
  rintro e w11 ⟨rfl, hbN⟩
  have hsz := hbN.size
  have kq := blk_below kq hbN (blk_lt kq)
  have kp := blk_below kp hbN (blk_lt kp)
  have kQ := blk_below kQ hbN (blk_lt kQ)
  have kZ := blk_below kZ hbN (blk_lt kZ)
  have HXp := hide ((unhide HXp).below hbN)
  have HX5 := hide ((unhide HX5).below hbN)
  have HSe := hide ((unhide HSe).below hbN)
  have HB := hide ((unhide HB).trans (hbN.mono (by omega)))
  have hs : B + 2 ≤ w11.heap.size := by omega
  clear hbN hsz
  have hlq : B < w11.heap.size := blk_lt kq
  have cq0 : w11.cell? ⟨B, 0, none⟩ = some (.int .u8 (q.r.toNat : Int)) := blk_cell kq 0
  have cq1 : w11.cell? ⟨B, 1, none⟩ = some (.int .u8 (q.g.toNat : Int)) := blk_cell kq 1
  have cq2 : w11.cell? ⟨B, 2, none⟩ = some (.int .u8 (q.b.toNat : Int)) := blk_cell kq 2
  have cq3 : w11.cell? ⟨B, 3, none⟩ = some (.int .u8 (q.a.toNat : Int)) := blk_cell kq 3
  have hlp : B + 1 < w11.heap.size := blk_lt kp
  have cp0 : w11.cell? ⟨B + 1, 0, none⟩ = some (.int .i64 (W : Int)) := blk_cell kp 0
  have cp1 : w11.cell? ⟨B + 1, 1, none⟩ = some (.int .i64 (H : Int)) := blk_cell kp 1
  have cp2 : w11.cell? ⟨B + 1, 2, none⟩ = some (.slice a n c) := blk_cell kp 2
  have hlQ : bQ < w11.heap.size := blk_lt kQ
  have cQ0 : w11.cell? ⟨bQ, 0, none⟩ = some (.int .i64 0) := blk_cell kQ 0
  have cQ1 : w11.cell? ⟨bQ, 1, none⟩ = some (.int .i64 0) := blk_cell kQ 1
  have cQ2 : w11.cell? ⟨bQ, 2, none⟩ = some (.slice none 0 0) := blk_cell kQ 2
  have hlZ : bZ < w11.heap.size := blk_lt kZ
  have cZ0 : w11.cell? ⟨bZ, 0, none⟩ = some (.int .u8 0) := blk_cell kZ 0
  have cZ1 : w11.cell? ⟨bZ, 1, none⟩ = some (.int .u8 0) := blk_cell kZ 1
  have cZ2 : w11.cell? ⟨bZ, 2, none⟩ = some (.int .u8 0) := blk_cell kZ 2
  have cZ3 : w11.cell? ⟨bZ, 3, none⟩ = some (.int .u8 0) := blk_cell kZ 3
  go_wp2_with fail
  clear cq0 cq1 cq2 cq3 cp0 cp1 cp2 cQ0 cQ1 cQ2 cZ0 cZ1 cZ2 cZ3 hlq hlp hlQ hlZ
  refine (unhide HCo w11 (unhide HSe)).mono ?_
  rintro e w12 ⟨rfl, hbN⟩
  have hsz := hbN.size
  have kq := blk_below kq hbN (blk_lt kq)
  have kp := blk_below kp hbN (blk_lt kp)
  have kQ := blk_below kQ hbN (blk_lt kQ)
  have kZ := blk_below kZ hbN (blk_lt kZ)
  have HXp := hide ((unhide HXp).below hbN)
  have HX5 := hide ((unhide HX5).below hbN)
  have HSe := hide ((unhide HSe).below hbN)
  have HB := hide ((unhide HB).trans (hbN.mono (by omega)))
  have hs : B + 2 ≤ w12.heap.size := by omega
  clear hbN hsz
  have hlq : B < w12.heap.size := blk_lt kq
  have cq0 : w12.cell? ⟨B, 0, none⟩ = some (.int .u8 (q.r.toNat : Int)) := blk_cell kq 0
  have cq1 : w12.cell? ⟨B, 1, none⟩ = some (.int .u8 (q.g.toNat : Int)) := blk_cell kq 1
  have cq2 : w12.cell? ⟨B, 2, none⟩ = some (.int .u8 (q.b.toNat : Int)) := blk_cell kq 2
  have cq3 : w12.cell? ⟨B, 3, none⟩ = some (.int .u8 (q.a.toNat : Int)) := blk_cell kq 3
  have hlp : B + 1 < w12.heap.size := blk_lt kp
  have cp0 : w12.cell? ⟨B + 1, 0, none⟩ = some (.int .i64 (W : Int)) := blk_cell kp 0
  have cp1 : w12.cell? ⟨B + 1, 1, none⟩ = some (.int .i64 (H : Int)) := blk_cell kp 1
  have cp2 : w12.cell? ⟨B + 1, 2, none⟩ = some (.slice a n c) := blk_cell kp 2
  have hlQ : bQ < w12.heap.size := blk_lt kQ
  have cQ0 : w12.cell? ⟨bQ, 0, none⟩ = some (.int .i64 0) := blk_cell kQ 0
  have cQ1 : w12.cell? ⟨bQ, 1, none⟩ = some (.int .i64 0) := blk_cell kQ 1
  have cQ2 : w12.cell? ⟨bQ, 2, none⟩ = some (.slice none 0 0) := blk_cell kQ 2
  have hlZ : bZ < w12.heap.size := blk_lt kZ
  have cZ0 : w12.cell? ⟨bZ, 0, none⟩ = some (.int .u8 0) := blk_cell kZ 0
  have cZ1 : w12.cell? ⟨bZ, 1, none⟩ = some (.int .u8 0) := blk_cell kZ 1
  have cZ2 : w12.cell? ⟨bZ, 2, none⟩ = some (.int .u8 0) := blk_cell kZ 2
  have cZ3 : w12.cell? ⟨bZ, 3, none⟩ = some (.int .u8 0) := blk_cell kZ 3
  go_wp2
  clear cq0 cq1 cq2 cq3 cp0 cp1 cp2 cQ0 cQ1 cQ2 cZ0 cZ1 cZ2 cZ3 hlq hlp hlQ hlZ
  go_ret
  exact ⟨rfl, by rw [← unhide HBE]; exact unhide HB⟩
set_option maxHeartbeats 4000000 in
set_option maxRecDepth 100000 in
theorem rasterNew_bad2_ok (u v : Int) (q : Px) (W H : Nat) (a : Option Addr) (n c : Nat) (p : Nat → Px) (x y : Nat) (w : World) (A : Nat → Addr) (hS : Sent w A) (hP : IsPx w a n p) (hn3 : n ≤ 3000) (hu : 1 ≤ u ∧ u ≤ 256) (hv : ¬ (1 ≤ v ∧ v ≤ 256)) (hW0 : 1 ≤ W) (hW : W ≤ 256) (hH0 : 1 ≤ H) (hH : H ≤ 256) (hn : n = W * H) (hx : x < W) (hy : y < H) :
    Calls Tryd.prog 3 #[.int .i64 u, .int .i64 v, q.val, .agg #[.int .i64 (W : Int), .int .i64 (H : Int), .slice a n c], .int .i64 (x : Int), .int .i64 (y : Int)] w fun e w' => e = .returned (.bool true) ∧ Below w.heap.size w w' := by
  have HPL := hide plainly_any
  have HSM := hide (fun w => small_any (W : Int) (H : Int) a n c w)
  rw [decide_eq_true hn3] at HSM
  have HU := hide (fun w => side_any u w)
  have HV := hide (fun w => side_any v w)
  have HRT := hide (fun w => pright_any (W : Int) (H : Int) a n c w)
  have HIN := hide (fun w => inP_any (W : Int) (H : Int) (x : Int) (y : Int) a n c w)
  have HO := hide (fun w (h : IsPx w a n p) => own_isPx (W : Int) (H : Int) a n c p w h (by omega))
  have HX := hide hP
  have HS0 := hide hS
  rw [decide_eq_true hu] at HU
  rw [decide_eq_false hv] at HV
  have HN := hide (fun w (h : Sent w A) => new_bound u v q w _ _ (h.cell 1 (by omega)) (fun k => hv k.2))
  have HTe := hide (fun w (h : Sent w A) => told_err 1 2 0 0 none 0 0 w A h (by omega) rfl)
  rw [decide_eq_true (rightN hW0 hW hH0 hH hn)] at HRT
  rw [decide_eq_true (show (0 : Int) ≤ x ∧ (0 : Int) ≤ y ∧ (x : Int) < W ∧ (y : Int) < H by omega)] at HIN
  have HAt := hide (fun w a c (h : IsPx w a n p) => rAt_ok W H a n c x y p w hW0 hW hH0 hH hn h hx hy)
  have hlt : y * W + x < n := by rw [hn]; exact place_lt hx hy
  have hyW : y * W ≤ 65536 := Nat.mul_le_mul (show y ≤ 256 by omega) hW
  obtain ⟨t, ht⟩ : ∃ t, t = y * W := ⟨_, rfl⟩
  have zt : (y : Int) * (W : Int) = (t : Int) := by rw [ht]; simp
  rw [← ht] at hlt hyW HAt
  have wt : IntKind.i64.wrap (t : Int) = (t : Int) := by rw [IntKind.wrap_i64]; omega
  obtain ⟨k, hk⟩ : ∃ k, k = t + x := ⟨_, rfl⟩
  have e0 : (t : Int) + (x : Int) = (k : Int) := by rw [hk]; simp
  rw [← hk] at hlt HAt
  have wk : IntKind.i64.wrap (k : Int) = (k : Int) := by rw [IntKind.wrap_i64]; omega
  have hkn : (k : Int) < (n : Int) := by omega
  clear hk ht hx hy
  clear hn3 hP hS hu hv hW0 hW hH0 hH hn
  unfold Px.val at *
  have HA := hide (al2 w (.cells #[.int .u8 (q.r.toNat : Int), .int .u8 (q.g.toNat : Int), .int .u8 (q.b.toNat : Int), .int .u8 (q.a.toNat : Int)] 23) (.cells #[.int .i64 (W : Int), .int .i64 (H : Int), .slice a n c] 26))
  obtain ⟨B, hB⟩ : ∃ B, B = w.heap.size := ⟨_, rfl⟩
  go_enter Tryd.func3, Tryd.ntmps3
  go_wp2_with fail
  generalize ((w.alloc (.cells #[.int .u8 (q.r.toNat : Int), .int .u8 (q.g.toNat : Int), .int .u8 (q.b.toNat : Int), .int .u8 (q.a.toNat : Int)] 23)).alloc (.cells #[.int .i64 (W : Int), .int .i64 (H : Int), .slice a n c] 26)) = w1 at *
  rw [← hB] at HA ⊢
  obtain ⟨hs1, kq, kp, hb1⟩ := unhide HA
  have HBE := hide hB
  clear HA hB
  have hs : B + 2 ≤ w1.heap.size := by omega
  have HB := hide hb1
  clear hs1 hb1
  have HXp := hide ((unhide HX).under (unhide HB) (fun x hx h0 => by rw [unhide HBE]; exact (unhide HX).lt x hx h0))
  have HSe := hide ((unhide HS0).below (by rw [← unhide HBE]; exact unhide HB))
  clear HX HS0
  refine (unhide HPL _).mono ?_
  rintro e w2 ⟨rfl, hbN⟩
  have hsz := hbN.size
  have kq := blk_below kq hbN (blk_lt kq)
  have kp := blk_below kp hbN (blk_lt kp)
  have HXp := hide ((unhide HXp).below hbN)
  have HSe := hide ((unhide HSe).below hbN)
  have HB := hide ((unhide HB).trans (hbN.mono (by omega)))
  have hs : B + 2 ≤ w2.heap.size := by omega
  clear hbN hsz
  have hlq : B < w2.heap.size := blk_lt kq
  have cq0 : w2.cell? ⟨B, 0, none⟩ = some (.int .u8 (q.r.toNat : Int)) := blk_cell kq 0
  have cq1 : w2.cell? ⟨B, 1, none⟩ = some (.int .u8 (q.g.toNat : Int)) := blk_cell kq 1
  have cq2 : w2.cell? ⟨B, 2, none⟩ = some (.int .u8 (q.b.toNat : Int)) := blk_cell kq 2
  have cq3 : w2.cell? ⟨B, 3, none⟩ = some (.int .u8 (q.a.toNat : Int)) := blk_cell kq 3
  have hlp : B + 1 < w2.heap.size := blk_lt kp
  have cp0 : w2.cell? ⟨B + 1, 0, none⟩ = some (.int .i64 (W : Int)) := blk_cell kp 0
  have cp1 : w2.cell? ⟨B + 1, 1, none⟩ = some (.int .i64 (H : Int)) := blk_cell kp 1
  have cp2 : w2.cell? ⟨B + 1, 2, none⟩ = some (.slice a n c) := blk_cell kp 2
  go_wp2_with fail
  clear cq0 cq1 cq2 cq3 cp0 cp1 cp2 hlq hlp
  refine (unhide HSM _).mono ?_
  rintro e w3 ⟨rfl, hbN⟩
  have hsz := hbN.size
  have kq := blk_below kq hbN (blk_lt kq)
  have kp := blk_below kp hbN (blk_lt kp)
  have HXp := hide ((unhide HXp).below hbN)
  have HSe := hide ((unhide HSe).below hbN)
  have HB := hide ((unhide HB).trans (hbN.mono (by omega)))
  have hs : B + 2 ≤ w3.heap.size := by omega
  clear hbN hsz
  have hlq : B < w3.heap.size := blk_lt kq
  have cq0 : w3.cell? ⟨B, 0, none⟩ = some (.int .u8 (q.r.toNat : Int)) := blk_cell kq 0
  have cq1 : w3.cell? ⟨B, 1, none⟩ = some (.int .u8 (q.g.toNat : Int)) := blk_cell kq 1
  have cq2 : w3.cell? ⟨B, 2, none⟩ = some (.int .u8 (q.b.toNat : Int)) := blk_cell kq 2
  have cq3 : w3.cell? ⟨B, 3, none⟩ = some (.int .u8 (q.a.toNat : Int)) := blk_cell kq 3
  have hlp : B + 1 < w3.heap.size := blk_lt kp
  have cp0 : w3.cell? ⟨B + 1, 0, none⟩ = some (.int .i64 (W : Int)) := blk_cell kp 0
  have cp1 : w3.cell? ⟨B + 1, 1, none⟩ = some (.int .i64 (H : Int)) := blk_cell kp 1
  have cp2 : w3.cell? ⟨B + 1, 2, none⟩ = some (.slice a n c) := blk_cell kp 2
  go_wp2_with fail
  clear cq0 cq1 cq2 cq3 cp0 cp1 cp2 hlq hlp
  refine (unhide HN w3 (unhide HSe)).mono ?_
  rintro e w4 ⟨rfl, hbN⟩
  have hsz := hbN.size
  have kq := blk_below kq hbN (blk_lt kq)
  have kp := blk_below kp hbN (blk_lt kp)
  have HXp := hide ((unhide HXp).below hbN)
  have HSe := hide ((unhide HSe).below hbN)
  have HB := hide ((unhide HB).trans (hbN.mono (by omega)))
  have hs : B + 2 ≤ w4.heap.size := by omega
  clear hbN hsz
  have hlq : B < w4.heap.size := blk_lt kq
  have cq0 : w4.cell? ⟨B, 0, none⟩ = some (.int .u8 (q.r.toNat : Int)) := blk_cell kq 0
  have cq1 : w4.cell? ⟨B, 1, none⟩ = some (.int .u8 (q.g.toNat : Int)) := blk_cell kq 1
  have cq2 : w4.cell? ⟨B, 2, none⟩ = some (.int .u8 (q.b.toNat : Int)) := blk_cell kq 2
  have cq3 : w4.cell? ⟨B, 3, none⟩ = some (.int .u8 (q.a.toNat : Int)) := blk_cell kq 3
  have hlp : B + 1 < w4.heap.size := blk_lt kp
  have cp0 : w4.cell? ⟨B + 1, 0, none⟩ = some (.int .i64 (W : Int)) := blk_cell kp 0
  have cp1 : w4.cell? ⟨B + 1, 1, none⟩ = some (.int .i64 (H : Int)) := blk_cell kp 1
  have cp2 : w4.cell? ⟨B + 1, 2, none⟩ = some (.slice a n c) := blk_cell kp 2
  have HA := hide (al1 w4 (.cells #[.int .i64 0, .int .i64 0, .slice none 0 0] 26))
  obtain ⟨bQ, heqQ⟩ : ∃ b, b = w4.heap.size := ⟨_, rfl⟩
  go_wp2_with fail
  clear cq0 cq1 cq2 cq3 cp0 cp1 cp2 hlq hlp
  generalize w4.alloc (.cells #[.int .i64 0, .int .i64 0, .slice none 0 0] 26) = w5 at *
  rw [← heqQ] at HA ⊢
  obtain ⟨hsA, kQ, hbA⟩ := unhide HA
  rw [heqQ] at hbA
  have ltQq : B < bQ := by rw [heqQ]; exact blk_lt kq
  have ltQp : B + 1 < bQ := by rw [heqQ]; exact blk_lt kp
  have hgB : B ≤ bQ := by rw [heqQ]; omega
  clear HA
  have hsz := hbA.size
  have kq := blk_below kq hbA (blk_lt kq)
  have kp := blk_below kp hbA (blk_lt kp)
  have HXp := hide ((unhide HXp).below hbA)
  have HSe := hide ((unhide HSe).below hbA)
  have HB := hide ((unhide HB).trans (hbA.mono (by omega)))
  have hs : B + 2 ≤ w5.heap.size := by omega
  clear hbA hsz
  clear heqQ hsA
  refine (unhide HU _).mono ?_
  rintro e w5 ⟨rfl, rfl⟩
  have hlq : B < w5.heap.size := blk_lt kq
  have cq0 : w5.cell? ⟨B, 0, none⟩ = some (.int .u8 (q.r.toNat : Int)) := blk_cell kq 0
  have cq1 : w5.cell? ⟨B, 1, none⟩ = some (.int .u8 (q.g.toNat : Int)) := blk_cell kq 1
  have cq2 : w5.cell? ⟨B, 2, none⟩ = some (.int .u8 (q.b.toNat : Int)) := blk_cell kq 2
  have cq3 : w5.cell? ⟨B, 3, none⟩ = some (.int .u8 (q.a.toNat : Int)) := blk_cell kq 3
  have hlp : B + 1 < w5.heap.size := blk_lt kp
  have cp0 : w5.cell? ⟨B + 1, 0, none⟩ = some (.int .i64 (W : Int)) := blk_cell kp 0
  have cp1 : w5.cell? ⟨B + 1, 1, none⟩ = some (.int .i64 (H : Int)) := blk_cell kp 1
  have cp2 : w5.cell? ⟨B + 1, 2, none⟩ = some (.slice a n c) := blk_cell kp 2
  have hlQ : bQ < w5.heap.size := blk_lt kQ
  have cQ0 : w5.cell? ⟨bQ, 0, none⟩ = some (.int .i64 0) := blk_cell kQ 0
  have cQ1 : w5.cell? ⟨bQ, 1, none⟩ = some (.int .i64 0) := blk_cell kQ 1
  have cQ2 : w5.cell? ⟨bQ, 2, none⟩ = some (.slice none 0 0) := blk_cell kQ 2
  go_wp2_with fail
  clear cq0 cq1 cq2 cq3 cp0 cp1 cp2 cQ0 cQ1 cQ2 hlq hlp hlQ
  refine (unhide HV _).mono ?_
  rintro e w5 ⟨rfl, rfl⟩
  have hlq : B < w5.heap.size := blk_lt kq
  have cq0 : w5.cell? ⟨B, 0, none⟩ = some (.int .u8 (q.r.toNat : Int)) := blk_cell kq 0
  have cq1 : w5.cell? ⟨B, 1, none⟩ = some (.int .u8 (q.g.toNat : Int)) := blk_cell kq 1
  have cq2 : w5.cell? ⟨B, 2, none⟩ = some (.int .u8 (q.b.toNat : Int)) := blk_cell kq 2
  have cq3 : w5.cell? ⟨B, 3, none⟩ = some (.int .u8 (q.a.toNat : Int)) := blk_cell kq 3
  have hlp : B + 1 < w5.heap.size := blk_lt kp
  have cp0 : w5.cell? ⟨B + 1, 0, none⟩ = some (.int .i64 (W : Int)) := blk_cell kp 0
  have cp1 : w5.cell? ⟨B + 1, 1, none⟩ = some (.int .i64 (H : Int)) := blk_cell kp 1
  have cp2 : w5.cell? ⟨B + 1, 2, none⟩ = some (.slice a n c) := blk_cell kp 2
  have hlQ : bQ < w5.heap.size := blk_lt kQ
  have cQ0 : w5.cell? ⟨bQ, 0, none⟩ = some (.int .i64 0) := blk_cell kQ 0
  have cQ1 : w5.cell? ⟨bQ, 1, none⟩ = some (.int .i64 0) := blk_cell kQ 1
  have cQ2 : w5.cell? ⟨bQ, 2, none⟩ = some (.slice none 0 0) := blk_cell kQ 2
  go_wp2_with fail
  clear cq0 cq1 cq2 cq3 cp0 cp1 cp2 cQ0 cQ1 cQ2 hlq hlp hlQ
  refine (unhide HTe w5 (unhide HSe)).mono ?_
  rintro e w6 ⟨rfl, hbN⟩
  have hsz := hbN.size
  have kq := blk_below kq hbN (blk_lt kq)
  have kp := blk_below kp hbN (blk_lt kp)
  have kQ := blk_below kQ hbN (blk_lt kQ)
  have HXp := hide ((unhide HXp).below hbN)
  have HSe := hide ((unhide HSe).below hbN)
  have HB := hide ((unhide HB).trans (hbN.mono (by omega)))
  have hs : B + 2 ≤ w6.heap.size := by omega
  clear hbN hsz
  have hlq : B < w6.heap.size := blk_lt kq
  have cq0 : w6.cell? ⟨B, 0, none⟩ = some (.int .u8 (q.r.toNat : Int)) := blk_cell kq 0
  have cq1 : w6.cell? ⟨B, 1, none⟩ = some (.int .u8 (q.g.toNat : Int)) := blk_cell kq 1
  have cq2 : w6.cell? ⟨B, 2, none⟩ = some (.int .u8 (q.b.toNat : Int)) := blk_cell kq 2
  have cq3 : w6.cell? ⟨B, 3, none⟩ = some (.int .u8 (q.a.toNat : Int)) := blk_cell kq 3
  have hlp : B + 1 < w6.heap.size := blk_lt kp
  have cp0 : w6.cell? ⟨B + 1, 0, none⟩ = some (.int .i64 (W : Int)) := blk_cell kp 0
  have cp1 : w6.cell? ⟨B + 1, 1, none⟩ = some (.int .i64 (H : Int)) := blk_cell kp 1
  have cp2 : w6.cell? ⟨B + 1, 2, none⟩ = some (.slice a n c) := blk_cell kp 2
  have hlQ : bQ < w6.heap.size := blk_lt kQ
  have cQ0 : w6.cell? ⟨bQ, 0, none⟩ = some (.int .i64 0) := blk_cell kQ 0
  have cQ1 : w6.cell? ⟨bQ, 1, none⟩ = some (.int .i64 0) := blk_cell kQ 1
  have cQ2 : w6.cell? ⟨bQ, 2, none⟩ = some (.slice none 0 0) := blk_cell kQ 2
  go_wp2_with fail
  clear cq0 cq1 cq2 cq3 cp0 cp1 cp2 cQ0 cQ1 cQ2 hlq hlp hlQ
  refine (unhide HO w6 (unhide HXp)).mono ?_
  rintro e w7 ⟨a5, c5, rfl, hpx, hbN⟩
  have hsz := hbN.size
  have kq := blk_below kq hbN (blk_lt kq)
  have kp := blk_below kp hbN (blk_lt kp)
  have kQ := blk_below kQ hbN (blk_lt kQ)
  have HXp := hide ((unhide HXp).below hbN)
  have HSe := hide ((unhide HSe).below hbN)
  have HB := hide ((unhide HB).trans (hbN.mono (by omega)))
  have hs : B + 2 ≤ w7.heap.size := by omega
  clear hbN hsz
  have HX5 := hide hpx
  clear hpx
  have hlq : B < w7.heap.size := blk_lt kq
  have cq0 : w7.cell? ⟨B, 0, none⟩ = some (.int .u8 (q.r.toNat : Int)) := blk_cell kq 0
  have cq1 : w7.cell? ⟨B, 1, none⟩ = some (.int .u8 (q.g.toNat : Int)) := blk_cell kq 1
  have cq2 : w7.cell? ⟨B, 2, none⟩ = some (.int .u8 (q.b.toNat : Int)) := blk_cell kq 2
  have cq3 : w7.cell? ⟨B, 3, none⟩ = some (.int .u8 (q.a.toNat : Int)) := blk_cell kq 3
  have hlp : B + 1 < w7.heap.size := blk_lt kp
  have cp0 : w7.cell? ⟨B + 1, 0, none⟩ = some (.int .i64 (W : Int)) := blk_cell kp 0
  have cp1 : w7.cell? ⟨B + 1, 1, none⟩ = some (.int .i64 (H : Int)) := blk_cell kp 1
  have cp2 : w7.cell? ⟨B + 1, 2, none⟩ = some (.slice a n c) := blk_cell kp 2
  have hlQ : bQ < w7.heap.size := blk_lt kQ
  have cQ0 : w7.cell? ⟨bQ, 0, none⟩ = some (.int .i64 0) := blk_cell kQ 0
  have cQ1 : w7.cell? ⟨bQ, 1, none⟩ = some (.int .i64 0) := blk_cell kQ 1
  have cQ2 : w7.cell? ⟨bQ, 2, none⟩ = some (.slice none 0 0) := blk_cell kQ 2
  go_wp2_with fail
  clear cq0 cq1 cq2 cq3 cp0 cp1 cp2 cQ0 cQ1 cQ2 hlq hlp hlQ
  refine (unhide HAt w7 _ _ (unhide HX5)).mono ?_
  rintro e w8 ⟨rfl, hbN⟩
  have hsz := hbN.size
  have kq := blk_below kq hbN (blk_lt kq)
  have kp := blk_below kp hbN (blk_lt kp)
  have kQ := blk_below kQ hbN (blk_lt kQ)
  have HXp := hide ((unhide HXp).below hbN)
  have HX5 := hide ((unhide HX5).below hbN)
  have HSe := hide ((unhide HSe).below hbN)
  have HB := hide ((unhide HB).trans (hbN.mono (by omega)))
  have hs : B + 2 ≤ w8.heap.size := by omega
  clear hbN hsz
  generalize hqk : p k = qk at *
  have hlq : B < w8.heap.size := blk_lt kq
  have cq0 : w8.cell? ⟨B, 0, none⟩ = some (.int .u8 (q.r.toNat : Int)) := blk_cell kq 0
  have cq1 : w8.cell? ⟨B, 1, none⟩ = some (.int .u8 (q.g.toNat : Int)) := blk_cell kq 1
  have cq2 : w8.cell? ⟨B, 2, none⟩ = some (.int .u8 (q.b.toNat : Int)) := blk_cell kq 2
  have cq3 : w8.cell? ⟨B, 3, none⟩ = some (.int .u8 (q.a.toNat : Int)) := blk_cell kq 3
  have hlp : B + 1 < w8.heap.size := blk_lt kp
  have cp0 : w8.cell? ⟨B + 1, 0, none⟩ = some (.int .i64 (W : Int)) := blk_cell kp 0
  have cp1 : w8.cell? ⟨B + 1, 1, none⟩ = some (.int .i64 (H : Int)) := blk_cell kp 1
  have cp2 : w8.cell? ⟨B + 1, 2, none⟩ = some (.slice a n c) := blk_cell kp 2
  have hlQ : bQ < w8.heap.size := blk_lt kQ
  have cQ0 : w8.cell? ⟨bQ, 0, none⟩ = some (.int .i64 0) := blk_cell kQ 0
  have cQ1 : w8.cell? ⟨bQ, 1, none⟩ = some (.int .i64 0) := blk_cell kQ 1
  have cQ2 : w8.cell? ⟨bQ, 2, none⟩ = some (.slice none 0 0) := blk_cell kQ 2
  have HA := hide (al1 w8 (.cells #[.int .u8 (qk.r.toNat : Int), .int .u8 (qk.g.toNat : Int), .int .u8 (qk.b.toNat : Int), .int .u8 (qk.a.toNat : Int)] 23))
  obtain ⟨bZ, heqZ⟩ : ∃ b, b = w8.heap.size := ⟨_, rfl⟩
  go_wp2_with fail
  clear cq0 cq1 cq2 cq3 cp0 cp1 cp2 cQ0 cQ1 cQ2 hlq hlp hlQ
  generalize w8.alloc (.cells #[.int .u8 (qk.r.toNat : Int), .int .u8 (qk.g.toNat : Int), .int .u8 (qk.b.toNat : Int), .int .u8 (qk.a.toNat : Int)] 23) = w9 at *
  rw [← heqZ] at HA ⊢
  obtain ⟨hsA, kZ, hbA⟩ := unhide HA
  rw [heqZ] at hbA
  have ltZq : B < bZ := by rw [heqZ]; exact blk_lt kq
  have ltZp : B + 1 < bZ := by rw [heqZ]; exact blk_lt kp
  have ltZQ : bQ < bZ := by rw [heqZ]; exact blk_lt kQ
  have hgB : B ≤ bZ := by rw [heqZ]; omega
  clear HA
  have hsz := hbA.size
  have kq := blk_below kq hbA (blk_lt kq)
  have kp := blk_below kp hbA (blk_lt kp)
  have kQ := blk_below kQ hbA (blk_lt kQ)
  have HXp := hide ((unhide HXp).below hbA)
  have HX5 := hide ((unhide HX5).below hbA)
  have HSe := hide ((unhide HSe).below hbA)
  have HB := hide ((unhide HB).trans (hbA.mono (by omega)))
  have hs : B + 2 ≤ w9.heap.size := by omega
  clear hbA hsz
  clear heqZ hsA
  refine (unhide HIN _).mono ?_
  rintro e w10 ⟨rfl, hbN⟩
  have hsz := hbN.size
  have kq := blk_below kq hbN (blk_lt kq)
  have kp := blk_below kp hbN (blk_lt kp)
  have kQ := blk_below kQ hbN (blk_lt kQ)
  have kZ := blk_below kZ hbN (blk_lt kZ)
  have HXp := hide ((unhide HXp).below hbN)
  have HX5 := hide ((unhide HX5).below hbN)
  have HSe := hide ((unhide HSe).below hbN)
  have HB := hide ((unhide HB).trans (hbN.mono (by omega)))
  have hs : B + 2 ≤ w10.heap.size := by omega
  clear hbN hsz
  have hlq : B < w10.heap.size := blk_lt kq
  have cq0 : w10.cell? ⟨B, 0, none⟩ = some (.int .u8 (q.r.toNat : Int)) := blk_cell kq 0
  have cq1 : w10.cell? ⟨B, 1, none⟩ = some (.int .u8 (q.g.toNat : Int)) := blk_cell kq 1
  have cq2 : w10.cell? ⟨B, 2, none⟩ = some (.int .u8 (q.b.toNat : Int)) := blk_cell kq 2
  have cq3 : w10.cell? ⟨B, 3, none⟩ = some (.int .u8 (q.a.toNat : Int)) := blk_cell kq 3
  have hlp : B + 1 < w10.heap.size := blk_lt kp
  have cp0 : w10.cell? ⟨B + 1, 0, none⟩ = some (.int .i64 (W : Int)) := blk_cell kp 0
  have cp1 : w10.cell? ⟨B + 1, 1, none⟩ = some (.int .i64 (H : Int)) := blk_cell kp 1
  have cp2 : w10.cell? ⟨B + 1, 2, none⟩ = some (.slice a n c) := blk_cell kp 2
  have hlQ : bQ < w10.heap.size := blk_lt kQ
  have cQ0 : w10.cell? ⟨bQ, 0, none⟩ = some (.int .i64 0) := blk_cell kQ 0
  have cQ1 : w10.cell? ⟨bQ, 1, none⟩ = some (.int .i64 0) := blk_cell kQ 1
  have cQ2 : w10.cell? ⟨bQ, 2, none⟩ = some (.slice none 0 0) := blk_cell kQ 2
  have hlZ : bZ < w10.heap.size := blk_lt kZ
  have cZ0 : w10.cell? ⟨bZ, 0, none⟩ = some (.int .u8 (qk.r.toNat : Int)) := blk_cell kZ 0
  have cZ1 : w10.cell? ⟨bZ, 1, none⟩ = some (.int .u8 (qk.g.toNat : Int)) := blk_cell kZ 1
  have cZ2 : w10.cell? ⟨bZ, 2, none⟩ = some (.int .u8 (qk.b.toNat : Int)) := blk_cell kZ 2
  have cZ3 : w10.cell? ⟨bZ, 3, none⟩ = some (.int .u8 (qk.a.toNat : Int)) := blk_cell kZ 3
  go_wp2_with fail
  clear cq0 cq1 cq2 cq3 cp0 cp1 cp2 cQ0 cQ1 cQ2 cZ0 cZ1 cZ2 cZ3 hlq hlp hlQ hlZ
  refine (unhide HRT _).mono ?_
  rintro e w11 ⟨rfl, hbN⟩
  have hsz := hbN.size
  have kq := blk_below kq hbN (blk_lt kq)
  have kp := blk_below kp hbN (blk_lt kp)
  have kQ := blk_below kQ hbN (blk_lt kQ)
  have kZ := blk_below kZ hbN (blk_lt kZ)
  have HXp := hide ((unhide HXp).below hbN)
  have HX5 := hide ((unhide HX5).below hbN)
  have HSe := hide ((unhide HSe).below hbN)
  have HB := hide ((unhide HB).trans (hbN.mono (by omega)))
  have hs : B + 2 ≤ w11.heap.size := by omega
  clear hbN hsz
  have hlq : B < w11.heap.size := blk_lt kq
  have cq0 : w11.cell? ⟨B, 0, none⟩ = some (.int .u8 (q.r.toNat : Int)) := blk_cell kq 0
  have cq1 : w11.cell? ⟨B, 1, none⟩ = some (.int .u8 (q.g.toNat : Int)) := blk_cell kq 1
  have cq2 : w11.cell? ⟨B, 2, none⟩ = some (.int .u8 (q.b.toNat : Int)) := blk_cell kq 2
  have cq3 : w11.cell? ⟨B, 3, none⟩ = some (.int .u8 (q.a.toNat : Int)) := blk_cell kq 3
  have hlp : B + 1 < w11.heap.size := blk_lt kp
  have cp0 : w11.cell? ⟨B + 1, 0, none⟩ = some (.int .i64 (W : Int)) := blk_cell kp 0
  have cp1 : w11.cell? ⟨B + 1, 1, none⟩ = some (.int .i64 (H : Int)) := blk_cell kp 1
  have cp2 : w11.cell? ⟨B + 1, 2, none⟩ = some (.slice a n c) := blk_cell kp 2
  have hlQ : bQ < w11.heap.size := blk_lt kQ
  have cQ0 : w11.cell? ⟨bQ, 0, none⟩ = some (.int .i64 0) := blk_cell kQ 0
  have cQ1 : w11.cell? ⟨bQ, 1, none⟩ = some (.int .i64 0) := blk_cell kQ 1
  have cQ2 : w11.cell? ⟨bQ, 2, none⟩ = some (.slice none 0 0) := blk_cell kQ 2
  have hlZ : bZ < w11.heap.size := blk_lt kZ
  have cZ0 : w11.cell? ⟨bZ, 0, none⟩ = some (.int .u8 (qk.r.toNat : Int)) := blk_cell kZ 0
  have cZ1 : w11.cell? ⟨bZ, 1, none⟩ = some (.int .u8 (qk.g.toNat : Int)) := blk_cell kZ 1
  have cZ2 : w11.cell? ⟨bZ, 2, none⟩ = some (.int .u8 (qk.b.toNat : Int)) := blk_cell kZ 2
  have cZ3 : w11.cell? ⟨bZ, 3, none⟩ = some (.int .u8 (qk.a.toNat : Int)) := blk_cell kZ 3
  obtain ⟨b, off, rfl, hm, hc⟩ := (unhide HXp).resolve_left (by omega)
  obtain ⟨t0, t1, t2, t3⟩ := hc k hlt
  rw [hqk] at t0 t1 t2 t3
  clear hc HX5 HXp hqk
  go_wp2
  go_quiet (fail)
  go_wp2
  go_ret
  exact ⟨rfl, by rw [← unhide HBE]; exact below_drewN (unhide HB) _⟩
set_option maxHeartbeats 4000000 in
set_option maxRecDepth 100000 in
theorem rasterNew_ok_shapein (u v : Nat) (q : Px) (W H : Int) (a : Option Addr) (n c : Nat) (p : Nat → Px) (x y : Int) (w : World) (A : Nat → Addr) (hS : Sent w A) (hP : IsPx w a n p) (hn3 : n ≤ 3000) (hu0 : 1 ≤ u) (hu : u ≤ 256) (hv0 : 1 ≤ v) (hv : v ≤ 256) (hR : ¬ RightP W H n) (hin : 0 ≤ x ∧ 0 ≤ y ∧ x < W ∧ y < H) :
    Calls Tryd.prog 3 #[.int .i64 (u : Int), .int .i64 (v : Int), q.val, .agg #[.int .i64 W, .int .i64 H, .slice a n c], .int .i64 x, .int .i64 y] w fun e w' => e = .returned (.bool true) ∧ Below w.heap.size w w' := by
  have HPL := hide plainly_any
  have HSM := hide (fun w => small_any W H a n c w)
  rw [decide_eq_true hn3] at HSM
  have HU := hide (fun w => side_any (u : Int) w)
  have HV := hide (fun w => side_any (v : Int) w)
  have HRT := hide (fun w => pright_any W H a n c w)
  have HIN := hide (fun w => inP_any W H x y a n c w)
  have HO := hide (fun w (h : IsPx w a n p) => own_isPx W H a n c p w h (by omega))
  have HX := hide hP
  have HS0 := hide hS
  rw [decide_eq_true (show (1 : Int) ≤ u ∧ (u : Int) ≤ 256 by omega)] at HU
  rw [decide_eq_true (show (1 : Int) ≤ v ∧ (v : Int) ≤ 256 by omega)] at HV
  have HN := hide (fun w => new_ok u v q w hu0 hu hv0 hv)
  have HBl := hide (fun w => blankP_any u v q w hu hv)
  have hM3 : u * v ≤ 100000 := Nat.le_trans (Nat.mul_le_mul hu hv) (by omega)
  have HTo := hide (fun w a b c d (h1 : IsPx w a (u * v) (grid u fun _ _ => q)) (h2 : IsPx w b (u * v) (fun _ => q)) => told_ok u v a b (u * v) c d (fun _ => q) w h1 h2 hM3)
  rw [decide_eq_false hR] at HRT
  rw [decide_eq_true hin] at HIN
  have HAt := hide (fun w a c (h : Sent w A) => rAt_shape W H a n c x y w _ _ (h.cell 2 (by omega)) hR)
  have HCo := hide (fun w (h : Sent w A) => coded2_sent 2 3 w A h (by omega) rfl)
  clear hn3 hP hS hu0 hu hv0 hv hR hin
  unfold Px.val at *
  obtain ⟨M, hM⟩ : ∃ M, M = u * v := ⟨_, rfl⟩
  rw [← hM] at HN HBl HTo hM3
  clear hM
  have HA := hide (al2 w (.cells #[.int .u8 (q.r.toNat : Int), .int .u8 (q.g.toNat : Int), .int .u8 (q.b.toNat : Int), .int .u8 (q.a.toNat : Int)] 23) (.cells #[.int .i64 W, .int .i64 H, .slice a n c] 26))
  obtain ⟨B, hB⟩ : ∃ B, B = w.heap.size := ⟨_, rfl⟩
  go_enter Tryd.func3, Tryd.ntmps3
  go_wp2_with fail
  generalize ((w.alloc (.cells #[.int .u8 (q.r.toNat : Int), .int .u8 (q.g.toNat : Int), .int .u8 (q.b.toNat : Int), .int .u8 (q.a.toNat : Int)] 23)).alloc (.cells #[.int .i64 W, .int .i64 H, .slice a n c] 26)) = w1 at *
  rw [← hB] at HA ⊢
  obtain ⟨hs1, kq, kp, hb1⟩ := unhide HA
  have HBE := hide hB
  clear HA hB
  have hs : B + 2 ≤ w1.heap.size := by omega
  have HB := hide hb1
  clear hs1 hb1
  have HXp := hide ((unhide HX).under (unhide HB) (fun x hx h0 => by rw [unhide HBE]; exact (unhide HX).lt x hx h0))
  have HSe := hide ((unhide HS0).below (by rw [← unhide HBE]; exact unhide HB))
  clear HX HS0
  refine (unhide HPL _).mono ?_
  rintro e w2 ⟨rfl, hbN⟩
  have hsz := hbN.size
  have kq := blk_below kq hbN (blk_lt kq)
  have kp := blk_below kp hbN (blk_lt kp)
  have HXp := hide ((unhide HXp).below hbN)
  have HSe := hide ((unhide HSe).below hbN)
  have HB := hide ((unhide HB).trans (hbN.mono (by omega)))
  have hs : B + 2 ≤ w2.heap.size := by omega
  clear hbN hsz
  have hlq : B < w2.heap.size := blk_lt kq
  have cq0 : w2.cell? ⟨B, 0, none⟩ = some (.int .u8 (q.r.toNat : Int)) := blk_cell kq 0
  have cq1 : w2.cell? ⟨B, 1, none⟩ = some (.int .u8 (q.g.toNat : Int)) := blk_cell kq 1
  have cq2 : w2.cell? ⟨B, 2, none⟩ = some (.int .u8 (q.b.toNat : Int)) := blk_cell kq 2
  have cq3 : w2.cell? ⟨B, 3, none⟩ = some (.int .u8 (q.a.toNat : Int)) := blk_cell kq 3
  have hlp : B + 1 < w2.heap.size := blk_lt kp
  have cp0 : w2.cell? ⟨B + 1, 0, none⟩ = some (.int .i64 W) := blk_cell kp 0
  have cp1 : w2.cell? ⟨B + 1, 1, none⟩ = some (.int .i64 H) := blk_cell kp 1
  have cp2 : w2.cell? ⟨B + 1, 2, none⟩ = some (.slice a n c) := blk_cell kp 2
  go_wp2_with fail
  clear cq0 cq1 cq2 cq3 cp0 cp1 cp2 hlq hlp
  refine (unhide HSM _).mono ?_
  rintro e w3 ⟨rfl, hbN⟩
  have hsz := hbN.size
  have kq := blk_below kq hbN (blk_lt kq)
  have kp := blk_below kp hbN (blk_lt kp)
  have HXp := hide ((unhide HXp).below hbN)
  have HSe := hide ((unhide HSe).below hbN)
  have HB := hide ((unhide HB).trans (hbN.mono (by omega)))
  have hs : B + 2 ≤ w3.heap.size := by omega
  clear hbN hsz
  have hlq : B < w3.heap.size := blk_lt kq
  have cq0 : w3.cell? ⟨B, 0, none⟩ = some (.int .u8 (q.r.toNat : Int)) := blk_cell kq 0
  have cq1 : w3.cell? ⟨B, 1, none⟩ = some (.int .u8 (q.g.toNat : Int)) := blk_cell kq 1
  have cq2 : w3.cell? ⟨B, 2, none⟩ = some (.int .u8 (q.b.toNat : Int)) := blk_cell kq 2
  have cq3 : w3.cell? ⟨B, 3, none⟩ = some (.int .u8 (q.a.toNat : Int)) := blk_cell kq 3
  have hlp : B + 1 < w3.heap.size := blk_lt kp
  have cp0 : w3.cell? ⟨B + 1, 0, none⟩ = some (.int .i64 W) := blk_cell kp 0
  have cp1 : w3.cell? ⟨B + 1, 1, none⟩ = some (.int .i64 H) := blk_cell kp 1
  have cp2 : w3.cell? ⟨B + 1, 2, none⟩ = some (.slice a n c) := blk_cell kp 2
  go_wp2_with fail
  clear cq0 cq1 cq2 cq3 cp0 cp1 cp2 hlq hlp
  refine (unhide HN w3).mono ?_
  rintro e w4 ⟨a1, c1, rfl, hpx, hbN⟩
  have hsz := hbN.size
  have kq := blk_below kq hbN (blk_lt kq)
  have kp := blk_below kp hbN (blk_lt kp)
  have HXp := hide ((unhide HXp).below hbN)
  have HSe := hide ((unhide HSe).below hbN)
  have HB := hide ((unhide HB).trans (hbN.mono (by omega)))
  have hs : B + 2 ≤ w4.heap.size := by omega
  clear hbN hsz
  have HX1 := hide hpx
  clear hpx
  have hlq : B < w4.heap.size := blk_lt kq
  have cq0 : w4.cell? ⟨B, 0, none⟩ = some (.int .u8 (q.r.toNat : Int)) := blk_cell kq 0
  have cq1 : w4.cell? ⟨B, 1, none⟩ = some (.int .u8 (q.g.toNat : Int)) := blk_cell kq 1
  have cq2 : w4.cell? ⟨B, 2, none⟩ = some (.int .u8 (q.b.toNat : Int)) := blk_cell kq 2
  have cq3 : w4.cell? ⟨B, 3, none⟩ = some (.int .u8 (q.a.toNat : Int)) := blk_cell kq 3
  have hlp : B + 1 < w4.heap.size := blk_lt kp
  have cp0 : w4.cell? ⟨B + 1, 0, none⟩ = some (.int .i64 W) := blk_cell kp 0
  have cp1 : w4.cell? ⟨B + 1, 1, none⟩ = some (.int .i64 H) := blk_cell kp 1
  have cp2 : w4.cell? ⟨B + 1, 2, none⟩ = some (.slice a n c) := blk_cell kp 2
  have HA := hide (al1 w4 (.cells #[.int .i64 (u : Int), .int .i64 (v : Int), .slice a1 M c1] 26))
  obtain ⟨bQ, heqQ⟩ : ∃ b, b = w4.heap.size := ⟨_, rfl⟩
  go_wp2_with fail
  clear cq0 cq1 cq2 cq3 cp0 cp1 cp2 hlq hlp
  generalize w4.alloc (.cells #[.int .i64 (u : Int), .int .i64 (v : Int), .slice a1 M c1] 26) = w5 at *
  rw [← heqQ] at HA ⊢
  obtain ⟨hsA, kQ, hbA⟩ := unhide HA
  rw [heqQ] at hbA
  have ltQq : B < bQ := by rw [heqQ]; exact blk_lt kq
  have ltQp : B + 1 < bQ := by rw [heqQ]; exact blk_lt kp
  have hgB : B ≤ bQ := by rw [heqQ]; omega
  clear HA
  have hsz := hbA.size
  have kq := blk_below kq hbA (blk_lt kq)
  have kp := blk_below kp hbA (blk_lt kp)
  have HXp := hide ((unhide HXp).below hbA)
  have HX1 := hide ((unhide HX1).below hbA)
  have HSe := hide ((unhide HSe).below hbA)
  have HB := hide ((unhide HB).trans (hbA.mono (by omega)))
  have hs : B + 2 ≤ w5.heap.size := by omega
  clear hbA hsz
  clear heqQ hsA
  refine (unhide HU _).mono ?_
  rintro e w5 ⟨rfl, rfl⟩
  have hlq : B < w5.heap.size := blk_lt kq
  have cq0 : w5.cell? ⟨B, 0, none⟩ = some (.int .u8 (q.r.toNat : Int)) := blk_cell kq 0
  have cq1 : w5.cell? ⟨B, 1, none⟩ = some (.int .u8 (q.g.toNat : Int)) := blk_cell kq 1
  have cq2 : w5.cell? ⟨B, 2, none⟩ = some (.int .u8 (q.b.toNat : Int)) := blk_cell kq 2
  have cq3 : w5.cell? ⟨B, 3, none⟩ = some (.int .u8 (q.a.toNat : Int)) := blk_cell kq 3
  have hlp : B + 1 < w5.heap.size := blk_lt kp
  have cp0 : w5.cell? ⟨B + 1, 0, none⟩ = some (.int .i64 W) := blk_cell kp 0
  have cp1 : w5.cell? ⟨B + 1, 1, none⟩ = some (.int .i64 H) := blk_cell kp 1
  have cp2 : w5.cell? ⟨B + 1, 2, none⟩ = some (.slice a n c) := blk_cell kp 2
  have hlQ : bQ < w5.heap.size := blk_lt kQ
  have cQ0 : w5.cell? ⟨bQ, 0, none⟩ = some (.int .i64 (u : Int)) := blk_cell kQ 0
  have cQ1 : w5.cell? ⟨bQ, 1, none⟩ = some (.int .i64 (v : Int)) := blk_cell kQ 1
  have cQ2 : w5.cell? ⟨bQ, 2, none⟩ = some (.slice a1 M c1) := blk_cell kQ 2
  go_wp2_with fail
  clear cq0 cq1 cq2 cq3 cp0 cp1 cp2 cQ0 cQ1 cQ2 hlq hlp hlQ
  refine (unhide HV _).mono ?_
  rintro e w5 ⟨rfl, rfl⟩
  have hlq : B < w5.heap.size := blk_lt kq
  have cq0 : w5.cell? ⟨B, 0, none⟩ = some (.int .u8 (q.r.toNat : Int)) := blk_cell kq 0
  have cq1 : w5.cell? ⟨B, 1, none⟩ = some (.int .u8 (q.g.toNat : Int)) := blk_cell kq 1
  have cq2 : w5.cell? ⟨B, 2, none⟩ = some (.int .u8 (q.b.toNat : Int)) := blk_cell kq 2
  have cq3 : w5.cell? ⟨B, 3, none⟩ = some (.int .u8 (q.a.toNat : Int)) := blk_cell kq 3
  have hlp : B + 1 < w5.heap.size := blk_lt kp
  have cp0 : w5.cell? ⟨B + 1, 0, none⟩ = some (.int .i64 W) := blk_cell kp 0
  have cp1 : w5.cell? ⟨B + 1, 1, none⟩ = some (.int .i64 H) := blk_cell kp 1
  have cp2 : w5.cell? ⟨B + 1, 2, none⟩ = some (.slice a n c) := blk_cell kp 2
  have hlQ : bQ < w5.heap.size := blk_lt kQ
  have cQ0 : w5.cell? ⟨bQ, 0, none⟩ = some (.int .i64 (u : Int)) := blk_cell kQ 0
  have cQ1 : w5.cell? ⟨bQ, 1, none⟩ = some (.int .i64 (v : Int)) := blk_cell kQ 1
  have cQ2 : w5.cell? ⟨bQ, 2, none⟩ = some (.slice a1 M c1) := blk_cell kQ 2
  go_wp2
  clear cq0 cq1 cq2 cq3 cp0 cp1 cp2 cQ0 cQ1 cQ2 hlq hlp hlQ
  have hlq : B < w5.heap.size := blk_lt kq
  have cq0 : w5.cell? ⟨B, 0, none⟩ = some (.int .u8 (q.r.toNat : Int)) := blk_cell kq 0
  have cq1 : w5.cell? ⟨B, 1, none⟩ = some (.int .u8 (q.g.toNat : Int)) := blk_cell kq 1
  have cq2 : w5.cell? ⟨B, 2, none⟩ = some (.int .u8 (q.b.toNat : Int)) := blk_cell kq 2
  have cq3 : w5.cell? ⟨B, 3, none⟩ = some (.int .u8 (q.a.toNat : Int)) := blk_cell kq 3
  have hlp : B + 1 < w5.heap.size := blk_lt kp
  have cp0 : w5.cell? ⟨B + 1, 0, none⟩ = some (.int .i64 W) := blk_cell kp 0
  have cp1 : w5.cell? ⟨B + 1, 1, none⟩ = some (.int .i64 H) := blk_cell kp 1
  have cp2 : w5.cell? ⟨B + 1, 2, none⟩ = some (.slice a n c) := blk_cell kp 2
  have hlQ : bQ < w5.heap.size := blk_lt kQ
  have cQ0 : w5.cell? ⟨bQ, 0, none⟩ = some (.int .i64 (u : Int)) := blk_cell kQ 0
  have cQ1 : w5.cell? ⟨bQ, 1, none⟩ = some (.int .i64 (v : Int)) := blk_cell kQ 1
  have cQ2 : w5.cell? ⟨bQ, 2, none⟩ = some (.slice a1 M c1) := blk_cell kQ 2
  have hdr := (Below.refl w5.heap.size w5).drew
  go_region_held (fun w' => w'.cell? ⟨bQ, 0, none⟩ = some (.int .i64 (u : Int)) ∧ w'.cell? ⟨bQ, 1, none⟩ = some (.int .i64 (v : Int)) ∧ w'.cell? ⟨bQ, 2, none⟩ = some (.slice a1 M c1) ∧ w'.cell? ⟨B, 0, none⟩ = some (.int .u8 (q.r.toNat : Int)) ∧ w'.cell? ⟨B, 1, none⟩ = some (.int .u8 (q.g.toNat : Int)) ∧ w'.cell? ⟨B, 2, none⟩ = some (.int .u8 (q.b.toNat : Int)) ∧ w'.cell? ⟨B, 3, none⟩ = some (.int .u8 (q.a.toNat : Int))) (first | (go_keep; done) | exact ⟨(hkw6 (bQ) 0 (by omega)).trans cQ0, (hkw6 (bQ) 1 (by omega)).trans cQ1, (hkw6 (bQ) 2 (by omega)).trans cQ2, (hkw6 (B) 0 (by omega)).trans cq0, (hkw6 (B) 1 (by omega)).trans cq1, (hkw6 (B) 2 (by omega)).trans cq2, (hkw6 (B) 3 (by omega)).trans cq3⟩ | exact ⟨(hkw7 (bQ) 0 (by omega)).trans cQ0, (hkw7 (bQ) 1 (by omega)).trans cQ1, (hkw7 (bQ) 2 (by omega)).trans cQ2, (hkw7 (B) 0 (by omega)).trans cq0, (hkw7 (B) 1 (by omega)).trans cq1, (hkw7 (B) 2 (by omega)).trans cq2, (hkw7 (B) 3 (by omega)).trans cq3⟩) (first | (go_at_call 14; refine (unhide HBl w5.drew).mono ?_; rintro e w6 ⟨g, cg, rfl, hg, hpr, hbw6⟩; have hqw6 := hdr.trans (hbw6.mono (by exact Nat.le_refl _)); have hkw6 := fun (k o : Nat) (h : k < w5.heap.size) => hqw6.cell (p := ⟨k, o, none⟩) h) | (go_at_call 13; refine (unhide HTo w6 _ _ _ _ ((unhide HX1).below hqw6) (hpr.isPx hM3)).mono ?_; rintro e w7 ⟨rfl, hbw7⟩; have hqw7 := hqw6.trans (hbw7.mono (by exact hqw6.size)); have hkw7 := fun (k o : Nat) (h : k < w5.heap.size) => hqw7.cell (p := ⟨k, o, none⟩) h))
  clear cq0 cq1 cq2 cq3 cp0 cp1 cp2 cQ0 cQ1 cQ2 hlq hlp hlQ
  have hbN := hqw7
  have hsz := hbN.size
  have kq := blk_below kq hbN (blk_lt kq)
  have kp := blk_below kp hbN (blk_lt kp)
  have kQ := blk_below kQ hbN (blk_lt kQ)
  have HXp := hide ((unhide HXp).below hbN)
  have HX1 := hide ((unhide HX1).below hbN)
  have HSe := hide ((unhide HSe).below hbN)
  have HB := hide ((unhide HB).trans (hbN.mono (by omega)))
  have hs : B + 2 ≤ w7.heap.size := by omega
  clear hbN hsz
  clear hpr hg
  clear HX1
  have hlq : B < w7.heap.size := blk_lt kq
  have cq0 : w7.cell? ⟨B, 0, none⟩ = some (.int .u8 (q.r.toNat : Int)) := blk_cell kq 0
  have cq1 : w7.cell? ⟨B, 1, none⟩ = some (.int .u8 (q.g.toNat : Int)) := blk_cell kq 1
  have cq2 : w7.cell? ⟨B, 2, none⟩ = some (.int .u8 (q.b.toNat : Int)) := blk_cell kq 2
  have cq3 : w7.cell? ⟨B, 3, none⟩ = some (.int .u8 (q.a.toNat : Int)) := blk_cell kq 3
  have hlp : B + 1 < w7.heap.size := blk_lt kp
  have cp0 : w7.cell? ⟨B + 1, 0, none⟩ = some (.int .i64 W) := blk_cell kp 0
  have cp1 : w7.cell? ⟨B + 1, 1, none⟩ = some (.int .i64 H) := blk_cell kp 1
  have cp2 : w7.cell? ⟨B + 1, 2, none⟩ = some (.slice a n c) := blk_cell kp 2
  have hlQ : bQ < w7.heap.size := blk_lt kQ
  have cQ0 : w7.cell? ⟨bQ, 0, none⟩ = some (.int .i64 (u : Int)) := blk_cell kQ 0
  have cQ1 : w7.cell? ⟨bQ, 1, none⟩ = some (.int .i64 (v : Int)) := blk_cell kQ 1
  have cQ2 : w7.cell? ⟨bQ, 2, none⟩ = some (.slice a1 M c1) := blk_cell kQ 2
  go_wp2_with fail
  clear cq0 cq1 cq2 cq3 cp0 cp1 cp2 cQ0 cQ1 cQ2 hlq hlp hlQ
  refine (unhide HO w7 (unhide HXp)).mono ?_
  rintro e w8 ⟨a5, c5, rfl, hpx, hbN⟩
  have hsz := hbN.size
  have kq := blk_below kq hbN (blk_lt kq)
  have kp := blk_below kp hbN (blk_lt kp)
  have kQ := blk_below kQ hbN (blk_lt kQ)
  have HXp := hide ((unhide HXp).below hbN)
  have HSe := hide ((unhide HSe).below hbN)
  have HB := hide ((unhide HB).trans (hbN.mono (by omega)))
  have hs : B + 2 ≤ w8.heap.size := by omega
  clear hbN hsz
  have HX5 := hide hpx
  clear hpx
  have hlq : B < w8.heap.size := blk_lt kq
  have cq0 : w8.cell? ⟨B, 0, none⟩ = some (.int .u8 (q.r.toNat : Int)) := blk_cell kq 0
  have cq1 : w8.cell? ⟨B, 1, none⟩ = some (.int .u8 (q.g.toNat : Int)) := blk_cell kq 1
  have cq2 : w8.cell? ⟨B, 2, none⟩ = some (.int .u8 (q.b.toNat : Int)) := blk_cell kq 2
  have cq3 : w8.cell? ⟨B, 3, none⟩ = some (.int .u8 (q.a.toNat : Int)) := blk_cell kq 3
  have hlp : B + 1 < w8.heap.size := blk_lt kp
  have cp0 : w8.cell? ⟨B + 1, 0, none⟩ = some (.int .i64 W) := blk_cell kp 0
  have cp1 : w8.cell? ⟨B + 1, 1, none⟩ = some (.int .i64 H) := blk_cell kp 1
  have cp2 : w8.cell? ⟨B + 1, 2, none⟩ = some (.slice a n c) := blk_cell kp 2
  have hlQ : bQ < w8.heap.size := blk_lt kQ
  have cQ0 : w8.cell? ⟨bQ, 0, none⟩ = some (.int .i64 (u : Int)) := blk_cell kQ 0
  have cQ1 : w8.cell? ⟨bQ, 1, none⟩ = some (.int .i64 (v : Int)) := blk_cell kQ 1
  have cQ2 : w8.cell? ⟨bQ, 2, none⟩ = some (.slice a1 M c1) := blk_cell kQ 2
  go_wp2_with fail
  clear cq0 cq1 cq2 cq3 cp0 cp1 cp2 cQ0 cQ1 cQ2 hlq hlp hlQ
  refine (unhide HAt w8 _ _ (unhide HSe)).mono ?_
  rintro e w9 ⟨rfl, hbN⟩
  have hsz := hbN.size
  have kq := blk_below kq hbN (blk_lt kq)
  have kp := blk_below kp hbN (blk_lt kp)
  have kQ := blk_below kQ hbN (blk_lt kQ)
  have HXp := hide ((unhide HXp).below hbN)
  have HX5 := hide ((unhide HX5).below hbN)
  have HSe := hide ((unhide HSe).below hbN)
  have HB := hide ((unhide HB).trans (hbN.mono (by omega)))
  have hs : B + 2 ≤ w9.heap.size := by omega
  clear hbN hsz
  have hlq : B < w9.heap.size := blk_lt kq
  have cq0 : w9.cell? ⟨B, 0, none⟩ = some (.int .u8 (q.r.toNat : Int)) := blk_cell kq 0
  have cq1 : w9.cell? ⟨B, 1, none⟩ = some (.int .u8 (q.g.toNat : Int)) := blk_cell kq 1
  have cq2 : w9.cell? ⟨B, 2, none⟩ = some (.int .u8 (q.b.toNat : Int)) := blk_cell kq 2
  have cq3 : w9.cell? ⟨B, 3, none⟩ = some (.int .u8 (q.a.toNat : Int)) := blk_cell kq 3
  have hlp : B + 1 < w9.heap.size := blk_lt kp
  have cp0 : w9.cell? ⟨B + 1, 0, none⟩ = some (.int .i64 W) := blk_cell kp 0
  have cp1 : w9.cell? ⟨B + 1, 1, none⟩ = some (.int .i64 H) := blk_cell kp 1
  have cp2 : w9.cell? ⟨B + 1, 2, none⟩ = some (.slice a n c) := blk_cell kp 2
  have hlQ : bQ < w9.heap.size := blk_lt kQ
  have cQ0 : w9.cell? ⟨bQ, 0, none⟩ = some (.int .i64 (u : Int)) := blk_cell kQ 0
  have cQ1 : w9.cell? ⟨bQ, 1, none⟩ = some (.int .i64 (v : Int)) := blk_cell kQ 1
  have cQ2 : w9.cell? ⟨bQ, 2, none⟩ = some (.slice a1 M c1) := blk_cell kQ 2
  have HA := hide (al1 w9 (.cells #[.int .u8 0, .int .u8 0, .int .u8 0, .int .u8 0] 23))
  obtain ⟨bZ, heqZ⟩ : ∃ b, b = w9.heap.size := ⟨_, rfl⟩
  go_wp2_with fail
  clear cq0 cq1 cq2 cq3 cp0 cp1 cp2 cQ0 cQ1 cQ2 hlq hlp hlQ
  generalize w9.alloc (.cells #[.int .u8 0, .int .u8 0, .int .u8 0, .int .u8 0] 23) = w10 at *
  rw [← heqZ] at HA ⊢
  obtain ⟨hsA, kZ, hbA⟩ := unhide HA
  rw [heqZ] at hbA
  have ltZq : B < bZ := by rw [heqZ]; exact blk_lt kq
  have ltZp : B + 1 < bZ := by rw [heqZ]; exact blk_lt kp
  have ltZQ : bQ < bZ := by rw [heqZ]; exact blk_lt kQ
  have hgB : B ≤ bZ := by rw [heqZ]; omega
  clear HA
  have hsz := hbA.size
  have kq := blk_below kq hbA (blk_lt kq)
  have kp := blk_below kp hbA (blk_lt kp)
  have kQ := blk_below kQ hbA (blk_lt kQ)
  have HXp := hide ((unhide HXp).below hbA)
  have HX5 := hide ((unhide HX5).below hbA)
  have HSe := hide ((unhide HSe).below hbA)
  have HB := hide ((unhide HB).trans (hbA.mono (by omega)))
  have hs : B + 2 ≤ w10.heap.size := by omega
  clear hbA hsz
  clear heqZ hsA
  refine (unhide HIN _).mono ?_
  rintro e w11 ⟨rfl, hbN⟩
  have hsz := hbN.size
  have kq := blk_below kq hbN (blk_lt kq)
  have kp := blk_below kp hbN (blk_lt kp)
  have kQ := blk_below kQ hbN (blk_lt kQ)
  have kZ := blk_below kZ hbN (blk_lt kZ)
  have HXp := hide ((unhide HXp).below hbN)
  have HX5 := hide ((unhide HX5).below hbN)
  have HSe := hide ((unhide HSe).below hbN)
  have HB := hide ((unhide HB).trans (hbN.mono (by omega)))
  have hs : B + 2 ≤ w11.heap.size := by omega
  clear hbN hsz
  have hlq : B < w11.heap.size := blk_lt kq
  have cq0 : w11.cell? ⟨B, 0, none⟩ = some (.int .u8 (q.r.toNat : Int)) := blk_cell kq 0
  have cq1 : w11.cell? ⟨B, 1, none⟩ = some (.int .u8 (q.g.toNat : Int)) := blk_cell kq 1
  have cq2 : w11.cell? ⟨B, 2, none⟩ = some (.int .u8 (q.b.toNat : Int)) := blk_cell kq 2
  have cq3 : w11.cell? ⟨B, 3, none⟩ = some (.int .u8 (q.a.toNat : Int)) := blk_cell kq 3
  have hlp : B + 1 < w11.heap.size := blk_lt kp
  have cp0 : w11.cell? ⟨B + 1, 0, none⟩ = some (.int .i64 W) := blk_cell kp 0
  have cp1 : w11.cell? ⟨B + 1, 1, none⟩ = some (.int .i64 H) := blk_cell kp 1
  have cp2 : w11.cell? ⟨B + 1, 2, none⟩ = some (.slice a n c) := blk_cell kp 2
  have hlQ : bQ < w11.heap.size := blk_lt kQ
  have cQ0 : w11.cell? ⟨bQ, 0, none⟩ = some (.int .i64 (u : Int)) := blk_cell kQ 0
  have cQ1 : w11.cell? ⟨bQ, 1, none⟩ = some (.int .i64 (v : Int)) := blk_cell kQ 1
  have cQ2 : w11.cell? ⟨bQ, 2, none⟩ = some (.slice a1 M c1) := blk_cell kQ 2
  have hlZ : bZ < w11.heap.size := blk_lt kZ
  have cZ0 : w11.cell? ⟨bZ, 0, none⟩ = some (.int .u8 0) := blk_cell kZ 0
  have cZ1 : w11.cell? ⟨bZ, 1, none⟩ = some (.int .u8 0) := blk_cell kZ 1
  have cZ2 : w11.cell? ⟨bZ, 2, none⟩ = some (.int .u8 0) := blk_cell kZ 2
  have cZ3 : w11.cell? ⟨bZ, 3, none⟩ = some (.int .u8 0) := blk_cell kZ 3
  go_wp2_with fail
  clear cq0 cq1 cq2 cq3 cp0 cp1 cp2 cQ0 cQ1 cQ2 cZ0 cZ1 cZ2 cZ3 hlq hlp hlQ hlZ
  refine (unhide HRT _).mono ?_
  rintro e w12 ⟨rfl, hbN⟩
  have hsz := hbN.size
  have kq := blk_below kq hbN (blk_lt kq)
  have kp := blk_below kp hbN (blk_lt kp)
  have kQ := blk_below kQ hbN (blk_lt kQ)
  have kZ := blk_below kZ hbN (blk_lt kZ)
  have HXp := hide ((unhide HXp).below hbN)
  have HX5 := hide ((unhide HX5).below hbN)
  have HSe := hide ((unhide HSe).below hbN)
  have HB := hide ((unhide HB).trans (hbN.mono (by omega)))
  have hs : B + 2 ≤ w12.heap.size := by omega
  clear hbN hsz
  have hlq : B < w12.heap.size := blk_lt kq
  have cq0 : w12.cell? ⟨B, 0, none⟩ = some (.int .u8 (q.r.toNat : Int)) := blk_cell kq 0
  have cq1 : w12.cell? ⟨B, 1, none⟩ = some (.int .u8 (q.g.toNat : Int)) := blk_cell kq 1
  have cq2 : w12.cell? ⟨B, 2, none⟩ = some (.int .u8 (q.b.toNat : Int)) := blk_cell kq 2
  have cq3 : w12.cell? ⟨B, 3, none⟩ = some (.int .u8 (q.a.toNat : Int)) := blk_cell kq 3
  have hlp : B + 1 < w12.heap.size := blk_lt kp
  have cp0 : w12.cell? ⟨B + 1, 0, none⟩ = some (.int .i64 W) := blk_cell kp 0
  have cp1 : w12.cell? ⟨B + 1, 1, none⟩ = some (.int .i64 H) := blk_cell kp 1
  have cp2 : w12.cell? ⟨B + 1, 2, none⟩ = some (.slice a n c) := blk_cell kp 2
  have hlQ : bQ < w12.heap.size := blk_lt kQ
  have cQ0 : w12.cell? ⟨bQ, 0, none⟩ = some (.int .i64 (u : Int)) := blk_cell kQ 0
  have cQ1 : w12.cell? ⟨bQ, 1, none⟩ = some (.int .i64 (v : Int)) := blk_cell kQ 1
  have cQ2 : w12.cell? ⟨bQ, 2, none⟩ = some (.slice a1 M c1) := blk_cell kQ 2
  have hlZ : bZ < w12.heap.size := blk_lt kZ
  have cZ0 : w12.cell? ⟨bZ, 0, none⟩ = some (.int .u8 0) := blk_cell kZ 0
  have cZ1 : w12.cell? ⟨bZ, 1, none⟩ = some (.int .u8 0) := blk_cell kZ 1
  have cZ2 : w12.cell? ⟨bZ, 2, none⟩ = some (.int .u8 0) := blk_cell kZ 2
  have cZ3 : w12.cell? ⟨bZ, 3, none⟩ = some (.int .u8 0) := blk_cell kZ 3
  go_wp2_with fail
  clear cq0 cq1 cq2 cq3 cp0 cp1 cp2 cQ0 cQ1 cQ2 cZ0 cZ1 cZ2 cZ3 hlq hlp hlQ hlZ
  refine (unhide HCo w12 (unhide HSe)).mono ?_
  rintro e w13 ⟨rfl, hbN⟩
  have hsz := hbN.size
  have kq := blk_below kq hbN (blk_lt kq)
  have kp := blk_below kp hbN (blk_lt kp)
  have kQ := blk_below kQ hbN (blk_lt kQ)
  have kZ := blk_below kZ hbN (blk_lt kZ)
  have HXp := hide ((unhide HXp).below hbN)
  have HX5 := hide ((unhide HX5).below hbN)
  have HSe := hide ((unhide HSe).below hbN)
  have HB := hide ((unhide HB).trans (hbN.mono (by omega)))
  have hs : B + 2 ≤ w13.heap.size := by omega
  clear hbN hsz
  have hlq : B < w13.heap.size := blk_lt kq
  have cq0 : w13.cell? ⟨B, 0, none⟩ = some (.int .u8 (q.r.toNat : Int)) := blk_cell kq 0
  have cq1 : w13.cell? ⟨B, 1, none⟩ = some (.int .u8 (q.g.toNat : Int)) := blk_cell kq 1
  have cq2 : w13.cell? ⟨B, 2, none⟩ = some (.int .u8 (q.b.toNat : Int)) := blk_cell kq 2
  have cq3 : w13.cell? ⟨B, 3, none⟩ = some (.int .u8 (q.a.toNat : Int)) := blk_cell kq 3
  have hlp : B + 1 < w13.heap.size := blk_lt kp
  have cp0 : w13.cell? ⟨B + 1, 0, none⟩ = some (.int .i64 W) := blk_cell kp 0
  have cp1 : w13.cell? ⟨B + 1, 1, none⟩ = some (.int .i64 H) := blk_cell kp 1
  have cp2 : w13.cell? ⟨B + 1, 2, none⟩ = some (.slice a n c) := blk_cell kp 2
  have hlQ : bQ < w13.heap.size := blk_lt kQ
  have cQ0 : w13.cell? ⟨bQ, 0, none⟩ = some (.int .i64 (u : Int)) := blk_cell kQ 0
  have cQ1 : w13.cell? ⟨bQ, 1, none⟩ = some (.int .i64 (v : Int)) := blk_cell kQ 1
  have cQ2 : w13.cell? ⟨bQ, 2, none⟩ = some (.slice a1 M c1) := blk_cell kQ 2
  have hlZ : bZ < w13.heap.size := blk_lt kZ
  have cZ0 : w13.cell? ⟨bZ, 0, none⟩ = some (.int .u8 0) := blk_cell kZ 0
  have cZ1 : w13.cell? ⟨bZ, 1, none⟩ = some (.int .u8 0) := blk_cell kZ 1
  have cZ2 : w13.cell? ⟨bZ, 2, none⟩ = some (.int .u8 0) := blk_cell kZ 2
  have cZ3 : w13.cell? ⟨bZ, 3, none⟩ = some (.int .u8 0) := blk_cell kZ 3
  go_wp2
  clear cq0 cq1 cq2 cq3 cp0 cp1 cp2 cQ0 cQ1 cQ2 cZ0 cZ1 cZ2 cZ3 hlq hlp hlQ hlZ
  go_ret
  exact ⟨rfl, by rw [← unhide HBE]; exact unhide HB⟩
set_option maxHeartbeats 4000000 in
set_option maxRecDepth 100000 in
theorem rasterNew_ok_shapeout (u v : Nat) (q : Px) (W H : Int) (a : Option Addr) (n c : Nat) (p : Nat → Px) (x y : Int) (w : World) (A : Nat → Addr) (hS : Sent w A) (hP : IsPx w a n p) (hn3 : n ≤ 3000) (hu0 : 1 ≤ u) (hu : u ≤ 256) (hv0 : 1 ≤ v) (hv : v ≤ 256) (hR : ¬ RightP W H n) (hin : ¬ (0 ≤ x ∧ 0 ≤ y ∧ x < W ∧ y < H)) :
    Calls Tryd.prog 3 #[.int .i64 (u : Int), .int .i64 (v : Int), q.val, .agg #[.int .i64 W, .int .i64 H, .slice a n c], .int .i64 x, .int .i64 y] w fun e w' => e = .returned (.bool true) ∧ Below w.heap.size w w' := by
  have HPL := hide plainly_any
  have HSM := hide (fun w => small_any W H a n c w)
  rw [decide_eq_true hn3] at HSM
  have HU := hide (fun w => side_any (u : Int) w)
  have HV := hide (fun w => side_any (v : Int) w)
  have HRT := hide (fun w => pright_any W H a n c w)
  have HIN := hide (fun w => inP_any W H x y a n c w)
  have HO := hide (fun w (h : IsPx w a n p) => own_isPx W H a n c p w h (by omega))
  have HX := hide hP
  have HS0 := hide hS
  rw [decide_eq_true (show (1 : Int) ≤ u ∧ (u : Int) ≤ 256 by omega)] at HU
  rw [decide_eq_true (show (1 : Int) ≤ v ∧ (v : Int) ≤ 256 by omega)] at HV
  have HN := hide (fun w => new_ok u v q w hu0 hu hv0 hv)
  have HBl := hide (fun w => blankP_any u v q w hu hv)
  have hM3 : u * v ≤ 100000 := Nat.le_trans (Nat.mul_le_mul hu hv) (by omega)
  have HTo := hide (fun w a b c d (h1 : IsPx w a (u * v) (grid u fun _ _ => q)) (h2 : IsPx w b (u * v) (fun _ => q)) => told_ok u v a b (u * v) c d (fun _ => q) w h1 h2 hM3)
  rw [decide_eq_false hR] at HRT
  rw [decide_eq_false hin] at HIN
  have HAt := hide (fun w a c (h : Sent w A) => rAt_shape W H a n c x y w _ _ (h.cell 2 (by omega)) hR)
  have HCo := hide (fun w (h : Sent w A) => coded2_sent 2 3 w A h (by omega) rfl)
  clear hn3 hP hS hu0 hu hv0 hv hR hin
  unfold Px.val at *
  obtain ⟨M, hM⟩ : ∃ M, M = u * v := ⟨_, rfl⟩
  rw [← hM] at HN HBl HTo hM3
  clear hM
  have HA := hide (al2 w (.cells #[.int .u8 (q.r.toNat : Int), .int .u8 (q.g.toNat : Int), .int .u8 (q.b.toNat : Int), .int .u8 (q.a.toNat : Int)] 23) (.cells #[.int .i64 W, .int .i64 H, .slice a n c] 26))
  obtain ⟨B, hB⟩ : ∃ B, B = w.heap.size := ⟨_, rfl⟩
  go_enter Tryd.func3, Tryd.ntmps3
  go_wp2_with fail
  generalize ((w.alloc (.cells #[.int .u8 (q.r.toNat : Int), .int .u8 (q.g.toNat : Int), .int .u8 (q.b.toNat : Int), .int .u8 (q.a.toNat : Int)] 23)).alloc (.cells #[.int .i64 W, .int .i64 H, .slice a n c] 26)) = w1 at *
  rw [← hB] at HA ⊢
  obtain ⟨hs1, kq, kp, hb1⟩ := unhide HA
  have HBE := hide hB
  clear HA hB
  have hs : B + 2 ≤ w1.heap.size := by omega
  have HB := hide hb1
  clear hs1 hb1
  have HXp := hide ((unhide HX).under (unhide HB) (fun x hx h0 => by rw [unhide HBE]; exact (unhide HX).lt x hx h0))
  have HSe := hide ((unhide HS0).below (by rw [← unhide HBE]; exact unhide HB))
  clear HX HS0
  refine (unhide HPL _).mono ?_
  rintro e w2 ⟨rfl, hbN⟩
  have hsz := hbN.size
  have kq := blk_below kq hbN (blk_lt kq)
  have kp := blk_below kp hbN (blk_lt kp)
  have HXp := hide ((unhide HXp).below hbN)
  have HSe := hide ((unhide HSe).below hbN)
  have HB := hide ((unhide HB).trans (hbN.mono (by omega)))
  have hs : B + 2 ≤ w2.heap.size := by omega
  clear hbN hsz
  have hlq : B < w2.heap.size := blk_lt kq
  have cq0 : w2.cell? ⟨B, 0, none⟩ = some (.int .u8 (q.r.toNat : Int)) := blk_cell kq 0
  have cq1 : w2.cell? ⟨B, 1, none⟩ = some (.int .u8 (q.g.toNat : Int)) := blk_cell kq 1
  have cq2 : w2.cell? ⟨B, 2, none⟩ = some (.int .u8 (q.b.toNat : Int)) := blk_cell kq 2
  have cq3 : w2.cell? ⟨B, 3, none⟩ = some (.int .u8 (q.a.toNat : Int)) := blk_cell kq 3
  have hlp : B + 1 < w2.heap.size := blk_lt kp
  have cp0 : w2.cell? ⟨B + 1, 0, none⟩ = some (.int .i64 W) := blk_cell kp 0
  have cp1 : w2.cell? ⟨B + 1, 1, none⟩ = some (.int .i64 H) := blk_cell kp 1
  have cp2 : w2.cell? ⟨B + 1, 2, none⟩ = some (.slice a n c) := blk_cell kp 2
  go_wp2_with fail
  clear cq0 cq1 cq2 cq3 cp0 cp1 cp2 hlq hlp
  refine (unhide HSM _).mono ?_
  rintro e w3 ⟨rfl, hbN⟩
  have hsz := hbN.size
  have kq := blk_below kq hbN (blk_lt kq)
  have kp := blk_below kp hbN (blk_lt kp)
  have HXp := hide ((unhide HXp).below hbN)
  have HSe := hide ((unhide HSe).below hbN)
  have HB := hide ((unhide HB).trans (hbN.mono (by omega)))
  have hs : B + 2 ≤ w3.heap.size := by omega
  clear hbN hsz
  have hlq : B < w3.heap.size := blk_lt kq
  have cq0 : w3.cell? ⟨B, 0, none⟩ = some (.int .u8 (q.r.toNat : Int)) := blk_cell kq 0
  have cq1 : w3.cell? ⟨B, 1, none⟩ = some (.int .u8 (q.g.toNat : Int)) := blk_cell kq 1
  have cq2 : w3.cell? ⟨B, 2, none⟩ = some (.int .u8 (q.b.toNat : Int)) := blk_cell kq 2
  have cq3 : w3.cell? ⟨B, 3, none⟩ = some (.int .u8 (q.a.toNat : Int)) := blk_cell kq 3
  have hlp : B + 1 < w3.heap.size := blk_lt kp
  have cp0 : w3.cell? ⟨B + 1, 0, none⟩ = some (.int .i64 W) := blk_cell kp 0
  have cp1 : w3.cell? ⟨B + 1, 1, none⟩ = some (.int .i64 H) := blk_cell kp 1
  have cp2 : w3.cell? ⟨B + 1, 2, none⟩ = some (.slice a n c) := blk_cell kp 2
  go_wp2_with fail
  clear cq0 cq1 cq2 cq3 cp0 cp1 cp2 hlq hlp
  refine (unhide HN w3).mono ?_
  rintro e w4 ⟨a1, c1, rfl, hpx, hbN⟩
  have hsz := hbN.size
  have kq := blk_below kq hbN (blk_lt kq)
  have kp := blk_below kp hbN (blk_lt kp)
  have HXp := hide ((unhide HXp).below hbN)
  have HSe := hide ((unhide HSe).below hbN)
  have HB := hide ((unhide HB).trans (hbN.mono (by omega)))
  have hs : B + 2 ≤ w4.heap.size := by omega
  clear hbN hsz
  have HX1 := hide hpx
  clear hpx
  have hlq : B < w4.heap.size := blk_lt kq
  have cq0 : w4.cell? ⟨B, 0, none⟩ = some (.int .u8 (q.r.toNat : Int)) := blk_cell kq 0
  have cq1 : w4.cell? ⟨B, 1, none⟩ = some (.int .u8 (q.g.toNat : Int)) := blk_cell kq 1
  have cq2 : w4.cell? ⟨B, 2, none⟩ = some (.int .u8 (q.b.toNat : Int)) := blk_cell kq 2
  have cq3 : w4.cell? ⟨B, 3, none⟩ = some (.int .u8 (q.a.toNat : Int)) := blk_cell kq 3
  have hlp : B + 1 < w4.heap.size := blk_lt kp
  have cp0 : w4.cell? ⟨B + 1, 0, none⟩ = some (.int .i64 W) := blk_cell kp 0
  have cp1 : w4.cell? ⟨B + 1, 1, none⟩ = some (.int .i64 H) := blk_cell kp 1
  have cp2 : w4.cell? ⟨B + 1, 2, none⟩ = some (.slice a n c) := blk_cell kp 2
  have HA := hide (al1 w4 (.cells #[.int .i64 (u : Int), .int .i64 (v : Int), .slice a1 M c1] 26))
  obtain ⟨bQ, heqQ⟩ : ∃ b, b = w4.heap.size := ⟨_, rfl⟩
  go_wp2_with fail
  clear cq0 cq1 cq2 cq3 cp0 cp1 cp2 hlq hlp
  generalize w4.alloc (.cells #[.int .i64 (u : Int), .int .i64 (v : Int), .slice a1 M c1] 26) = w5 at *
  rw [← heqQ] at HA ⊢
  obtain ⟨hsA, kQ, hbA⟩ := unhide HA
  rw [heqQ] at hbA
  have ltQq : B < bQ := by rw [heqQ]; exact blk_lt kq
  have ltQp : B + 1 < bQ := by rw [heqQ]; exact blk_lt kp
  have hgB : B ≤ bQ := by rw [heqQ]; omega
  clear HA
  have hsz := hbA.size
  have kq := blk_below kq hbA (blk_lt kq)
  have kp := blk_below kp hbA (blk_lt kp)
  have HXp := hide ((unhide HXp).below hbA)
  have HX1 := hide ((unhide HX1).below hbA)
  have HSe := hide ((unhide HSe).below hbA)
  have HB := hide ((unhide HB).trans (hbA.mono (by omega)))
  have hs : B + 2 ≤ w5.heap.size := by omega
  clear hbA hsz
  clear heqQ hsA
  refine (unhide HU _).mono ?_
  rintro e w5 ⟨rfl, rfl⟩
  have hlq : B < w5.heap.size := blk_lt kq
  have cq0 : w5.cell? ⟨B, 0, none⟩ = some (.int .u8 (q.r.toNat : Int)) := blk_cell kq 0
  have cq1 : w5.cell? ⟨B, 1, none⟩ = some (.int .u8 (q.g.toNat : Int)) := blk_cell kq 1
  have cq2 : w5.cell? ⟨B, 2, none⟩ = some (.int .u8 (q.b.toNat : Int)) := blk_cell kq 2
  have cq3 : w5.cell? ⟨B, 3, none⟩ = some (.int .u8 (q.a.toNat : Int)) := blk_cell kq 3
  have hlp : B + 1 < w5.heap.size := blk_lt kp
  have cp0 : w5.cell? ⟨B + 1, 0, none⟩ = some (.int .i64 W) := blk_cell kp 0
  have cp1 : w5.cell? ⟨B + 1, 1, none⟩ = some (.int .i64 H) := blk_cell kp 1
  have cp2 : w5.cell? ⟨B + 1, 2, none⟩ = some (.slice a n c) := blk_cell kp 2
  have hlQ : bQ < w5.heap.size := blk_lt kQ
  have cQ0 : w5.cell? ⟨bQ, 0, none⟩ = some (.int .i64 (u : Int)) := blk_cell kQ 0
  have cQ1 : w5.cell? ⟨bQ, 1, none⟩ = some (.int .i64 (v : Int)) := blk_cell kQ 1
  have cQ2 : w5.cell? ⟨bQ, 2, none⟩ = some (.slice a1 M c1) := blk_cell kQ 2
  go_wp2_with fail
  clear cq0 cq1 cq2 cq3 cp0 cp1 cp2 cQ0 cQ1 cQ2 hlq hlp hlQ
  refine (unhide HV _).mono ?_
  rintro e w5 ⟨rfl, rfl⟩
  have hlq : B < w5.heap.size := blk_lt kq
  have cq0 : w5.cell? ⟨B, 0, none⟩ = some (.int .u8 (q.r.toNat : Int)) := blk_cell kq 0
  have cq1 : w5.cell? ⟨B, 1, none⟩ = some (.int .u8 (q.g.toNat : Int)) := blk_cell kq 1
  have cq2 : w5.cell? ⟨B, 2, none⟩ = some (.int .u8 (q.b.toNat : Int)) := blk_cell kq 2
  have cq3 : w5.cell? ⟨B, 3, none⟩ = some (.int .u8 (q.a.toNat : Int)) := blk_cell kq 3
  have hlp : B + 1 < w5.heap.size := blk_lt kp
  have cp0 : w5.cell? ⟨B + 1, 0, none⟩ = some (.int .i64 W) := blk_cell kp 0
  have cp1 : w5.cell? ⟨B + 1, 1, none⟩ = some (.int .i64 H) := blk_cell kp 1
  have cp2 : w5.cell? ⟨B + 1, 2, none⟩ = some (.slice a n c) := blk_cell kp 2
  have hlQ : bQ < w5.heap.size := blk_lt kQ
  have cQ0 : w5.cell? ⟨bQ, 0, none⟩ = some (.int .i64 (u : Int)) := blk_cell kQ 0
  have cQ1 : w5.cell? ⟨bQ, 1, none⟩ = some (.int .i64 (v : Int)) := blk_cell kQ 1
  have cQ2 : w5.cell? ⟨bQ, 2, none⟩ = some (.slice a1 M c1) := blk_cell kQ 2
  go_wp2
  clear cq0 cq1 cq2 cq3 cp0 cp1 cp2 cQ0 cQ1 cQ2 hlq hlp hlQ
  have hlq : B < w5.heap.size := blk_lt kq
  have cq0 : w5.cell? ⟨B, 0, none⟩ = some (.int .u8 (q.r.toNat : Int)) := blk_cell kq 0
  have cq1 : w5.cell? ⟨B, 1, none⟩ = some (.int .u8 (q.g.toNat : Int)) := blk_cell kq 1
  have cq2 : w5.cell? ⟨B, 2, none⟩ = some (.int .u8 (q.b.toNat : Int)) := blk_cell kq 2
  have cq3 : w5.cell? ⟨B, 3, none⟩ = some (.int .u8 (q.a.toNat : Int)) := blk_cell kq 3
  have hlp : B + 1 < w5.heap.size := blk_lt kp
  have cp0 : w5.cell? ⟨B + 1, 0, none⟩ = some (.int .i64 W) := blk_cell kp 0
  have cp1 : w5.cell? ⟨B + 1, 1, none⟩ = some (.int .i64 H) := blk_cell kp 1
  have cp2 : w5.cell? ⟨B + 1, 2, none⟩ = some (.slice a n c) := blk_cell kp 2
  have hlQ : bQ < w5.heap.size := blk_lt kQ
  have cQ0 : w5.cell? ⟨bQ, 0, none⟩ = some (.int .i64 (u : Int)) := blk_cell kQ 0
  have cQ1 : w5.cell? ⟨bQ, 1, none⟩ = some (.int .i64 (v : Int)) := blk_cell kQ 1
  have cQ2 : w5.cell? ⟨bQ, 2, none⟩ = some (.slice a1 M c1) := blk_cell kQ 2
  have hdr := (Below.refl w5.heap.size w5).drew
  go_region_held (fun w' => w'.cell? ⟨bQ, 0, none⟩ = some (.int .i64 (u : Int)) ∧ w'.cell? ⟨bQ, 1, none⟩ = some (.int .i64 (v : Int)) ∧ w'.cell? ⟨bQ, 2, none⟩ = some (.slice a1 M c1) ∧ w'.cell? ⟨B, 0, none⟩ = some (.int .u8 (q.r.toNat : Int)) ∧ w'.cell? ⟨B, 1, none⟩ = some (.int .u8 (q.g.toNat : Int)) ∧ w'.cell? ⟨B, 2, none⟩ = some (.int .u8 (q.b.toNat : Int)) ∧ w'.cell? ⟨B, 3, none⟩ = some (.int .u8 (q.a.toNat : Int))) (first | (go_keep; done) | exact ⟨(hkw6 (bQ) 0 (by omega)).trans cQ0, (hkw6 (bQ) 1 (by omega)).trans cQ1, (hkw6 (bQ) 2 (by omega)).trans cQ2, (hkw6 (B) 0 (by omega)).trans cq0, (hkw6 (B) 1 (by omega)).trans cq1, (hkw6 (B) 2 (by omega)).trans cq2, (hkw6 (B) 3 (by omega)).trans cq3⟩ | exact ⟨(hkw7 (bQ) 0 (by omega)).trans cQ0, (hkw7 (bQ) 1 (by omega)).trans cQ1, (hkw7 (bQ) 2 (by omega)).trans cQ2, (hkw7 (B) 0 (by omega)).trans cq0, (hkw7 (B) 1 (by omega)).trans cq1, (hkw7 (B) 2 (by omega)).trans cq2, (hkw7 (B) 3 (by omega)).trans cq3⟩) (first | (go_at_call 14; refine (unhide HBl w5.drew).mono ?_; rintro e w6 ⟨g, cg, rfl, hg, hpr, hbw6⟩; have hqw6 := hdr.trans (hbw6.mono (by exact Nat.le_refl _)); have hkw6 := fun (k o : Nat) (h : k < w5.heap.size) => hqw6.cell (p := ⟨k, o, none⟩) h) | (go_at_call 13; refine (unhide HTo w6 _ _ _ _ ((unhide HX1).below hqw6) (hpr.isPx hM3)).mono ?_; rintro e w7 ⟨rfl, hbw7⟩; have hqw7 := hqw6.trans (hbw7.mono (by exact hqw6.size)); have hkw7 := fun (k o : Nat) (h : k < w5.heap.size) => hqw7.cell (p := ⟨k, o, none⟩) h))
  clear cq0 cq1 cq2 cq3 cp0 cp1 cp2 cQ0 cQ1 cQ2 hlq hlp hlQ
  have hbN := hqw7
  have hsz := hbN.size
  have kq := blk_below kq hbN (blk_lt kq)
  have kp := blk_below kp hbN (blk_lt kp)
  have kQ := blk_below kQ hbN (blk_lt kQ)
  have HXp := hide ((unhide HXp).below hbN)
  have HX1 := hide ((unhide HX1).below hbN)
  have HSe := hide ((unhide HSe).below hbN)
  have HB := hide ((unhide HB).trans (hbN.mono (by omega)))
  have hs : B + 2 ≤ w7.heap.size := by omega
  clear hbN hsz
  clear hpr hg
  clear HX1
  have hlq : B < w7.heap.size := blk_lt kq
  have cq0 : w7.cell? ⟨B, 0, none⟩ = some (.int .u8 (q.r.toNat : Int)) := blk_cell kq 0
  have cq1 : w7.cell? ⟨B, 1, none⟩ = some (.int .u8 (q.g.toNat : Int)) := blk_cell kq 1
  have cq2 : w7.cell? ⟨B, 2, none⟩ = some (.int .u8 (q.b.toNat : Int)) := blk_cell kq 2
  have cq3 : w7.cell? ⟨B, 3, none⟩ = some (.int .u8 (q.a.toNat : Int)) := blk_cell kq 3
  have hlp : B + 1 < w7.heap.size := blk_lt kp
  have cp0 : w7.cell? ⟨B + 1, 0, none⟩ = some (.int .i64 W) := blk_cell kp 0
  have cp1 : w7.cell? ⟨B + 1, 1, none⟩ = some (.int .i64 H) := blk_cell kp 1
  have cp2 : w7.cell? ⟨B + 1, 2, none⟩ = some (.slice a n c) := blk_cell kp 2
  have hlQ : bQ < w7.heap.size := blk_lt kQ
  have cQ0 : w7.cell? ⟨bQ, 0, none⟩ = some (.int .i64 (u : Int)) := blk_cell kQ 0
  have cQ1 : w7.cell? ⟨bQ, 1, none⟩ = some (.int .i64 (v : Int)) := blk_cell kQ 1
  have cQ2 : w7.cell? ⟨bQ, 2, none⟩ = some (.slice a1 M c1) := blk_cell kQ 2
  go_wp2_with fail
  clear cq0 cq1 cq2 cq3 cp0 cp1 cp2 cQ0 cQ1 cQ2 hlq hlp hlQ
  refine (unhide HO w7 (unhide HXp)).mono ?_
  rintro e w8 ⟨a5, c5, rfl, hpx, hbN⟩
  have hsz := hbN.size
  have kq := blk_below kq hbN (blk_lt kq)
  have kp := blk_below kp hbN (blk_lt kp)
  have kQ := blk_below kQ hbN (blk_lt kQ)
  have HXp := hide ((unhide HXp).below hbN)
  have HSe := hide ((unhide HSe).below hbN)
  have HB := hide ((unhide HB).trans (hbN.mono (by omega)))
  have hs : B + 2 ≤ w8.heap.size := by omega
  clear hbN hsz
  have HX5 := hide hpx
  clear hpx
  have hlq : B < w8.heap.size := blk_lt kq
  have cq0 : w8.cell? ⟨B, 0, none⟩ = some (.int .u8 (q.r.toNat : Int)) := blk_cell kq 0
  have cq1 : w8.cell? ⟨B, 1, none⟩ = some (.int .u8 (q.g.toNat : Int)) := blk_cell kq 1
  have cq2 : w8.cell? ⟨B, 2, none⟩ = some (.int .u8 (q.b.toNat : Int)) := blk_cell kq 2
  have cq3 : w8.cell? ⟨B, 3, none⟩ = some (.int .u8 (q.a.toNat : Int)) := blk_cell kq 3
  have hlp : B + 1 < w8.heap.size := blk_lt kp
  have cp0 : w8.cell? ⟨B + 1, 0, none⟩ = some (.int .i64 W) := blk_cell kp 0
  have cp1 : w8.cell? ⟨B + 1, 1, none⟩ = some (.int .i64 H) := blk_cell kp 1
  have cp2 : w8.cell? ⟨B + 1, 2, none⟩ = some (.slice a n c) := blk_cell kp 2
  have hlQ : bQ < w8.heap.size := blk_lt kQ
  have cQ0 : w8.cell? ⟨bQ, 0, none⟩ = some (.int .i64 (u : Int)) := blk_cell kQ 0
  have cQ1 : w8.cell? ⟨bQ, 1, none⟩ = some (.int .i64 (v : Int)) := blk_cell kQ 1
  have cQ2 : w8.cell? ⟨bQ, 2, none⟩ = some (.slice a1 M c1) := blk_cell kQ 2
  go_wp2_with fail
  clear cq0 cq1 cq2 cq3 cp0 cp1 cp2 cQ0 cQ1 cQ2 hlq hlp hlQ
  refine (unhide HAt w8 _ _ (unhide HSe)).mono ?_
  rintro e w9 ⟨rfl, hbN⟩
  have hsz := hbN.size
  have kq := blk_below kq hbN (blk_lt kq)
  have kp := blk_below kp hbN (blk_lt kp)
  have kQ := blk_below kQ hbN (blk_lt kQ)
  have HXp := hide ((unhide HXp).below hbN)
  have HX5 := hide ((unhide HX5).below hbN)
  have HSe := hide ((unhide HSe).below hbN)
  have HB := hide ((unhide HB).trans (hbN.mono (by omega)))
  have hs : B + 2 ≤ w9.heap.size := by omega
  clear hbN hsz
  have hlq : B < w9.heap.size := blk_lt kq
  have cq0 : w9.cell? ⟨B, 0, none⟩ = some (.int .u8 (q.r.toNat : Int)) := blk_cell kq 0
  have cq1 : w9.cell? ⟨B, 1, none⟩ = some (.int .u8 (q.g.toNat : Int)) := blk_cell kq 1
  have cq2 : w9.cell? ⟨B, 2, none⟩ = some (.int .u8 (q.b.toNat : Int)) := blk_cell kq 2
  have cq3 : w9.cell? ⟨B, 3, none⟩ = some (.int .u8 (q.a.toNat : Int)) := blk_cell kq 3
  have hlp : B + 1 < w9.heap.size := blk_lt kp
  have cp0 : w9.cell? ⟨B + 1, 0, none⟩ = some (.int .i64 W) := blk_cell kp 0
  have cp1 : w9.cell? ⟨B + 1, 1, none⟩ = some (.int .i64 H) := blk_cell kp 1
  have cp2 : w9.cell? ⟨B + 1, 2, none⟩ = some (.slice a n c) := blk_cell kp 2
  have hlQ : bQ < w9.heap.size := blk_lt kQ
  have cQ0 : w9.cell? ⟨bQ, 0, none⟩ = some (.int .i64 (u : Int)) := blk_cell kQ 0
  have cQ1 : w9.cell? ⟨bQ, 1, none⟩ = some (.int .i64 (v : Int)) := blk_cell kQ 1
  have cQ2 : w9.cell? ⟨bQ, 2, none⟩ = some (.slice a1 M c1) := blk_cell kQ 2
  have HA := hide (al1 w9 (.cells #[.int .u8 0, .int .u8 0, .int .u8 0, .int .u8 0] 23))
  obtain ⟨bZ, heqZ⟩ : ∃ b, b = w9.heap.size := ⟨_, rfl⟩
  go_wp2_with fail
  clear cq0 cq1 cq2 cq3 cp0 cp1 cp2 cQ0 cQ1 cQ2 hlq hlp hlQ
  generalize w9.alloc (.cells #[.int .u8 0, .int .u8 0, .int .u8 0, .int .u8 0] 23) = w10 at *
  rw [← heqZ] at HA ⊢
  obtain ⟨hsA, kZ, hbA⟩ := unhide HA
  rw [heqZ] at hbA
  have ltZq : B < bZ := by rw [heqZ]; exact blk_lt kq
  have ltZp : B + 1 < bZ := by rw [heqZ]; exact blk_lt kp
  have ltZQ : bQ < bZ := by rw [heqZ]; exact blk_lt kQ
  have hgB : B ≤ bZ := by rw [heqZ]; omega
  clear HA
  have hsz := hbA.size
  have kq := blk_below kq hbA (blk_lt kq)
  have kp := blk_below kp hbA (blk_lt kp)
  have kQ := blk_below kQ hbA (blk_lt kQ)
  have HXp := hide ((unhide HXp).below hbA)
  have HX5 := hide ((unhide HX5).below hbA)
  have HSe := hide ((unhide HSe).below hbA)
  have HB := hide ((unhide HB).trans (hbA.mono (by omega)))
  have hs : B + 2 ≤ w10.heap.size := by omega
  clear hbA hsz
  clear heqZ hsA
  refine (unhide HIN _).mono ?_
  rintro e w11 ⟨rfl, hbN⟩
  have hsz := hbN.size
  have kq := blk_below kq hbN (blk_lt kq)
  have kp := blk_below kp hbN (blk_lt kp)
  have kQ := blk_below kQ hbN (blk_lt kQ)
  have kZ := blk_below kZ hbN (blk_lt kZ)
  have HXp := hide ((unhide HXp).below hbN)
  have HX5 := hide ((unhide HX5).below hbN)
  have HSe := hide ((unhide HSe).below hbN)
  have HB := hide ((unhide HB).trans (hbN.mono (by omega)))
  have hs : B + 2 ≤ w11.heap.size := by omega
  clear hbN hsz
  have hlq : B < w11.heap.size := blk_lt kq
  have cq0 : w11.cell? ⟨B, 0, none⟩ = some (.int .u8 (q.r.toNat : Int)) := blk_cell kq 0
  have cq1 : w11.cell? ⟨B, 1, none⟩ = some (.int .u8 (q.g.toNat : Int)) := blk_cell kq 1
  have cq2 : w11.cell? ⟨B, 2, none⟩ = some (.int .u8 (q.b.toNat : Int)) := blk_cell kq 2
  have cq3 : w11.cell? ⟨B, 3, none⟩ = some (.int .u8 (q.a.toNat : Int)) := blk_cell kq 3
  have hlp : B + 1 < w11.heap.size := blk_lt kp
  have cp0 : w11.cell? ⟨B + 1, 0, none⟩ = some (.int .i64 W) := blk_cell kp 0
  have cp1 : w11.cell? ⟨B + 1, 1, none⟩ = some (.int .i64 H) := blk_cell kp 1
  have cp2 : w11.cell? ⟨B + 1, 2, none⟩ = some (.slice a n c) := blk_cell kp 2
  have hlQ : bQ < w11.heap.size := blk_lt kQ
  have cQ0 : w11.cell? ⟨bQ, 0, none⟩ = some (.int .i64 (u : Int)) := blk_cell kQ 0
  have cQ1 : w11.cell? ⟨bQ, 1, none⟩ = some (.int .i64 (v : Int)) := blk_cell kQ 1
  have cQ2 : w11.cell? ⟨bQ, 2, none⟩ = some (.slice a1 M c1) := blk_cell kQ 2
  have hlZ : bZ < w11.heap.size := blk_lt kZ
  have cZ0 : w11.cell? ⟨bZ, 0, none⟩ = some (.int .u8 0) := blk_cell kZ 0
  have cZ1 : w11.cell? ⟨bZ, 1, none⟩ = some (.int .u8 0) := blk_cell kZ 1
  have cZ2 : w11.cell? ⟨bZ, 2, none⟩ = some (.int .u8 0) := blk_cell kZ 2
  have cZ3 : w11.cell? ⟨bZ, 3, none⟩ = some (.int .u8 0) := blk_cell kZ 3
  go_wp2_with fail
  clear cq0 cq1 cq2 cq3 cp0 cp1 cp2 cQ0 cQ1 cQ2 cZ0 cZ1 cZ2 cZ3 hlq hlp hlQ hlZ
  refine (unhide HRT _).mono ?_
  rintro e w12 ⟨rfl, hbN⟩
  have hsz := hbN.size
  have kq := blk_below kq hbN (blk_lt kq)
  have kp := blk_below kp hbN (blk_lt kp)
  have kQ := blk_below kQ hbN (blk_lt kQ)
  have kZ := blk_below kZ hbN (blk_lt kZ)
  have HXp := hide ((unhide HXp).below hbN)
  have HX5 := hide ((unhide HX5).below hbN)
  have HSe := hide ((unhide HSe).below hbN)
  have HB := hide ((unhide HB).trans (hbN.mono (by omega)))
  have hs : B + 2 ≤ w12.heap.size := by omega
  clear hbN hsz
  have hlq : B < w12.heap.size := blk_lt kq
  have cq0 : w12.cell? ⟨B, 0, none⟩ = some (.int .u8 (q.r.toNat : Int)) := blk_cell kq 0
  have cq1 : w12.cell? ⟨B, 1, none⟩ = some (.int .u8 (q.g.toNat : Int)) := blk_cell kq 1
  have cq2 : w12.cell? ⟨B, 2, none⟩ = some (.int .u8 (q.b.toNat : Int)) := blk_cell kq 2
  have cq3 : w12.cell? ⟨B, 3, none⟩ = some (.int .u8 (q.a.toNat : Int)) := blk_cell kq 3
  have hlp : B + 1 < w12.heap.size := blk_lt kp
  have cp0 : w12.cell? ⟨B + 1, 0, none⟩ = some (.int .i64 W) := blk_cell kp 0
  have cp1 : w12.cell? ⟨B + 1, 1, none⟩ = some (.int .i64 H) := blk_cell kp 1
  have cp2 : w12.cell? ⟨B + 1, 2, none⟩ = some (.slice a n c) := blk_cell kp 2
  have hlQ : bQ < w12.heap.size := blk_lt kQ
  have cQ0 : w12.cell? ⟨bQ, 0, none⟩ = some (.int .i64 (u : Int)) := blk_cell kQ 0
  have cQ1 : w12.cell? ⟨bQ, 1, none⟩ = some (.int .i64 (v : Int)) := blk_cell kQ 1
  have cQ2 : w12.cell? ⟨bQ, 2, none⟩ = some (.slice a1 M c1) := blk_cell kQ 2
  have hlZ : bZ < w12.heap.size := blk_lt kZ
  have cZ0 : w12.cell? ⟨bZ, 0, none⟩ = some (.int .u8 0) := blk_cell kZ 0
  have cZ1 : w12.cell? ⟨bZ, 1, none⟩ = some (.int .u8 0) := blk_cell kZ 1
  have cZ2 : w12.cell? ⟨bZ, 2, none⟩ = some (.int .u8 0) := blk_cell kZ 2
  have cZ3 : w12.cell? ⟨bZ, 3, none⟩ = some (.int .u8 0) := blk_cell kZ 3
  go_wp2_with fail
  clear cq0 cq1 cq2 cq3 cp0 cp1 cp2 cQ0 cQ1 cQ2 cZ0 cZ1 cZ2 cZ3 hlq hlp hlQ hlZ
  refine (unhide HCo w12 (unhide HSe)).mono ?_
  rintro e w13 ⟨rfl, hbN⟩
  have hsz := hbN.size
  have kq := blk_below kq hbN (blk_lt kq)
  have kp := blk_below kp hbN (blk_lt kp)
  have kQ := blk_below kQ hbN (blk_lt kQ)
  have kZ := blk_below kZ hbN (blk_lt kZ)
  have HXp := hide ((unhide HXp).below hbN)
  have HX5 := hide ((unhide HX5).below hbN)
  have HSe := hide ((unhide HSe).below hbN)
  have HB := hide ((unhide HB).trans (hbN.mono (by omega)))
  have hs : B + 2 ≤ w13.heap.size := by omega
  clear hbN hsz
  have hlq : B < w13.heap.size := blk_lt kq
  have cq0 : w13.cell? ⟨B, 0, none⟩ = some (.int .u8 (q.r.toNat : Int)) := blk_cell kq 0
  have cq1 : w13.cell? ⟨B, 1, none⟩ = some (.int .u8 (q.g.toNat : Int)) := blk_cell kq 1
  have cq2 : w13.cell? ⟨B, 2, none⟩ = some (.int .u8 (q.b.toNat : Int)) := blk_cell kq 2
  have cq3 : w13.cell? ⟨B, 3, none⟩ = some (.int .u8 (q.a.toNat : Int)) := blk_cell kq 3
  have hlp : B + 1 < w13.heap.size := blk_lt kp
  have cp0 : w13.cell? ⟨B + 1, 0, none⟩ = some (.int .i64 W) := blk_cell kp 0
  have cp1 : w13.cell? ⟨B + 1, 1, none⟩ = some (.int .i64 H) := blk_cell kp 1
  have cp2 : w13.cell? ⟨B + 1, 2, none⟩ = some (.slice a n c) := blk_cell kp 2
  have hlQ : bQ < w13.heap.size := blk_lt kQ
  have cQ0 : w13.cell? ⟨bQ, 0, none⟩ = some (.int .i64 (u : Int)) := blk_cell kQ 0
  have cQ1 : w13.cell? ⟨bQ, 1, none⟩ = some (.int .i64 (v : Int)) := blk_cell kQ 1
  have cQ2 : w13.cell? ⟨bQ, 2, none⟩ = some (.slice a1 M c1) := blk_cell kQ 2
  have hlZ : bZ < w13.heap.size := blk_lt kZ
  have cZ0 : w13.cell? ⟨bZ, 0, none⟩ = some (.int .u8 0) := blk_cell kZ 0
  have cZ1 : w13.cell? ⟨bZ, 1, none⟩ = some (.int .u8 0) := blk_cell kZ 1
  have cZ2 : w13.cell? ⟨bZ, 2, none⟩ = some (.int .u8 0) := blk_cell kZ 2
  have cZ3 : w13.cell? ⟨bZ, 3, none⟩ = some (.int .u8 0) := blk_cell kZ 3
  go_wp2
  clear cq0 cq1 cq2 cq3 cp0 cp1 cp2 cQ0 cQ1 cQ2 cZ0 cZ1 cZ2 cZ3 hlq hlp hlQ hlZ
  go_ret
  exact ⟨rfl, by rw [← unhide HBE]; exact unhide HB⟩
set_option maxHeartbeats 4000000 in
set_option maxRecDepth 100000 in
theorem rasterNew_ok_bound (u v : Nat) (q : Px) (W H : Nat) (a : Option Addr) (n c : Nat) (p : Nat → Px) (x y : Int) (w : World) (A : Nat → Addr) (hS : Sent w A) (hP : IsPx w a n p) (hn3 : n ≤ 3000) (hu0 : 1 ≤ u) (hu : u ≤ 256) (hv0 : 1 ≤ v) (hv : v ≤ 256) (hW0 : 1 ≤ W) (hW : W ≤ 256) (hH0 : 1 ≤ H) (hH : H ≤ 256) (hn : n = W * H) (hin : ¬ (0 ≤ x ∧ 0 ≤ y ∧ x < (W : Int) ∧ y < (H : Int))) :
    Calls Tryd.prog 3 #[.int .i64 (u : Int), .int .i64 (v : Int), q.val, .agg #[.int .i64 (W : Int), .int .i64 (H : Int), .slice a n c], .int .i64 x, .int .i64 y] w fun e w' => e = .returned (.bool true) ∧ Below w.heap.size w w' := by
  have HPL := hide plainly_any
  have HSM := hide (fun w => small_any (W : Int) (H : Int) a n c w)
  rw [decide_eq_true hn3] at HSM
  have HU := hide (fun w => side_any (u : Int) w)
  have HV := hide (fun w => side_any (v : Int) w)
  have HRT := hide (fun w => pright_any (W : Int) (H : Int) a n c w)
  have HIN := hide (fun w => inP_any (W : Int) (H : Int) x y a n c w)
  have HO := hide (fun w (h : IsPx w a n p) => own_isPx (W : Int) (H : Int) a n c p w h (by omega))
  have HX := hide hP
  have HS0 := hide hS
  rw [decide_eq_true (show (1 : Int) ≤ u ∧ (u : Int) ≤ 256 by omega)] at HU
  rw [decide_eq_true (show (1 : Int) ≤ v ∧ (v : Int) ≤ 256 by omega)] at HV
  have HN := hide (fun w => new_ok u v q w hu0 hu hv0 hv)
  have HBl := hide (fun w => blankP_any u v q w hu hv)
  have hM3 : u * v ≤ 100000 := Nat.le_trans (Nat.mul_le_mul hu hv) (by omega)
  have HTo := hide (fun w a b c d (h1 : IsPx w a (u * v) (grid u fun _ _ => q)) (h2 : IsPx w b (u * v) (fun _ => q)) => told_ok u v a b (u * v) c d (fun _ => q) w h1 h2 hM3)
  rw [decide_eq_true (rightN hW0 hW hH0 hH hn)] at HRT
  rw [decide_eq_false hin] at HIN
  have HAt := hide (fun w a c (h : Sent w A) => rAt_bound W H a n c x y w _ _ (h.cell 1 (by omega)) hW0 hW hH0 hH hn (fun k => hin ⟨k.1, k.2.2.1, k.2.1, k.2.2.2⟩))
  have HCo := hide (fun w (h : Sent w A) => coded2_sent 1 2 w A h (by omega) rfl)
  clear hn3 hP hS hu0 hu hv0 hv hW0 hW hH0 hH hn hin
  unfold Px.val at *
  obtain ⟨M, hM⟩ : ∃ M, M = u * v := ⟨_, rfl⟩
  rw [← hM] at HN HBl HTo hM3
  clear hM
  have HA := hide (al2 w (.cells #[.int .u8 (q.r.toNat : Int), .int .u8 (q.g.toNat : Int), .int .u8 (q.b.toNat : Int), .int .u8 (q.a.toNat : Int)] 23) (.cells #[.int .i64 (W : Int), .int .i64 (H : Int), .slice a n c] 26))
  obtain ⟨B, hB⟩ : ∃ B, B = w.heap.size := ⟨_, rfl⟩
  go_enter Tryd.func3, Tryd.ntmps3
  go_wp2_with fail
  generalize ((w.alloc (.cells #[.int .u8 (q.r.toNat : Int), .int .u8 (q.g.toNat : Int), .int .u8 (q.b.toNat : Int), .int .u8 (q.a.toNat : Int)] 23)).alloc (.cells #[.int .i64 (W : Int), .int .i64 (H : Int), .slice a n c] 26)) = w1 at *
  rw [← hB] at HA ⊢
  obtain ⟨hs1, kq, kp, hb1⟩ := unhide HA
  have HBE := hide hB
  clear HA hB
  have hs : B + 2 ≤ w1.heap.size := by omega
  have HB := hide hb1
  clear hs1 hb1
  have HXp := hide ((unhide HX).under (unhide HB) (fun x hx h0 => by rw [unhide HBE]; exact (unhide HX).lt x hx h0))
  have HSe := hide ((unhide HS0).below (by rw [← unhide HBE]; exact unhide HB))
  clear HX HS0
  refine (unhide HPL _).mono ?_
  rintro e w2 ⟨rfl, hbN⟩
  have hsz := hbN.size
  have kq := blk_below kq hbN (blk_lt kq)
  have kp := blk_below kp hbN (blk_lt kp)
  have HXp := hide ((unhide HXp).below hbN)
  have HSe := hide ((unhide HSe).below hbN)
  have HB := hide ((unhide HB).trans (hbN.mono (by omega)))
  have hs : B + 2 ≤ w2.heap.size := by omega
  clear hbN hsz
  have hlq : B < w2.heap.size := blk_lt kq
  have cq0 : w2.cell? ⟨B, 0, none⟩ = some (.int .u8 (q.r.toNat : Int)) := blk_cell kq 0
  have cq1 : w2.cell? ⟨B, 1, none⟩ = some (.int .u8 (q.g.toNat : Int)) := blk_cell kq 1
  have cq2 : w2.cell? ⟨B, 2, none⟩ = some (.int .u8 (q.b.toNat : Int)) := blk_cell kq 2
  have cq3 : w2.cell? ⟨B, 3, none⟩ = some (.int .u8 (q.a.toNat : Int)) := blk_cell kq 3
  have hlp : B + 1 < w2.heap.size := blk_lt kp
  have cp0 : w2.cell? ⟨B + 1, 0, none⟩ = some (.int .i64 (W : Int)) := blk_cell kp 0
  have cp1 : w2.cell? ⟨B + 1, 1, none⟩ = some (.int .i64 (H : Int)) := blk_cell kp 1
  have cp2 : w2.cell? ⟨B + 1, 2, none⟩ = some (.slice a n c) := blk_cell kp 2
  go_wp2_with fail
  clear cq0 cq1 cq2 cq3 cp0 cp1 cp2 hlq hlp
  refine (unhide HSM _).mono ?_
  rintro e w3 ⟨rfl, hbN⟩
  have hsz := hbN.size
  have kq := blk_below kq hbN (blk_lt kq)
  have kp := blk_below kp hbN (blk_lt kp)
  have HXp := hide ((unhide HXp).below hbN)
  have HSe := hide ((unhide HSe).below hbN)
  have HB := hide ((unhide HB).trans (hbN.mono (by omega)))
  have hs : B + 2 ≤ w3.heap.size := by omega
  clear hbN hsz
  have hlq : B < w3.heap.size := blk_lt kq
  have cq0 : w3.cell? ⟨B, 0, none⟩ = some (.int .u8 (q.r.toNat : Int)) := blk_cell kq 0
  have cq1 : w3.cell? ⟨B, 1, none⟩ = some (.int .u8 (q.g.toNat : Int)) := blk_cell kq 1
  have cq2 : w3.cell? ⟨B, 2, none⟩ = some (.int .u8 (q.b.toNat : Int)) := blk_cell kq 2
  have cq3 : w3.cell? ⟨B, 3, none⟩ = some (.int .u8 (q.a.toNat : Int)) := blk_cell kq 3
  have hlp : B + 1 < w3.heap.size := blk_lt kp
  have cp0 : w3.cell? ⟨B + 1, 0, none⟩ = some (.int .i64 (W : Int)) := blk_cell kp 0
  have cp1 : w3.cell? ⟨B + 1, 1, none⟩ = some (.int .i64 (H : Int)) := blk_cell kp 1
  have cp2 : w3.cell? ⟨B + 1, 2, none⟩ = some (.slice a n c) := blk_cell kp 2
  go_wp2_with fail
  clear cq0 cq1 cq2 cq3 cp0 cp1 cp2 hlq hlp
  refine (unhide HN w3).mono ?_
  rintro e w4 ⟨a1, c1, rfl, hpx, hbN⟩
  have hsz := hbN.size
  have kq := blk_below kq hbN (blk_lt kq)
  have kp := blk_below kp hbN (blk_lt kp)
  have HXp := hide ((unhide HXp).below hbN)
  have HSe := hide ((unhide HSe).below hbN)
  have HB := hide ((unhide HB).trans (hbN.mono (by omega)))
  have hs : B + 2 ≤ w4.heap.size := by omega
  clear hbN hsz
  have HX1 := hide hpx
  clear hpx
  have hlq : B < w4.heap.size := blk_lt kq
  have cq0 : w4.cell? ⟨B, 0, none⟩ = some (.int .u8 (q.r.toNat : Int)) := blk_cell kq 0
  have cq1 : w4.cell? ⟨B, 1, none⟩ = some (.int .u8 (q.g.toNat : Int)) := blk_cell kq 1
  have cq2 : w4.cell? ⟨B, 2, none⟩ = some (.int .u8 (q.b.toNat : Int)) := blk_cell kq 2
  have cq3 : w4.cell? ⟨B, 3, none⟩ = some (.int .u8 (q.a.toNat : Int)) := blk_cell kq 3
  have hlp : B + 1 < w4.heap.size := blk_lt kp
  have cp0 : w4.cell? ⟨B + 1, 0, none⟩ = some (.int .i64 (W : Int)) := blk_cell kp 0
  have cp1 : w4.cell? ⟨B + 1, 1, none⟩ = some (.int .i64 (H : Int)) := blk_cell kp 1
  have cp2 : w4.cell? ⟨B + 1, 2, none⟩ = some (.slice a n c) := blk_cell kp 2
  have HA := hide (al1 w4 (.cells #[.int .i64 (u : Int), .int .i64 (v : Int), .slice a1 M c1] 26))
  obtain ⟨bQ, heqQ⟩ : ∃ b, b = w4.heap.size := ⟨_, rfl⟩
  go_wp2_with fail
  clear cq0 cq1 cq2 cq3 cp0 cp1 cp2 hlq hlp
  generalize w4.alloc (.cells #[.int .i64 (u : Int), .int .i64 (v : Int), .slice a1 M c1] 26) = w5 at *
  rw [← heqQ] at HA ⊢
  obtain ⟨hsA, kQ, hbA⟩ := unhide HA
  rw [heqQ] at hbA
  have ltQq : B < bQ := by rw [heqQ]; exact blk_lt kq
  have ltQp : B + 1 < bQ := by rw [heqQ]; exact blk_lt kp
  have hgB : B ≤ bQ := by rw [heqQ]; omega
  clear HA
  have hsz := hbA.size
  have kq := blk_below kq hbA (blk_lt kq)
  have kp := blk_below kp hbA (blk_lt kp)
  have HXp := hide ((unhide HXp).below hbA)
  have HX1 := hide ((unhide HX1).below hbA)
  have HSe := hide ((unhide HSe).below hbA)
  have HB := hide ((unhide HB).trans (hbA.mono (by omega)))
  have hs : B + 2 ≤ w5.heap.size := by omega
  clear hbA hsz
  clear heqQ hsA
  refine (unhide HU _).mono ?_
  rintro e w5 ⟨rfl, rfl⟩
  have hlq : B < w5.heap.size := blk_lt kq
  have cq0 : w5.cell? ⟨B, 0, none⟩ = some (.int .u8 (q.r.toNat : Int)) := blk_cell kq 0
  have cq1 : w5.cell? ⟨B, 1, none⟩ = some (.int .u8 (q.g.toNat : Int)) := blk_cell kq 1
  have cq2 : w5.cell? ⟨B, 2, none⟩ = some (.int .u8 (q.b.toNat : Int)) := blk_cell kq 2
  have cq3 : w5.cell? ⟨B, 3, none⟩ = some (.int .u8 (q.a.toNat : Int)) := blk_cell kq 3
  have hlp : B + 1 < w5.heap.size := blk_lt kp
  have cp0 : w5.cell? ⟨B + 1, 0, none⟩ = some (.int .i64 (W : Int)) := blk_cell kp 0
  have cp1 : w5.cell? ⟨B + 1, 1, none⟩ = some (.int .i64 (H : Int)) := blk_cell kp 1
  have cp2 : w5.cell? ⟨B + 1, 2, none⟩ = some (.slice a n c) := blk_cell kp 2
  have hlQ : bQ < w5.heap.size := blk_lt kQ
  have cQ0 : w5.cell? ⟨bQ, 0, none⟩ = some (.int .i64 (u : Int)) := blk_cell kQ 0
  have cQ1 : w5.cell? ⟨bQ, 1, none⟩ = some (.int .i64 (v : Int)) := blk_cell kQ 1
  have cQ2 : w5.cell? ⟨bQ, 2, none⟩ = some (.slice a1 M c1) := blk_cell kQ 2
  go_wp2_with fail
  clear cq0 cq1 cq2 cq3 cp0 cp1 cp2 cQ0 cQ1 cQ2 hlq hlp hlQ
  refine (unhide HV _).mono ?_
  rintro e w5 ⟨rfl, rfl⟩
  have hlq : B < w5.heap.size := blk_lt kq
  have cq0 : w5.cell? ⟨B, 0, none⟩ = some (.int .u8 (q.r.toNat : Int)) := blk_cell kq 0
  have cq1 : w5.cell? ⟨B, 1, none⟩ = some (.int .u8 (q.g.toNat : Int)) := blk_cell kq 1
  have cq2 : w5.cell? ⟨B, 2, none⟩ = some (.int .u8 (q.b.toNat : Int)) := blk_cell kq 2
  have cq3 : w5.cell? ⟨B, 3, none⟩ = some (.int .u8 (q.a.toNat : Int)) := blk_cell kq 3
  have hlp : B + 1 < w5.heap.size := blk_lt kp
  have cp0 : w5.cell? ⟨B + 1, 0, none⟩ = some (.int .i64 (W : Int)) := blk_cell kp 0
  have cp1 : w5.cell? ⟨B + 1, 1, none⟩ = some (.int .i64 (H : Int)) := blk_cell kp 1
  have cp2 : w5.cell? ⟨B + 1, 2, none⟩ = some (.slice a n c) := blk_cell kp 2
  have hlQ : bQ < w5.heap.size := blk_lt kQ
  have cQ0 : w5.cell? ⟨bQ, 0, none⟩ = some (.int .i64 (u : Int)) := blk_cell kQ 0
  have cQ1 : w5.cell? ⟨bQ, 1, none⟩ = some (.int .i64 (v : Int)) := blk_cell kQ 1
  have cQ2 : w5.cell? ⟨bQ, 2, none⟩ = some (.slice a1 M c1) := blk_cell kQ 2
  go_wp2
  clear cq0 cq1 cq2 cq3 cp0 cp1 cp2 cQ0 cQ1 cQ2 hlq hlp hlQ
  have hlq : B < w5.heap.size := blk_lt kq
  have cq0 : w5.cell? ⟨B, 0, none⟩ = some (.int .u8 (q.r.toNat : Int)) := blk_cell kq 0
  have cq1 : w5.cell? ⟨B, 1, none⟩ = some (.int .u8 (q.g.toNat : Int)) := blk_cell kq 1
  have cq2 : w5.cell? ⟨B, 2, none⟩ = some (.int .u8 (q.b.toNat : Int)) := blk_cell kq 2
  have cq3 : w5.cell? ⟨B, 3, none⟩ = some (.int .u8 (q.a.toNat : Int)) := blk_cell kq 3
  have hlp : B + 1 < w5.heap.size := blk_lt kp
  have cp0 : w5.cell? ⟨B + 1, 0, none⟩ = some (.int .i64 (W : Int)) := blk_cell kp 0
  have cp1 : w5.cell? ⟨B + 1, 1, none⟩ = some (.int .i64 (H : Int)) := blk_cell kp 1
  have cp2 : w5.cell? ⟨B + 1, 2, none⟩ = some (.slice a n c) := blk_cell kp 2
  have hlQ : bQ < w5.heap.size := blk_lt kQ
  have cQ0 : w5.cell? ⟨bQ, 0, none⟩ = some (.int .i64 (u : Int)) := blk_cell kQ 0
  have cQ1 : w5.cell? ⟨bQ, 1, none⟩ = some (.int .i64 (v : Int)) := blk_cell kQ 1
  have cQ2 : w5.cell? ⟨bQ, 2, none⟩ = some (.slice a1 M c1) := blk_cell kQ 2
  have hdr := (Below.refl w5.heap.size w5).drew
  go_region_held (fun w' => w'.cell? ⟨bQ, 0, none⟩ = some (.int .i64 (u : Int)) ∧ w'.cell? ⟨bQ, 1, none⟩ = some (.int .i64 (v : Int)) ∧ w'.cell? ⟨bQ, 2, none⟩ = some (.slice a1 M c1) ∧ w'.cell? ⟨B, 0, none⟩ = some (.int .u8 (q.r.toNat : Int)) ∧ w'.cell? ⟨B, 1, none⟩ = some (.int .u8 (q.g.toNat : Int)) ∧ w'.cell? ⟨B, 2, none⟩ = some (.int .u8 (q.b.toNat : Int)) ∧ w'.cell? ⟨B, 3, none⟩ = some (.int .u8 (q.a.toNat : Int))) (first | (go_keep; done) | exact ⟨(hkw6 (bQ) 0 (by omega)).trans cQ0, (hkw6 (bQ) 1 (by omega)).trans cQ1, (hkw6 (bQ) 2 (by omega)).trans cQ2, (hkw6 (B) 0 (by omega)).trans cq0, (hkw6 (B) 1 (by omega)).trans cq1, (hkw6 (B) 2 (by omega)).trans cq2, (hkw6 (B) 3 (by omega)).trans cq3⟩ | exact ⟨(hkw7 (bQ) 0 (by omega)).trans cQ0, (hkw7 (bQ) 1 (by omega)).trans cQ1, (hkw7 (bQ) 2 (by omega)).trans cQ2, (hkw7 (B) 0 (by omega)).trans cq0, (hkw7 (B) 1 (by omega)).trans cq1, (hkw7 (B) 2 (by omega)).trans cq2, (hkw7 (B) 3 (by omega)).trans cq3⟩) (first | (go_at_call 14; refine (unhide HBl w5.drew).mono ?_; rintro e w6 ⟨g, cg, rfl, hg, hpr, hbw6⟩; have hqw6 := hdr.trans (hbw6.mono (by exact Nat.le_refl _)); have hkw6 := fun (k o : Nat) (h : k < w5.heap.size) => hqw6.cell (p := ⟨k, o, none⟩) h) | (go_at_call 13; refine (unhide HTo w6 _ _ _ _ ((unhide HX1).below hqw6) (hpr.isPx hM3)).mono ?_; rintro e w7 ⟨rfl, hbw7⟩; have hqw7 := hqw6.trans (hbw7.mono (by exact hqw6.size)); have hkw7 := fun (k o : Nat) (h : k < w5.heap.size) => hqw7.cell (p := ⟨k, o, none⟩) h))
  clear cq0 cq1 cq2 cq3 cp0 cp1 cp2 cQ0 cQ1 cQ2 hlq hlp hlQ
  have hbN := hqw7
  have hsz := hbN.size
  have kq := blk_below kq hbN (blk_lt kq)
  have kp := blk_below kp hbN (blk_lt kp)
  have kQ := blk_below kQ hbN (blk_lt kQ)
  have HXp := hide ((unhide HXp).below hbN)
  have HX1 := hide ((unhide HX1).below hbN)
  have HSe := hide ((unhide HSe).below hbN)
  have HB := hide ((unhide HB).trans (hbN.mono (by omega)))
  have hs : B + 2 ≤ w7.heap.size := by omega
  clear hbN hsz
  clear hpr hg
  clear HX1
  have hlq : B < w7.heap.size := blk_lt kq
  have cq0 : w7.cell? ⟨B, 0, none⟩ = some (.int .u8 (q.r.toNat : Int)) := blk_cell kq 0
  have cq1 : w7.cell? ⟨B, 1, none⟩ = some (.int .u8 (q.g.toNat : Int)) := blk_cell kq 1
  have cq2 : w7.cell? ⟨B, 2, none⟩ = some (.int .u8 (q.b.toNat : Int)) := blk_cell kq 2
  have cq3 : w7.cell? ⟨B, 3, none⟩ = some (.int .u8 (q.a.toNat : Int)) := blk_cell kq 3
  have hlp : B + 1 < w7.heap.size := blk_lt kp
  have cp0 : w7.cell? ⟨B + 1, 0, none⟩ = some (.int .i64 (W : Int)) := blk_cell kp 0
  have cp1 : w7.cell? ⟨B + 1, 1, none⟩ = some (.int .i64 (H : Int)) := blk_cell kp 1
  have cp2 : w7.cell? ⟨B + 1, 2, none⟩ = some (.slice a n c) := blk_cell kp 2
  have hlQ : bQ < w7.heap.size := blk_lt kQ
  have cQ0 : w7.cell? ⟨bQ, 0, none⟩ = some (.int .i64 (u : Int)) := blk_cell kQ 0
  have cQ1 : w7.cell? ⟨bQ, 1, none⟩ = some (.int .i64 (v : Int)) := blk_cell kQ 1
  have cQ2 : w7.cell? ⟨bQ, 2, none⟩ = some (.slice a1 M c1) := blk_cell kQ 2
  go_wp2_with fail
  clear cq0 cq1 cq2 cq3 cp0 cp1 cp2 cQ0 cQ1 cQ2 hlq hlp hlQ
  refine (unhide HO w7 (unhide HXp)).mono ?_
  rintro e w8 ⟨a5, c5, rfl, hpx, hbN⟩
  have hsz := hbN.size
  have kq := blk_below kq hbN (blk_lt kq)
  have kp := blk_below kp hbN (blk_lt kp)
  have kQ := blk_below kQ hbN (blk_lt kQ)
  have HXp := hide ((unhide HXp).below hbN)
  have HSe := hide ((unhide HSe).below hbN)
  have HB := hide ((unhide HB).trans (hbN.mono (by omega)))
  have hs : B + 2 ≤ w8.heap.size := by omega
  clear hbN hsz
  have HX5 := hide hpx
  clear hpx
  have hlq : B < w8.heap.size := blk_lt kq
  have cq0 : w8.cell? ⟨B, 0, none⟩ = some (.int .u8 (q.r.toNat : Int)) := blk_cell kq 0
  have cq1 : w8.cell? ⟨B, 1, none⟩ = some (.int .u8 (q.g.toNat : Int)) := blk_cell kq 1
  have cq2 : w8.cell? ⟨B, 2, none⟩ = some (.int .u8 (q.b.toNat : Int)) := blk_cell kq 2
  have cq3 : w8.cell? ⟨B, 3, none⟩ = some (.int .u8 (q.a.toNat : Int)) := blk_cell kq 3
  have hlp : B + 1 < w8.heap.size := blk_lt kp
  have cp0 : w8.cell? ⟨B + 1, 0, none⟩ = some (.int .i64 (W : Int)) := blk_cell kp 0
  have cp1 : w8.cell? ⟨B + 1, 1, none⟩ = some (.int .i64 (H : Int)) := blk_cell kp 1
  have cp2 : w8.cell? ⟨B + 1, 2, none⟩ = some (.slice a n c) := blk_cell kp 2
  have hlQ : bQ < w8.heap.size := blk_lt kQ
  have cQ0 : w8.cell? ⟨bQ, 0, none⟩ = some (.int .i64 (u : Int)) := blk_cell kQ 0
  have cQ1 : w8.cell? ⟨bQ, 1, none⟩ = some (.int .i64 (v : Int)) := blk_cell kQ 1
  have cQ2 : w8.cell? ⟨bQ, 2, none⟩ = some (.slice a1 M c1) := blk_cell kQ 2
  go_wp2_with fail
  clear cq0 cq1 cq2 cq3 cp0 cp1 cp2 cQ0 cQ1 cQ2 hlq hlp hlQ
  refine (unhide HAt w8 _ _ (unhide HSe)).mono ?_
  rintro e w9 ⟨rfl, hbN⟩
  have hsz := hbN.size
  have kq := blk_below kq hbN (blk_lt kq)
  have kp := blk_below kp hbN (blk_lt kp)
  have kQ := blk_below kQ hbN (blk_lt kQ)
  have HXp := hide ((unhide HXp).below hbN)
  have HX5 := hide ((unhide HX5).below hbN)
  have HSe := hide ((unhide HSe).below hbN)
  have HB := hide ((unhide HB).trans (hbN.mono (by omega)))
  have hs : B + 2 ≤ w9.heap.size := by omega
  clear hbN hsz
  have hlq : B < w9.heap.size := blk_lt kq
  have cq0 : w9.cell? ⟨B, 0, none⟩ = some (.int .u8 (q.r.toNat : Int)) := blk_cell kq 0
  have cq1 : w9.cell? ⟨B, 1, none⟩ = some (.int .u8 (q.g.toNat : Int)) := blk_cell kq 1
  have cq2 : w9.cell? ⟨B, 2, none⟩ = some (.int .u8 (q.b.toNat : Int)) := blk_cell kq 2
  have cq3 : w9.cell? ⟨B, 3, none⟩ = some (.int .u8 (q.a.toNat : Int)) := blk_cell kq 3
  have hlp : B + 1 < w9.heap.size := blk_lt kp
  have cp0 : w9.cell? ⟨B + 1, 0, none⟩ = some (.int .i64 (W : Int)) := blk_cell kp 0
  have cp1 : w9.cell? ⟨B + 1, 1, none⟩ = some (.int .i64 (H : Int)) := blk_cell kp 1
  have cp2 : w9.cell? ⟨B + 1, 2, none⟩ = some (.slice a n c) := blk_cell kp 2
  have hlQ : bQ < w9.heap.size := blk_lt kQ
  have cQ0 : w9.cell? ⟨bQ, 0, none⟩ = some (.int .i64 (u : Int)) := blk_cell kQ 0
  have cQ1 : w9.cell? ⟨bQ, 1, none⟩ = some (.int .i64 (v : Int)) := blk_cell kQ 1
  have cQ2 : w9.cell? ⟨bQ, 2, none⟩ = some (.slice a1 M c1) := blk_cell kQ 2
  have HA := hide (al1 w9 (.cells #[.int .u8 0, .int .u8 0, .int .u8 0, .int .u8 0] 23))
  obtain ⟨bZ, heqZ⟩ : ∃ b, b = w9.heap.size := ⟨_, rfl⟩
  go_wp2_with fail
  clear cq0 cq1 cq2 cq3 cp0 cp1 cp2 cQ0 cQ1 cQ2 hlq hlp hlQ
  generalize w9.alloc (.cells #[.int .u8 0, .int .u8 0, .int .u8 0, .int .u8 0] 23) = w10 at *
  rw [← heqZ] at HA ⊢
  obtain ⟨hsA, kZ, hbA⟩ := unhide HA
  rw [heqZ] at hbA
  have ltZq : B < bZ := by rw [heqZ]; exact blk_lt kq
  have ltZp : B + 1 < bZ := by rw [heqZ]; exact blk_lt kp
  have ltZQ : bQ < bZ := by rw [heqZ]; exact blk_lt kQ
  have hgB : B ≤ bZ := by rw [heqZ]; omega
  clear HA
  have hsz := hbA.size
  have kq := blk_below kq hbA (blk_lt kq)
  have kp := blk_below kp hbA (blk_lt kp)
  have kQ := blk_below kQ hbA (blk_lt kQ)
  have HXp := hide ((unhide HXp).below hbA)
  have HX5 := hide ((unhide HX5).below hbA)
  have HSe := hide ((unhide HSe).below hbA)
  have HB := hide ((unhide HB).trans (hbA.mono (by omega)))
  have hs : B + 2 ≤ w10.heap.size := by omega
  clear hbA hsz
  clear heqZ hsA
  refine (unhide HIN _).mono ?_
  rintro e w11 ⟨rfl, hbN⟩
  have hsz := hbN.size
  have kq := blk_below kq hbN (blk_lt kq)
  have kp := blk_below kp hbN (blk_lt kp)
  have kQ := blk_below kQ hbN (blk_lt kQ)
  have kZ := blk_below kZ hbN (blk_lt kZ)
  have HXp := hide ((unhide HXp).below hbN)
  have HX5 := hide ((unhide HX5).below hbN)
  have HSe := hide ((unhide HSe).below hbN)
  have HB := hide ((unhide HB).trans (hbN.mono (by omega)))
  have hs : B + 2 ≤ w11.heap.size := by omega
  clear hbN hsz
  have hlq : B < w11.heap.size := blk_lt kq
  have cq0 : w11.cell? ⟨B, 0, none⟩ = some (.int .u8 (q.r.toNat : Int)) := blk_cell kq 0
  have cq1 : w11.cell? ⟨B, 1, none⟩ = some (.int .u8 (q.g.toNat : Int)) := blk_cell kq 1
  have cq2 : w11.cell? ⟨B, 2, none⟩ = some (.int .u8 (q.b.toNat : Int)) := blk_cell kq 2
  have cq3 : w11.cell? ⟨B, 3, none⟩ = some (.int .u8 (q.a.toNat : Int)) := blk_cell kq 3
  have hlp : B + 1 < w11.heap.size := blk_lt kp
  have cp0 : w11.cell? ⟨B + 1, 0, none⟩ = some (.int .i64 (W : Int)) := blk_cell kp 0
  have cp1 : w11.cell? ⟨B + 1, 1, none⟩ = some (.int .i64 (H : Int)) := blk_cell kp 1
  have cp2 : w11.cell? ⟨B + 1, 2, none⟩ = some (.slice a n c) := blk_cell kp 2
  have hlQ : bQ < w11.heap.size := blk_lt kQ
  have cQ0 : w11.cell? ⟨bQ, 0, none⟩ = some (.int .i64 (u : Int)) := blk_cell kQ 0
  have cQ1 : w11.cell? ⟨bQ, 1, none⟩ = some (.int .i64 (v : Int)) := blk_cell kQ 1
  have cQ2 : w11.cell? ⟨bQ, 2, none⟩ = some (.slice a1 M c1) := blk_cell kQ 2
  have hlZ : bZ < w11.heap.size := blk_lt kZ
  have cZ0 : w11.cell? ⟨bZ, 0, none⟩ = some (.int .u8 0) := blk_cell kZ 0
  have cZ1 : w11.cell? ⟨bZ, 1, none⟩ = some (.int .u8 0) := blk_cell kZ 1
  have cZ2 : w11.cell? ⟨bZ, 2, none⟩ = some (.int .u8 0) := blk_cell kZ 2
  have cZ3 : w11.cell? ⟨bZ, 3, none⟩ = some (.int .u8 0) := blk_cell kZ 3
  go_wp2_with fail
  clear cq0 cq1 cq2 cq3 cp0 cp1 cp2 cQ0 cQ1 cQ2 cZ0 cZ1 cZ2 cZ3 hlq hlp hlQ hlZ
  refine (unhide HRT _).mono ?_
  rintro e w12 ⟨rfl, hbN⟩
  have hsz := hbN.size
  have kq := blk_below kq hbN (blk_lt kq)
  have kp := blk_below kp hbN (blk_lt kp)
  have kQ := blk_below kQ hbN (blk_lt kQ)
  have kZ := blk_below kZ hbN (blk_lt kZ)
  have HXp := hide ((unhide HXp).below hbN)
  have HX5 := hide ((unhide HX5).below hbN)
  have HSe := hide ((unhide HSe).below hbN)
  have HB := hide ((unhide HB).trans (hbN.mono (by omega)))
  have hs : B + 2 ≤ w12.heap.size := by omega
  clear hbN hsz
  have hlq : B < w12.heap.size := blk_lt kq
  have cq0 : w12.cell? ⟨B, 0, none⟩ = some (.int .u8 (q.r.toNat : Int)) := blk_cell kq 0
  have cq1 : w12.cell? ⟨B, 1, none⟩ = some (.int .u8 (q.g.toNat : Int)) := blk_cell kq 1
  have cq2 : w12.cell? ⟨B, 2, none⟩ = some (.int .u8 (q.b.toNat : Int)) := blk_cell kq 2
  have cq3 : w12.cell? ⟨B, 3, none⟩ = some (.int .u8 (q.a.toNat : Int)) := blk_cell kq 3
  have hlp : B + 1 < w12.heap.size := blk_lt kp
  have cp0 : w12.cell? ⟨B + 1, 0, none⟩ = some (.int .i64 (W : Int)) := blk_cell kp 0
  have cp1 : w12.cell? ⟨B + 1, 1, none⟩ = some (.int .i64 (H : Int)) := blk_cell kp 1
  have cp2 : w12.cell? ⟨B + 1, 2, none⟩ = some (.slice a n c) := blk_cell kp 2
  have hlQ : bQ < w12.heap.size := blk_lt kQ
  have cQ0 : w12.cell? ⟨bQ, 0, none⟩ = some (.int .i64 (u : Int)) := blk_cell kQ 0
  have cQ1 : w12.cell? ⟨bQ, 1, none⟩ = some (.int .i64 (v : Int)) := blk_cell kQ 1
  have cQ2 : w12.cell? ⟨bQ, 2, none⟩ = some (.slice a1 M c1) := blk_cell kQ 2
  have hlZ : bZ < w12.heap.size := blk_lt kZ
  have cZ0 : w12.cell? ⟨bZ, 0, none⟩ = some (.int .u8 0) := blk_cell kZ 0
  have cZ1 : w12.cell? ⟨bZ, 1, none⟩ = some (.int .u8 0) := blk_cell kZ 1
  have cZ2 : w12.cell? ⟨bZ, 2, none⟩ = some (.int .u8 0) := blk_cell kZ 2
  have cZ3 : w12.cell? ⟨bZ, 3, none⟩ = some (.int .u8 0) := blk_cell kZ 3
  go_wp2_with fail
  clear cq0 cq1 cq2 cq3 cp0 cp1 cp2 cQ0 cQ1 cQ2 cZ0 cZ1 cZ2 cZ3 hlq hlp hlQ hlZ
  refine (unhide HCo w12 (unhide HSe)).mono ?_
  rintro e w13 ⟨rfl, hbN⟩
  have hsz := hbN.size
  have kq := blk_below kq hbN (blk_lt kq)
  have kp := blk_below kp hbN (blk_lt kp)
  have kQ := blk_below kQ hbN (blk_lt kQ)
  have kZ := blk_below kZ hbN (blk_lt kZ)
  have HXp := hide ((unhide HXp).below hbN)
  have HX5 := hide ((unhide HX5).below hbN)
  have HSe := hide ((unhide HSe).below hbN)
  have HB := hide ((unhide HB).trans (hbN.mono (by omega)))
  have hs : B + 2 ≤ w13.heap.size := by omega
  clear hbN hsz
  have hlq : B < w13.heap.size := blk_lt kq
  have cq0 : w13.cell? ⟨B, 0, none⟩ = some (.int .u8 (q.r.toNat : Int)) := blk_cell kq 0
  have cq1 : w13.cell? ⟨B, 1, none⟩ = some (.int .u8 (q.g.toNat : Int)) := blk_cell kq 1
  have cq2 : w13.cell? ⟨B, 2, none⟩ = some (.int .u8 (q.b.toNat : Int)) := blk_cell kq 2
  have cq3 : w13.cell? ⟨B, 3, none⟩ = some (.int .u8 (q.a.toNat : Int)) := blk_cell kq 3
  have hlp : B + 1 < w13.heap.size := blk_lt kp
  have cp0 : w13.cell? ⟨B + 1, 0, none⟩ = some (.int .i64 (W : Int)) := blk_cell kp 0
  have cp1 : w13.cell? ⟨B + 1, 1, none⟩ = some (.int .i64 (H : Int)) := blk_cell kp 1
  have cp2 : w13.cell? ⟨B + 1, 2, none⟩ = some (.slice a n c) := blk_cell kp 2
  have hlQ : bQ < w13.heap.size := blk_lt kQ
  have cQ0 : w13.cell? ⟨bQ, 0, none⟩ = some (.int .i64 (u : Int)) := blk_cell kQ 0
  have cQ1 : w13.cell? ⟨bQ, 1, none⟩ = some (.int .i64 (v : Int)) := blk_cell kQ 1
  have cQ2 : w13.cell? ⟨bQ, 2, none⟩ = some (.slice a1 M c1) := blk_cell kQ 2
  have hlZ : bZ < w13.heap.size := blk_lt kZ
  have cZ0 : w13.cell? ⟨bZ, 0, none⟩ = some (.int .u8 0) := blk_cell kZ 0
  have cZ1 : w13.cell? ⟨bZ, 1, none⟩ = some (.int .u8 0) := blk_cell kZ 1
  have cZ2 : w13.cell? ⟨bZ, 2, none⟩ = some (.int .u8 0) := blk_cell kZ 2
  have cZ3 : w13.cell? ⟨bZ, 3, none⟩ = some (.int .u8 0) := blk_cell kZ 3
  go_wp2
  clear cq0 cq1 cq2 cq3 cp0 cp1 cp2 cQ0 cQ1 cQ2 cZ0 cZ1 cZ2 cZ3 hlq hlp hlQ hlZ
  go_ret
  exact ⟨rfl, by rw [← unhide HBE]; exact unhide HB⟩
set_option maxHeartbeats 4000000 in
set_option maxRecDepth 100000 in
theorem rasterNew_ok_ok (u v : Nat) (q : Px) (W H : Nat) (a : Option Addr) (n c : Nat) (p : Nat → Px) (x y : Nat) (w : World) (A : Nat → Addr) (hS : Sent w A) (hP : IsPx w a n p) (hn3 : n ≤ 3000) (hu0 : 1 ≤ u) (hu : u ≤ 256) (hv0 : 1 ≤ v) (hv : v ≤ 256) (hW0 : 1 ≤ W) (hW : W ≤ 256) (hH0 : 1 ≤ H) (hH : H ≤ 256) (hn : n = W * H) (hx : x < W) (hy : y < H) :
    Calls Tryd.prog 3 #[.int .i64 (u : Int), .int .i64 (v : Int), q.val, .agg #[.int .i64 (W : Int), .int .i64 (H : Int), .slice a n c], .int .i64 (x : Int), .int .i64 (y : Int)] w fun e w' => e = .returned (.bool true) ∧ Below w.heap.size w w' := by
  have HPL := hide plainly_any
  have HSM := hide (fun w => small_any (W : Int) (H : Int) a n c w)
  rw [decide_eq_true hn3] at HSM
  have HU := hide (fun w => side_any (u : Int) w)
  have HV := hide (fun w => side_any (v : Int) w)
  have HRT := hide (fun w => pright_any (W : Int) (H : Int) a n c w)
  have HIN := hide (fun w => inP_any (W : Int) (H : Int) (x : Int) (y : Int) a n c w)
  have HO := hide (fun w (h : IsPx w a n p) => own_isPx (W : Int) (H : Int) a n c p w h (by omega))
  have HX := hide hP
  have HS0 := hide hS
  rw [decide_eq_true (show (1 : Int) ≤ u ∧ (u : Int) ≤ 256 by omega)] at HU
  rw [decide_eq_true (show (1 : Int) ≤ v ∧ (v : Int) ≤ 256 by omega)] at HV
  have HN := hide (fun w => new_ok u v q w hu0 hu hv0 hv)
  have HBl := hide (fun w => blankP_any u v q w hu hv)
  have hM3 : u * v ≤ 100000 := Nat.le_trans (Nat.mul_le_mul hu hv) (by omega)
  have HTo := hide (fun w a b c d (h1 : IsPx w a (u * v) (grid u fun _ _ => q)) (h2 : IsPx w b (u * v) (fun _ => q)) => told_ok u v a b (u * v) c d (fun _ => q) w h1 h2 hM3)
  rw [decide_eq_true (rightN hW0 hW hH0 hH hn)] at HRT
  rw [decide_eq_true (show (0 : Int) ≤ x ∧ (0 : Int) ≤ y ∧ (x : Int) < W ∧ (y : Int) < H by omega)] at HIN
  have HAt := hide (fun w a c (h : IsPx w a n p) => rAt_ok W H a n c x y p w hW0 hW hH0 hH hn h hx hy)
  have hlt : y * W + x < n := by rw [hn]; exact place_lt hx hy
  have hyW : y * W ≤ 65536 := Nat.mul_le_mul (show y ≤ 256 by omega) hW
  obtain ⟨t, ht⟩ : ∃ t, t = y * W := ⟨_, rfl⟩
  have zt : (y : Int) * (W : Int) = (t : Int) := by rw [ht]; simp
  rw [← ht] at hlt hyW HAt
  have wt : IntKind.i64.wrap (t : Int) = (t : Int) := by rw [IntKind.wrap_i64]; omega
  obtain ⟨k, hk⟩ : ∃ k, k = t + x := ⟨_, rfl⟩
  have e0 : (t : Int) + (x : Int) = (k : Int) := by rw [hk]; simp
  rw [← hk] at hlt HAt
  have wk : IntKind.i64.wrap (k : Int) = (k : Int) := by rw [IntKind.wrap_i64]; omega
  have hkn : (k : Int) < (n : Int) := by omega
  clear hk ht hx hy
  clear hn3 hP hS hu0 hu hv0 hv hW0 hW hH0 hH hn
  unfold Px.val at *
  obtain ⟨M, hM⟩ : ∃ M, M = u * v := ⟨_, rfl⟩
  rw [← hM] at HN HBl HTo hM3
  clear hM
  have HA := hide (al2 w (.cells #[.int .u8 (q.r.toNat : Int), .int .u8 (q.g.toNat : Int), .int .u8 (q.b.toNat : Int), .int .u8 (q.a.toNat : Int)] 23) (.cells #[.int .i64 (W : Int), .int .i64 (H : Int), .slice a n c] 26))
  obtain ⟨B, hB⟩ : ∃ B, B = w.heap.size := ⟨_, rfl⟩
  go_enter Tryd.func3, Tryd.ntmps3
  go_wp2_with fail
  generalize ((w.alloc (.cells #[.int .u8 (q.r.toNat : Int), .int .u8 (q.g.toNat : Int), .int .u8 (q.b.toNat : Int), .int .u8 (q.a.toNat : Int)] 23)).alloc (.cells #[.int .i64 (W : Int), .int .i64 (H : Int), .slice a n c] 26)) = w1 at *
  rw [← hB] at HA ⊢
  obtain ⟨hs1, kq, kp, hb1⟩ := unhide HA
  have HBE := hide hB
  clear HA hB
  have hs : B + 2 ≤ w1.heap.size := by omega
  have HB := hide hb1
  clear hs1 hb1
  have HXp := hide ((unhide HX).under (unhide HB) (fun x hx h0 => by rw [unhide HBE]; exact (unhide HX).lt x hx h0))
  have HSe := hide ((unhide HS0).below (by rw [← unhide HBE]; exact unhide HB))
  clear HX HS0
  refine (unhide HPL _).mono ?_
  rintro e w2 ⟨rfl, hbN⟩
  have hsz := hbN.size
  have kq := blk_below kq hbN (blk_lt kq)
  have kp := blk_below kp hbN (blk_lt kp)
  have HXp := hide ((unhide HXp).below hbN)
  have HSe := hide ((unhide HSe).below hbN)
  have HB := hide ((unhide HB).trans (hbN.mono (by omega)))
  have hs : B + 2 ≤ w2.heap.size := by omega
  clear hbN hsz
  have hlq : B < w2.heap.size := blk_lt kq
  have cq0 : w2.cell? ⟨B, 0, none⟩ = some (.int .u8 (q.r.toNat : Int)) := blk_cell kq 0
  have cq1 : w2.cell? ⟨B, 1, none⟩ = some (.int .u8 (q.g.toNat : Int)) := blk_cell kq 1
  have cq2 : w2.cell? ⟨B, 2, none⟩ = some (.int .u8 (q.b.toNat : Int)) := blk_cell kq 2
  have cq3 : w2.cell? ⟨B, 3, none⟩ = some (.int .u8 (q.a.toNat : Int)) := blk_cell kq 3
  have hlp : B + 1 < w2.heap.size := blk_lt kp
  have cp0 : w2.cell? ⟨B + 1, 0, none⟩ = some (.int .i64 (W : Int)) := blk_cell kp 0
  have cp1 : w2.cell? ⟨B + 1, 1, none⟩ = some (.int .i64 (H : Int)) := blk_cell kp 1
  have cp2 : w2.cell? ⟨B + 1, 2, none⟩ = some (.slice a n c) := blk_cell kp 2
  go_wp2_with fail
  clear cq0 cq1 cq2 cq3 cp0 cp1 cp2 hlq hlp
  refine (unhide HSM _).mono ?_
  rintro e w3 ⟨rfl, hbN⟩
  have hsz := hbN.size
  have kq := blk_below kq hbN (blk_lt kq)
  have kp := blk_below kp hbN (blk_lt kp)
  have HXp := hide ((unhide HXp).below hbN)
  have HSe := hide ((unhide HSe).below hbN)
  have HB := hide ((unhide HB).trans (hbN.mono (by omega)))
  have hs : B + 2 ≤ w3.heap.size := by omega
  clear hbN hsz
  have hlq : B < w3.heap.size := blk_lt kq
  have cq0 : w3.cell? ⟨B, 0, none⟩ = some (.int .u8 (q.r.toNat : Int)) := blk_cell kq 0
  have cq1 : w3.cell? ⟨B, 1, none⟩ = some (.int .u8 (q.g.toNat : Int)) := blk_cell kq 1
  have cq2 : w3.cell? ⟨B, 2, none⟩ = some (.int .u8 (q.b.toNat : Int)) := blk_cell kq 2
  have cq3 : w3.cell? ⟨B, 3, none⟩ = some (.int .u8 (q.a.toNat : Int)) := blk_cell kq 3
  have hlp : B + 1 < w3.heap.size := blk_lt kp
  have cp0 : w3.cell? ⟨B + 1, 0, none⟩ = some (.int .i64 (W : Int)) := blk_cell kp 0
  have cp1 : w3.cell? ⟨B + 1, 1, none⟩ = some (.int .i64 (H : Int)) := blk_cell kp 1
  have cp2 : w3.cell? ⟨B + 1, 2, none⟩ = some (.slice a n c) := blk_cell kp 2
  go_wp2_with fail
  clear cq0 cq1 cq2 cq3 cp0 cp1 cp2 hlq hlp
  refine (unhide HN w3).mono ?_
  rintro e w4 ⟨a1, c1, rfl, hpx, hbN⟩
  have hsz := hbN.size
  have kq := blk_below kq hbN (blk_lt kq)
  have kp := blk_below kp hbN (blk_lt kp)
  have HXp := hide ((unhide HXp).below hbN)
  have HSe := hide ((unhide HSe).below hbN)
  have HB := hide ((unhide HB).trans (hbN.mono (by omega)))
  have hs : B + 2 ≤ w4.heap.size := by omega
  clear hbN hsz
  have HX1 := hide hpx
  clear hpx
  have hlq : B < w4.heap.size := blk_lt kq
  have cq0 : w4.cell? ⟨B, 0, none⟩ = some (.int .u8 (q.r.toNat : Int)) := blk_cell kq 0
  have cq1 : w4.cell? ⟨B, 1, none⟩ = some (.int .u8 (q.g.toNat : Int)) := blk_cell kq 1
  have cq2 : w4.cell? ⟨B, 2, none⟩ = some (.int .u8 (q.b.toNat : Int)) := blk_cell kq 2
  have cq3 : w4.cell? ⟨B, 3, none⟩ = some (.int .u8 (q.a.toNat : Int)) := blk_cell kq 3
  have hlp : B + 1 < w4.heap.size := blk_lt kp
  have cp0 : w4.cell? ⟨B + 1, 0, none⟩ = some (.int .i64 (W : Int)) := blk_cell kp 0
  have cp1 : w4.cell? ⟨B + 1, 1, none⟩ = some (.int .i64 (H : Int)) := blk_cell kp 1
  have cp2 : w4.cell? ⟨B + 1, 2, none⟩ = some (.slice a n c) := blk_cell kp 2
  have HA := hide (al1 w4 (.cells #[.int .i64 (u : Int), .int .i64 (v : Int), .slice a1 M c1] 26))
  obtain ⟨bQ, heqQ⟩ : ∃ b, b = w4.heap.size := ⟨_, rfl⟩
  go_wp2_with fail
  clear cq0 cq1 cq2 cq3 cp0 cp1 cp2 hlq hlp
  generalize w4.alloc (.cells #[.int .i64 (u : Int), .int .i64 (v : Int), .slice a1 M c1] 26) = w5 at *
  rw [← heqQ] at HA ⊢
  obtain ⟨hsA, kQ, hbA⟩ := unhide HA
  rw [heqQ] at hbA
  have ltQq : B < bQ := by rw [heqQ]; exact blk_lt kq
  have ltQp : B + 1 < bQ := by rw [heqQ]; exact blk_lt kp
  have hgB : B ≤ bQ := by rw [heqQ]; omega
  clear HA
  have hsz := hbA.size
  have kq := blk_below kq hbA (blk_lt kq)
  have kp := blk_below kp hbA (blk_lt kp)
  have HXp := hide ((unhide HXp).below hbA)
  have HX1 := hide ((unhide HX1).below hbA)
  have HSe := hide ((unhide HSe).below hbA)
  have HB := hide ((unhide HB).trans (hbA.mono (by omega)))
  have hs : B + 2 ≤ w5.heap.size := by omega
  clear hbA hsz
  clear heqQ hsA
  refine (unhide HU _).mono ?_
  rintro e w5 ⟨rfl, rfl⟩
  have hlq : B < w5.heap.size := blk_lt kq
  have cq0 : w5.cell? ⟨B, 0, none⟩ = some (.int .u8 (q.r.toNat : Int)) := blk_cell kq 0
  have cq1 : w5.cell? ⟨B, 1, none⟩ = some (.int .u8 (q.g.toNat : Int)) := blk_cell kq 1
  have cq2 : w5.cell? ⟨B, 2, none⟩ = some (.int .u8 (q.b.toNat : Int)) := blk_cell kq 2
  have cq3 : w5.cell? ⟨B, 3, none⟩ = some (.int .u8 (q.a.toNat : Int)) := blk_cell kq 3
  have hlp : B + 1 < w5.heap.size := blk_lt kp
  have cp0 : w5.cell? ⟨B + 1, 0, none⟩ = some (.int .i64 (W : Int)) := blk_cell kp 0
  have cp1 : w5.cell? ⟨B + 1, 1, none⟩ = some (.int .i64 (H : Int)) := blk_cell kp 1
  have cp2 : w5.cell? ⟨B + 1, 2, none⟩ = some (.slice a n c) := blk_cell kp 2
  have hlQ : bQ < w5.heap.size := blk_lt kQ
  have cQ0 : w5.cell? ⟨bQ, 0, none⟩ = some (.int .i64 (u : Int)) := blk_cell kQ 0
  have cQ1 : w5.cell? ⟨bQ, 1, none⟩ = some (.int .i64 (v : Int)) := blk_cell kQ 1
  have cQ2 : w5.cell? ⟨bQ, 2, none⟩ = some (.slice a1 M c1) := blk_cell kQ 2
  go_wp2_with fail
  clear cq0 cq1 cq2 cq3 cp0 cp1 cp2 cQ0 cQ1 cQ2 hlq hlp hlQ
  refine (unhide HV _).mono ?_
  rintro e w5 ⟨rfl, rfl⟩
  have hlq : B < w5.heap.size := blk_lt kq
  have cq0 : w5.cell? ⟨B, 0, none⟩ = some (.int .u8 (q.r.toNat : Int)) := blk_cell kq 0
  have cq1 : w5.cell? ⟨B, 1, none⟩ = some (.int .u8 (q.g.toNat : Int)) := blk_cell kq 1
  have cq2 : w5.cell? ⟨B, 2, none⟩ = some (.int .u8 (q.b.toNat : Int)) := blk_cell kq 2
  have cq3 : w5.cell? ⟨B, 3, none⟩ = some (.int .u8 (q.a.toNat : Int)) := blk_cell kq 3
  have hlp : B + 1 < w5.heap.size := blk_lt kp
  have cp0 : w5.cell? ⟨B + 1, 0, none⟩ = some (.int .i64 (W : Int)) := blk_cell kp 0
  have cp1 : w5.cell? ⟨B + 1, 1, none⟩ = some (.int .i64 (H : Int)) := blk_cell kp 1
  have cp2 : w5.cell? ⟨B + 1, 2, none⟩ = some (.slice a n c) := blk_cell kp 2
  have hlQ : bQ < w5.heap.size := blk_lt kQ
  have cQ0 : w5.cell? ⟨bQ, 0, none⟩ = some (.int .i64 (u : Int)) := blk_cell kQ 0
  have cQ1 : w5.cell? ⟨bQ, 1, none⟩ = some (.int .i64 (v : Int)) := blk_cell kQ 1
  have cQ2 : w5.cell? ⟨bQ, 2, none⟩ = some (.slice a1 M c1) := blk_cell kQ 2
  go_wp2
  clear cq0 cq1 cq2 cq3 cp0 cp1 cp2 cQ0 cQ1 cQ2 hlq hlp hlQ
  have hlq : B < w5.heap.size := blk_lt kq
  have cq0 : w5.cell? ⟨B, 0, none⟩ = some (.int .u8 (q.r.toNat : Int)) := blk_cell kq 0
  have cq1 : w5.cell? ⟨B, 1, none⟩ = some (.int .u8 (q.g.toNat : Int)) := blk_cell kq 1
  have cq2 : w5.cell? ⟨B, 2, none⟩ = some (.int .u8 (q.b.toNat : Int)) := blk_cell kq 2
  have cq3 : w5.cell? ⟨B, 3, none⟩ = some (.int .u8 (q.a.toNat : Int)) := blk_cell kq 3
  have hlp : B + 1 < w5.heap.size := blk_lt kp
  have cp0 : w5.cell? ⟨B + 1, 0, none⟩ = some (.int .i64 (W : Int)) := blk_cell kp 0
  have cp1 : w5.cell? ⟨B + 1, 1, none⟩ = some (.int .i64 (H : Int)) := blk_cell kp 1
  have cp2 : w5.cell? ⟨B + 1, 2, none⟩ = some (.slice a n c) := blk_cell kp 2
  have hlQ : bQ < w5.heap.size := blk_lt kQ
  have cQ0 : w5.cell? ⟨bQ, 0, none⟩ = some (.int .i64 (u : Int)) := blk_cell kQ 0
  have cQ1 : w5.cell? ⟨bQ, 1, none⟩ = some (.int .i64 (v : Int)) := blk_cell kQ 1
  have cQ2 : w5.cell? ⟨bQ, 2, none⟩ = some (.slice a1 M c1) := blk_cell kQ 2
  have hdr := (Below.refl w5.heap.size w5).drew
  go_region_held (fun w' => w'.cell? ⟨bQ, 0, none⟩ = some (.int .i64 (u : Int)) ∧ w'.cell? ⟨bQ, 1, none⟩ = some (.int .i64 (v : Int)) ∧ w'.cell? ⟨bQ, 2, none⟩ = some (.slice a1 M c1) ∧ w'.cell? ⟨B, 0, none⟩ = some (.int .u8 (q.r.toNat : Int)) ∧ w'.cell? ⟨B, 1, none⟩ = some (.int .u8 (q.g.toNat : Int)) ∧ w'.cell? ⟨B, 2, none⟩ = some (.int .u8 (q.b.toNat : Int)) ∧ w'.cell? ⟨B, 3, none⟩ = some (.int .u8 (q.a.toNat : Int))) (first | (go_keep; done) | exact ⟨(hkw6 (bQ) 0 (by omega)).trans cQ0, (hkw6 (bQ) 1 (by omega)).trans cQ1, (hkw6 (bQ) 2 (by omega)).trans cQ2, (hkw6 (B) 0 (by omega)).trans cq0, (hkw6 (B) 1 (by omega)).trans cq1, (hkw6 (B) 2 (by omega)).trans cq2, (hkw6 (B) 3 (by omega)).trans cq3⟩ | exact ⟨(hkw7 (bQ) 0 (by omega)).trans cQ0, (hkw7 (bQ) 1 (by omega)).trans cQ1, (hkw7 (bQ) 2 (by omega)).trans cQ2, (hkw7 (B) 0 (by omega)).trans cq0, (hkw7 (B) 1 (by omega)).trans cq1, (hkw7 (B) 2 (by omega)).trans cq2, (hkw7 (B) 3 (by omega)).trans cq3⟩) (first | (go_at_call 14; refine (unhide HBl w5.drew).mono ?_; rintro e w6 ⟨g, cg, rfl, hg, hpr, hbw6⟩; have hqw6 := hdr.trans (hbw6.mono (by exact Nat.le_refl _)); have hkw6 := fun (k o : Nat) (h : k < w5.heap.size) => hqw6.cell (p := ⟨k, o, none⟩) h) | (go_at_call 13; refine (unhide HTo w6 _ _ _ _ ((unhide HX1).below hqw6) (hpr.isPx hM3)).mono ?_; rintro e w7 ⟨rfl, hbw7⟩; have hqw7 := hqw6.trans (hbw7.mono (by exact hqw6.size)); have hkw7 := fun (k o : Nat) (h : k < w5.heap.size) => hqw7.cell (p := ⟨k, o, none⟩) h))
  clear cq0 cq1 cq2 cq3 cp0 cp1 cp2 cQ0 cQ1 cQ2 hlq hlp hlQ
  have hbN := hqw7
  have hsz := hbN.size
  have kq := blk_below kq hbN (blk_lt kq)
  have kp := blk_below kp hbN (blk_lt kp)
  have kQ := blk_below kQ hbN (blk_lt kQ)
  have HXp := hide ((unhide HXp).below hbN)
  have HX1 := hide ((unhide HX1).below hbN)
  have HSe := hide ((unhide HSe).below hbN)
  have HB := hide ((unhide HB).trans (hbN.mono (by omega)))
  have hs : B + 2 ≤ w7.heap.size := by omega
  clear hbN hsz
  clear hpr hg
  clear HX1
  have hlq : B < w7.heap.size := blk_lt kq
  have cq0 : w7.cell? ⟨B, 0, none⟩ = some (.int .u8 (q.r.toNat : Int)) := blk_cell kq 0
  have cq1 : w7.cell? ⟨B, 1, none⟩ = some (.int .u8 (q.g.toNat : Int)) := blk_cell kq 1
  have cq2 : w7.cell? ⟨B, 2, none⟩ = some (.int .u8 (q.b.toNat : Int)) := blk_cell kq 2
  have cq3 : w7.cell? ⟨B, 3, none⟩ = some (.int .u8 (q.a.toNat : Int)) := blk_cell kq 3
  have hlp : B + 1 < w7.heap.size := blk_lt kp
  have cp0 : w7.cell? ⟨B + 1, 0, none⟩ = some (.int .i64 (W : Int)) := blk_cell kp 0
  have cp1 : w7.cell? ⟨B + 1, 1, none⟩ = some (.int .i64 (H : Int)) := blk_cell kp 1
  have cp2 : w7.cell? ⟨B + 1, 2, none⟩ = some (.slice a n c) := blk_cell kp 2
  have hlQ : bQ < w7.heap.size := blk_lt kQ
  have cQ0 : w7.cell? ⟨bQ, 0, none⟩ = some (.int .i64 (u : Int)) := blk_cell kQ 0
  have cQ1 : w7.cell? ⟨bQ, 1, none⟩ = some (.int .i64 (v : Int)) := blk_cell kQ 1
  have cQ2 : w7.cell? ⟨bQ, 2, none⟩ = some (.slice a1 M c1) := blk_cell kQ 2
  go_wp2_with fail
  clear cq0 cq1 cq2 cq3 cp0 cp1 cp2 cQ0 cQ1 cQ2 hlq hlp hlQ
  refine (unhide HO w7 (unhide HXp)).mono ?_
  rintro e w8 ⟨a5, c5, rfl, hpx, hbN⟩
  have hsz := hbN.size
  have kq := blk_below kq hbN (blk_lt kq)
  have kp := blk_below kp hbN (blk_lt kp)
  have kQ := blk_below kQ hbN (blk_lt kQ)
  have HXp := hide ((unhide HXp).below hbN)
  have HSe := hide ((unhide HSe).below hbN)
  have HB := hide ((unhide HB).trans (hbN.mono (by omega)))
  have hs : B + 2 ≤ w8.heap.size := by omega
  clear hbN hsz
  have HX5 := hide hpx
  clear hpx
  have hlq : B < w8.heap.size := blk_lt kq
  have cq0 : w8.cell? ⟨B, 0, none⟩ = some (.int .u8 (q.r.toNat : Int)) := blk_cell kq 0
  have cq1 : w8.cell? ⟨B, 1, none⟩ = some (.int .u8 (q.g.toNat : Int)) := blk_cell kq 1
  have cq2 : w8.cell? ⟨B, 2, none⟩ = some (.int .u8 (q.b.toNat : Int)) := blk_cell kq 2
  have cq3 : w8.cell? ⟨B, 3, none⟩ = some (.int .u8 (q.a.toNat : Int)) := blk_cell kq 3
  have hlp : B + 1 < w8.heap.size := blk_lt kp
  have cp0 : w8.cell? ⟨B + 1, 0, none⟩ = some (.int .i64 (W : Int)) := blk_cell kp 0
  have cp1 : w8.cell? ⟨B + 1, 1, none⟩ = some (.int .i64 (H : Int)) := blk_cell kp 1
  have cp2 : w8.cell? ⟨B + 1, 2, none⟩ = some (.slice a n c) := blk_cell kp 2
  have hlQ : bQ < w8.heap.size := blk_lt kQ
  have cQ0 : w8.cell? ⟨bQ, 0, none⟩ = some (.int .i64 (u : Int)) := blk_cell kQ 0
  have cQ1 : w8.cell? ⟨bQ, 1, none⟩ = some (.int .i64 (v : Int)) := blk_cell kQ 1
  have cQ2 : w8.cell? ⟨bQ, 2, none⟩ = some (.slice a1 M c1) := blk_cell kQ 2
  go_wp2_with fail
  clear cq0 cq1 cq2 cq3 cp0 cp1 cp2 cQ0 cQ1 cQ2 hlq hlp hlQ
  refine (unhide HAt w8 _ _ (unhide HX5)).mono ?_
  rintro e w9 ⟨rfl, hbN⟩
  have hsz := hbN.size
  have kq := blk_below kq hbN (blk_lt kq)
  have kp := blk_below kp hbN (blk_lt kp)
  have kQ := blk_below kQ hbN (blk_lt kQ)
  have HXp := hide ((unhide HXp).below hbN)
  have HX5 := hide ((unhide HX5).below hbN)
  have HSe := hide ((unhide HSe).below hbN)
  have HB := hide ((unhide HB).trans (hbN.mono (by omega)))
  have hs : B + 2 ≤ w9.heap.size := by omega
  clear hbN hsz
  generalize hqk : p k = qk at *
  have hlq : B < w9.heap.size := blk_lt kq
  have cq0 : w9.cell? ⟨B, 0, none⟩ = some (.int .u8 (q.r.toNat : Int)) := blk_cell kq 0
  have cq1 : w9.cell? ⟨B, 1, none⟩ = some (.int .u8 (q.g.toNat : Int)) := blk_cell kq 1
  have cq2 : w9.cell? ⟨B, 2, none⟩ = some (.int .u8 (q.b.toNat : Int)) := blk_cell kq 2
  have cq3 : w9.cell? ⟨B, 3, none⟩ = some (.int .u8 (q.a.toNat : Int)) := blk_cell kq 3
  have hlp : B + 1 < w9.heap.size := blk_lt kp
  have cp0 : w9.cell? ⟨B + 1, 0, none⟩ = some (.int .i64 (W : Int)) := blk_cell kp 0
  have cp1 : w9.cell? ⟨B + 1, 1, none⟩ = some (.int .i64 (H : Int)) := blk_cell kp 1
  have cp2 : w9.cell? ⟨B + 1, 2, none⟩ = some (.slice a n c) := blk_cell kp 2
  have hlQ : bQ < w9.heap.size := blk_lt kQ
  have cQ0 : w9.cell? ⟨bQ, 0, none⟩ = some (.int .i64 (u : Int)) := blk_cell kQ 0
  have cQ1 : w9.cell? ⟨bQ, 1, none⟩ = some (.int .i64 (v : Int)) := blk_cell kQ 1
  have cQ2 : w9.cell? ⟨bQ, 2, none⟩ = some (.slice a1 M c1) := blk_cell kQ 2
  have HA := hide (al1 w9 (.cells #[.int .u8 (qk.r.toNat : Int), .int .u8 (qk.g.toNat : Int), .int .u8 (qk.b.toNat : Int), .int .u8 (qk.a.toNat : Int)] 23))
  obtain ⟨bZ, heqZ⟩ : ∃ b, b = w9.heap.size := ⟨_, rfl⟩
  go_wp2_with fail
  clear cq0 cq1 cq2 cq3 cp0 cp1 cp2 cQ0 cQ1 cQ2 hlq hlp hlQ
  generalize w9.alloc (.cells #[.int .u8 (qk.r.toNat : Int), .int .u8 (qk.g.toNat : Int), .int .u8 (qk.b.toNat : Int), .int .u8 (qk.a.toNat : Int)] 23) = w10 at *
  rw [← heqZ] at HA ⊢
  obtain ⟨hsA, kZ, hbA⟩ := unhide HA
  rw [heqZ] at hbA
  have ltZq : B < bZ := by rw [heqZ]; exact blk_lt kq
  have ltZp : B + 1 < bZ := by rw [heqZ]; exact blk_lt kp
  have ltZQ : bQ < bZ := by rw [heqZ]; exact blk_lt kQ
  have hgB : B ≤ bZ := by rw [heqZ]; omega
  clear HA
  have hsz := hbA.size
  have kq := blk_below kq hbA (blk_lt kq)
  have kp := blk_below kp hbA (blk_lt kp)
  have kQ := blk_below kQ hbA (blk_lt kQ)
  have HXp := hide ((unhide HXp).below hbA)
  have HX5 := hide ((unhide HX5).below hbA)
  have HSe := hide ((unhide HSe).below hbA)
  have HB := hide ((unhide HB).trans (hbA.mono (by omega)))
  have hs : B + 2 ≤ w10.heap.size := by omega
  clear hbA hsz
  clear heqZ hsA
  refine (unhide HIN _).mono ?_
  rintro e w11 ⟨rfl, hbN⟩
  have hsz := hbN.size
  have kq := blk_below kq hbN (blk_lt kq)
  have kp := blk_below kp hbN (blk_lt kp)
  have kQ := blk_below kQ hbN (blk_lt kQ)
  have kZ := blk_below kZ hbN (blk_lt kZ)
  have HXp := hide ((unhide HXp).below hbN)
  have HX5 := hide ((unhide HX5).below hbN)
  have HSe := hide ((unhide HSe).below hbN)
  have HB := hide ((unhide HB).trans (hbN.mono (by omega)))
  have hs : B + 2 ≤ w11.heap.size := by omega
  clear hbN hsz
  have hlq : B < w11.heap.size := blk_lt kq
  have cq0 : w11.cell? ⟨B, 0, none⟩ = some (.int .u8 (q.r.toNat : Int)) := blk_cell kq 0
  have cq1 : w11.cell? ⟨B, 1, none⟩ = some (.int .u8 (q.g.toNat : Int)) := blk_cell kq 1
  have cq2 : w11.cell? ⟨B, 2, none⟩ = some (.int .u8 (q.b.toNat : Int)) := blk_cell kq 2
  have cq3 : w11.cell? ⟨B, 3, none⟩ = some (.int .u8 (q.a.toNat : Int)) := blk_cell kq 3
  have hlp : B + 1 < w11.heap.size := blk_lt kp
  have cp0 : w11.cell? ⟨B + 1, 0, none⟩ = some (.int .i64 (W : Int)) := blk_cell kp 0
  have cp1 : w11.cell? ⟨B + 1, 1, none⟩ = some (.int .i64 (H : Int)) := blk_cell kp 1
  have cp2 : w11.cell? ⟨B + 1, 2, none⟩ = some (.slice a n c) := blk_cell kp 2
  have hlQ : bQ < w11.heap.size := blk_lt kQ
  have cQ0 : w11.cell? ⟨bQ, 0, none⟩ = some (.int .i64 (u : Int)) := blk_cell kQ 0
  have cQ1 : w11.cell? ⟨bQ, 1, none⟩ = some (.int .i64 (v : Int)) := blk_cell kQ 1
  have cQ2 : w11.cell? ⟨bQ, 2, none⟩ = some (.slice a1 M c1) := blk_cell kQ 2
  have hlZ : bZ < w11.heap.size := blk_lt kZ
  have cZ0 : w11.cell? ⟨bZ, 0, none⟩ = some (.int .u8 (qk.r.toNat : Int)) := blk_cell kZ 0
  have cZ1 : w11.cell? ⟨bZ, 1, none⟩ = some (.int .u8 (qk.g.toNat : Int)) := blk_cell kZ 1
  have cZ2 : w11.cell? ⟨bZ, 2, none⟩ = some (.int .u8 (qk.b.toNat : Int)) := blk_cell kZ 2
  have cZ3 : w11.cell? ⟨bZ, 3, none⟩ = some (.int .u8 (qk.a.toNat : Int)) := blk_cell kZ 3
  go_wp2_with fail
  clear cq0 cq1 cq2 cq3 cp0 cp1 cp2 cQ0 cQ1 cQ2 cZ0 cZ1 cZ2 cZ3 hlq hlp hlQ hlZ
  refine (unhide HRT _).mono ?_
  rintro e w12 ⟨rfl, hbN⟩
  have hsz := hbN.size
  have kq := blk_below kq hbN (blk_lt kq)
  have kp := blk_below kp hbN (blk_lt kp)
  have kQ := blk_below kQ hbN (blk_lt kQ)
  have kZ := blk_below kZ hbN (blk_lt kZ)
  have HXp := hide ((unhide HXp).below hbN)
  have HX5 := hide ((unhide HX5).below hbN)
  have HSe := hide ((unhide HSe).below hbN)
  have HB := hide ((unhide HB).trans (hbN.mono (by omega)))
  have hs : B + 2 ≤ w12.heap.size := by omega
  clear hbN hsz
  have hlq : B < w12.heap.size := blk_lt kq
  have cq0 : w12.cell? ⟨B, 0, none⟩ = some (.int .u8 (q.r.toNat : Int)) := blk_cell kq 0
  have cq1 : w12.cell? ⟨B, 1, none⟩ = some (.int .u8 (q.g.toNat : Int)) := blk_cell kq 1
  have cq2 : w12.cell? ⟨B, 2, none⟩ = some (.int .u8 (q.b.toNat : Int)) := blk_cell kq 2
  have cq3 : w12.cell? ⟨B, 3, none⟩ = some (.int .u8 (q.a.toNat : Int)) := blk_cell kq 3
  have hlp : B + 1 < w12.heap.size := blk_lt kp
  have cp0 : w12.cell? ⟨B + 1, 0, none⟩ = some (.int .i64 (W : Int)) := blk_cell kp 0
  have cp1 : w12.cell? ⟨B + 1, 1, none⟩ = some (.int .i64 (H : Int)) := blk_cell kp 1
  have cp2 : w12.cell? ⟨B + 1, 2, none⟩ = some (.slice a n c) := blk_cell kp 2
  have hlQ : bQ < w12.heap.size := blk_lt kQ
  have cQ0 : w12.cell? ⟨bQ, 0, none⟩ = some (.int .i64 (u : Int)) := blk_cell kQ 0
  have cQ1 : w12.cell? ⟨bQ, 1, none⟩ = some (.int .i64 (v : Int)) := blk_cell kQ 1
  have cQ2 : w12.cell? ⟨bQ, 2, none⟩ = some (.slice a1 M c1) := blk_cell kQ 2
  have hlZ : bZ < w12.heap.size := blk_lt kZ
  have cZ0 : w12.cell? ⟨bZ, 0, none⟩ = some (.int .u8 (qk.r.toNat : Int)) := blk_cell kZ 0
  have cZ1 : w12.cell? ⟨bZ, 1, none⟩ = some (.int .u8 (qk.g.toNat : Int)) := blk_cell kZ 1
  have cZ2 : w12.cell? ⟨bZ, 2, none⟩ = some (.int .u8 (qk.b.toNat : Int)) := blk_cell kZ 2
  have cZ3 : w12.cell? ⟨bZ, 3, none⟩ = some (.int .u8 (qk.a.toNat : Int)) := blk_cell kZ 3
  obtain ⟨b, off, rfl, hm, hc⟩ := (unhide HXp).resolve_left (by omega)
  obtain ⟨t0, t1, t2, t3⟩ := hc k hlt
  rw [hqk] at t0 t1 t2 t3
  clear hc HX5 HXp hqk
  go_wp2
  go_quiet (fail)
  go_wp2
  go_ret
  exact ⟨rfl, by rw [← unhide HBE]; exact below_drewN (unhide HB) _⟩
set_option maxHeartbeats 4000000 in
set_option maxRecDepth 100000 in
theorem rasterNew_many (u v : Int) (q : Px) (W H : Int) (a : Option Addr) (n c : Nat) (p : Nat → Px) (x y : Int) (w : World) (A : Nat → Addr) (hS : Sent w A) (hP : IsPx w a n p) (hn3 : ¬ n ≤ 3000) :
    Calls Tryd.prog 3 #[.int .i64 u, .int .i64 v, q.val, .agg #[.int .i64 W, .int .i64 H, .slice a n c], .int .i64 x, .int .i64 y] w fun e w' => e = .returned (.bool true) ∧ Below w.heap.size w w' := by
  have HPL := hide plainly_any
  have HSM := hide (fun w => small_any W H a n c w)
  rw [decide_eq_false hn3] at HSM
  have HX := hide hP
  have HS0 := hide hS
  clear hn3 hP hS
  unfold Px.val
  have HA := hide (al2 w (.cells #[.int .u8 (q.r.toNat : Int), .int .u8 (q.g.toNat : Int), .int .u8 (q.b.toNat : Int), .int .u8 (q.a.toNat : Int)] 23) (.cells #[.int .i64 W, .int .i64 H, .slice a n c] 26))
  obtain ⟨B, hB⟩ : ∃ B, B = w.heap.size := ⟨_, rfl⟩
  go_enter Tryd.func3, Tryd.ntmps3
  go_wp2_with fail
  generalize ((w.alloc (.cells #[.int .u8 (q.r.toNat : Int), .int .u8 (q.g.toNat : Int), .int .u8 (q.b.toNat : Int), .int .u8 (q.a.toNat : Int)] 23)).alloc (.cells #[.int .i64 W, .int .i64 H, .slice a n c] 26)) = w1 at *
  rw [← hB] at HA ⊢
  obtain ⟨hs1, kq, kp, hb1⟩ := unhide HA
  have HBE := hide hB
  clear HA hB
  have hs : B + 2 ≤ w1.heap.size := by omega
  have HB := hide hb1
  clear hs1 hb1
  have HXp := hide ((unhide HX).under (unhide HB) (fun x hx h0 => by rw [unhide HBE]; exact (unhide HX).lt x hx h0))
  have HSe := hide ((unhide HS0).below (by rw [← unhide HBE]; exact unhide HB))
  clear HX HS0
  refine (unhide HPL _).mono ?_
  rintro e w2 ⟨rfl, hbN⟩
  have hsz := hbN.size
  have kq := blk_below kq hbN (blk_lt kq)
  have kp := blk_below kp hbN (blk_lt kp)
  have HXp := hide ((unhide HXp).below hbN)
  have HSe := hide ((unhide HSe).below hbN)
  have HB := hide ((unhide HB).trans (hbN.mono (by omega)))
  have hs : B + 2 ≤ w2.heap.size := by omega
  clear hbN hsz
  have hlq : B < w2.heap.size := blk_lt kq
  have cq0 : w2.cell? ⟨B, 0, none⟩ = some (.int .u8 (q.r.toNat : Int)) := blk_cell kq 0
  have cq1 : w2.cell? ⟨B, 1, none⟩ = some (.int .u8 (q.g.toNat : Int)) := blk_cell kq 1
  have cq2 : w2.cell? ⟨B, 2, none⟩ = some (.int .u8 (q.b.toNat : Int)) := blk_cell kq 2
  have cq3 : w2.cell? ⟨B, 3, none⟩ = some (.int .u8 (q.a.toNat : Int)) := blk_cell kq 3
  have hlp : B + 1 < w2.heap.size := blk_lt kp
  have cp0 : w2.cell? ⟨B + 1, 0, none⟩ = some (.int .i64 W) := blk_cell kp 0
  have cp1 : w2.cell? ⟨B + 1, 1, none⟩ = some (.int .i64 H) := blk_cell kp 1
  have cp2 : w2.cell? ⟨B + 1, 2, none⟩ = some (.slice a n c) := blk_cell kp 2
  go_wp2_with fail
  clear cq0 cq1 cq2 cq3 cp0 cp1 cp2 hlq hlp
  refine (unhide HSM _).mono ?_
  rintro e w3 ⟨rfl, hbN⟩
  have hsz := hbN.size
  have kq := blk_below kq hbN (blk_lt kq)
  have kp := blk_below kp hbN (blk_lt kp)
  have HXp := hide ((unhide HXp).below hbN)
  have HSe := hide ((unhide HSe).below hbN)
  have HB := hide ((unhide HB).trans (hbN.mono (by omega)))
  have hs : B + 2 ≤ w3.heap.size := by omega
  clear hbN hsz
  have hlq : B < w3.heap.size := blk_lt kq
  have cq0 : w3.cell? ⟨B, 0, none⟩ = some (.int .u8 (q.r.toNat : Int)) := blk_cell kq 0
  have cq1 : w3.cell? ⟨B, 1, none⟩ = some (.int .u8 (q.g.toNat : Int)) := blk_cell kq 1
  have cq2 : w3.cell? ⟨B, 2, none⟩ = some (.int .u8 (q.b.toNat : Int)) := blk_cell kq 2
  have cq3 : w3.cell? ⟨B, 3, none⟩ = some (.int .u8 (q.a.toNat : Int)) := blk_cell kq 3
  have hlp : B + 1 < w3.heap.size := blk_lt kp
  have cp0 : w3.cell? ⟨B + 1, 0, none⟩ = some (.int .i64 W) := blk_cell kp 0
  have cp1 : w3.cell? ⟨B + 1, 1, none⟩ = some (.int .i64 H) := blk_cell kp 1
  have cp2 : w3.cell? ⟨B + 1, 2, none⟩ = some (.slice a n c) := blk_cell kp 2
  go_wp2
  clear cq0 cq1 cq2 cq3 cp0 cp1 cp2 hlq hlp
  go_ret
  exact ⟨rfl, by rw [← unhide HBE]; exact unhide HB⟩

theorem rasterNew_any (u v : Int) (q : Px) (W H : Int) (a : Option Addr) (n c : Nat) (p : Nat → Px) (x y : Int) (w : World) (A : Nat → Addr) (hS : Sent w A) (hP : IsPx w a n p) (_bW : -9223372036854775808 ≤ W ∧ W ≤ 9223372036854775807) (_bH : -9223372036854775808 ≤ H ∧ H ≤ 9223372036854775807) :
    Calls Tryd.prog 3 #[.int .i64 u, .int .i64 v, q.val, .agg #[.int .i64 W, .int .i64 H, .slice a n c], .int .i64 x, .int .i64 y] w fun e w' => e = .returned (.bool true) ∧ Below w.heap.size w w' := by
  by_cases hn3 : n ≤ 3000
  rotate_left
  · exact rasterNew_many u v q W H a n c p x y w A hS hP hn3
  have hN : ¬ (1 ≤ u ∧ u ≤ 256) ∨ ((1 ≤ u ∧ u ≤ 256) ∧ ¬ (1 ≤ v ∧ v ≤ 256)) ∨ ((1 ≤ u ∧ u ≤ 256) ∧ (1 ≤ v ∧ v ≤ 256)) := by omega
  by_cases hR : RightP W H n
  rotate_left
  · by_cases hin : 0 ≤ x ∧ 0 ≤ y ∧ x < W ∧ y < H
    · rcases hN with hu | ⟨hu, hv⟩ | ⟨hu, hv⟩
      · exact rasterNew_bad1_shapein u v q W H a n c p x y w A hS hP hn3 hu hR hin
      · exact rasterNew_bad2_shapein u v q W H a n c p x y w A hS hP hn3 hu hv hR hin
      · obtain ⟨u, rfl⟩ := Int.eq_ofNat_of_zero_le (show 0 ≤ u by omega)
        obtain ⟨v, rfl⟩ := Int.eq_ofNat_of_zero_le (show 0 ≤ v by omega)
        exact rasterNew_ok_shapein u v q W H a n c p x y w A hS hP hn3 (by omega) (by omega) (by omega) (by omega) hR hin
    · rcases hN with hu | ⟨hu, hv⟩ | ⟨hu, hv⟩
      · exact rasterNew_bad1_shapeout u v q W H a n c p x y w A hS hP hn3 hu hR hin
      · exact rasterNew_bad2_shapeout u v q W H a n c p x y w A hS hP hn3 hu hv hR hin
      · obtain ⟨u, rfl⟩ := Int.eq_ofNat_of_zero_le (show 0 ≤ u by omega)
        obtain ⟨v, rfl⟩ := Int.eq_ofNat_of_zero_le (show 0 ≤ v by omega)
        exact rasterNew_ok_shapeout u v q W H a n c p x y w A hS hP hn3 (by omega) (by omega) (by omega) (by omega) hR hin
  obtain ⟨⟨hW0, hW⟩, ⟨hH0, hH⟩, hn⟩ := hR
  obtain ⟨W, rfl⟩ := Int.eq_ofNat_of_zero_le (show 0 ≤ W by omega)
  obtain ⟨H, rfl⟩ := Int.eq_ofNat_of_zero_le (show 0 ≤ H by omega)
  have hn : n = W * H := by exact_mod_cast hn
  by_cases hin : 0 ≤ x ∧ 0 ≤ y ∧ x < (W : Int) ∧ y < (H : Int)
  · obtain ⟨x, rfl⟩ := Int.eq_ofNat_of_zero_le (show 0 ≤ x by omega)
    obtain ⟨y, rfl⟩ := Int.eq_ofNat_of_zero_le (show 0 ≤ y by omega)
    rcases hN with hu | ⟨hu, hv⟩ | ⟨hu, hv⟩
    · exact rasterNew_bad1_ok u v q W H a n c p x y w A hS hP hn3 hu (by omega) (by omega) (by omega) (by omega) hn (by omega) (by omega)
    · exact rasterNew_bad2_ok u v q W H a n c p x y w A hS hP hn3 hu hv (by omega) (by omega) (by omega) (by omega) hn (by omega) (by omega)
    · obtain ⟨u, rfl⟩ := Int.eq_ofNat_of_zero_le (show 0 ≤ u by omega)
      obtain ⟨v, rfl⟩ := Int.eq_ofNat_of_zero_le (show 0 ≤ v by omega)
      exact rasterNew_ok_ok u v q W H a n c p x y w A hS hP hn3 (by omega) (by omega) (by omega) (by omega) (by omega) (by omega) (by omega) (by omega) hn (by omega) (by omega)
  · rcases hN with hu | ⟨hu, hv⟩ | ⟨hu, hv⟩
    · exact rasterNew_bad1_bound u v q W H a n c p x y w A hS hP hn3 hu (by omega) (by omega) (by omega) (by omega) hn hin
    · exact rasterNew_bad2_bound u v q W H a n c p x y w A hS hP hn3 hu hv (by omega) (by omega) (by omega) (by omega) hn hin
    · obtain ⟨u, rfl⟩ := Int.eq_ofNat_of_zero_le (show 0 ≤ u by omega)
      obtain ⟨v, rfl⟩ := Int.eq_ofNat_of_zero_le (show 0 ≤ v by omega)
      exact rasterNew_ok_bound u v q W H a n c p x y w A hS hP hn3 (by omega) (by omega) (by omega) (by omega) (by omega) (by omega) (by omega) (by omega) hn hin
end Go.Proofs.YtjchafbihfblnahDoor
