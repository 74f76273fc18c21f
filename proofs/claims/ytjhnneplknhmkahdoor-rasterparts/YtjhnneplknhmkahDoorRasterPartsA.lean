/- The statement on parts of pictures: the walk, way by way. Written by genrl.py. -/
import Derived.Test.YtjhnneplknhmkahDoorRt9
import Derived.Test.YtjhnneplknhmkahDoorRo4
import Derived.Test.YtjhnneplknhmkahDoorRo5
import Derived.Test.YtjhnneplknhmkahDoorRo6
namespace Go.Proofs.YtjhnneplknhmkahDoor
open Go.RowKit

set_option maxHeartbeats 4000000 in
set_option maxRecDepth 100000 in
theorem rasterParts_many (W H : Int) (a : Option Addr) (n c : Nat) (p : Nat → Px) (X Y RW RH : Int) (q : Px) (w : World) (A : Nat → Addr) (hS : Sent w A) (hP : IsPx w a n p) (hn3 : ¬ n ≤ 3000) :
    Calls Tryd.prog 4 #[.agg #[.int .i64 W, .int .i64 H, .slice a n c], .agg #[.int .i64 X, .int .i64 Y, .int .i64 RW, .int .i64 RH], q.val] w fun e w' => e = .returned (.bool true) ∧ Below w.heap.size w w' := by
  have HPL := hide plainly_any
  have HSM := hide (fun w => small_any W H a n c w)
  rw [decide_eq_false hn3] at HSM
  have HX := hide hP
  have HS0 := hide hS
  clear hn3 hP hS
  unfold Px.val at *
  have HA := hide (al3 w (.cells #[.int .i64 W, .int .i64 H, .slice a n c] 26) (.cells #[.int .i64 X, .int .i64 Y, .int .i64 RW, .int .i64 RH] 43) (.cells #[.int .u8 (q.r.toNat : Int), .int .u8 (q.g.toNat : Int), .int .u8 (q.b.toNat : Int), .int .u8 (q.a.toNat : Int)] 23))
  obtain ⟨B, hB⟩ : ∃ B, B = w.heap.size := ⟨_, rfl⟩
  go_enter Tryd.func4, Tryd.ntmps4
  go_wp2_with fail
  generalize (((w.alloc (.cells #[.int .i64 W, .int .i64 H, .slice a n c] 26)).alloc (.cells #[.int .i64 X, .int .i64 Y, .int .i64 RW, .int .i64 RH] 43)).alloc (.cells #[.int .u8 (q.r.toNat : Int), .int .u8 (q.g.toNat : Int), .int .u8 (q.b.toNat : Int), .int .u8 (q.a.toNat : Int)] 23)) = w1 at *
  rw [← hB] at HA ⊢
  obtain ⟨hs1, kp, kr, kq, hb1⟩ := unhide HA
  have HBE := hide hB
  clear HA hB
  have hs : B + 3 ≤ w1.heap.size := by omega
  have HB := hide hb1
  clear hs1 hb1
  have HXp := hide ((unhide HX).under (unhide HB) (fun x hx h0 => by rw [unhide HBE]; exact (unhide HX).lt x hx h0))
  have HSe := hide ((unhide HS0).below (by rw [← unhide HBE]; exact unhide HB))
  clear HX HS0
  refine (unhide HPL _).mono ?_
  rintro e w2 ⟨rfl, hbN⟩
  have hsz := hbN.size
  have kp := blk_below kp hbN (blk_lt kp)
  have kr := blk_below kr hbN (blk_lt kr)
  have kq := blk_below kq hbN (blk_lt kq)
  have HXp := hide ((unhide HXp).below hbN)
  have HSe := hide ((unhide HSe).below hbN)
  have HB := hide ((unhide HB).trans (hbN.mono (by omega)))
  have hs : B + 3 ≤ w2.heap.size := by omega
  clear hbN hsz
  have hlp : B < w2.heap.size := blk_lt kp
  have cp0 : w2.cell? ⟨B, 0, none⟩ = some (.int .i64 W) := blk_cell kp 0
  have cp1 : w2.cell? ⟨B, 1, none⟩ = some (.int .i64 H) := blk_cell kp 1
  have cp2 : w2.cell? ⟨B, 2, none⟩ = some (.slice a n c) := blk_cell kp 2
  have hlr : B + 1 < w2.heap.size := blk_lt kr
  have cr0 : w2.cell? ⟨B + 1, 0, none⟩ = some (.int .i64 X) := blk_cell kr 0
  have cr1 : w2.cell? ⟨B + 1, 1, none⟩ = some (.int .i64 Y) := blk_cell kr 1
  have cr2 : w2.cell? ⟨B + 1, 2, none⟩ = some (.int .i64 RW) := blk_cell kr 2
  have cr3 : w2.cell? ⟨B + 1, 3, none⟩ = some (.int .i64 RH) := blk_cell kr 3
  have hlq : B + 2 < w2.heap.size := blk_lt kq
  have cq0 : w2.cell? ⟨B + 2, 0, none⟩ = some (.int .u8 (q.r.toNat : Int)) := blk_cell kq 0
  have cq1 : w2.cell? ⟨B + 2, 1, none⟩ = some (.int .u8 (q.g.toNat : Int)) := blk_cell kq 1
  have cq2 : w2.cell? ⟨B + 2, 2, none⟩ = some (.int .u8 (q.b.toNat : Int)) := blk_cell kq 2
  have cq3 : w2.cell? ⟨B + 2, 3, none⟩ = some (.int .u8 (q.a.toNat : Int)) := blk_cell kq 3
  go_wp2_with fail
  clear cp0 cp1 cp2 cr0 cr1 cr2 cr3 cq0 cq1 cq2 cq3 hlp hlr hlq
  refine (unhide HSM _).mono ?_
  rintro e w3 ⟨rfl, hbN⟩
  have hsz := hbN.size
  have kp := blk_below kp hbN (blk_lt kp)
  have kr := blk_below kr hbN (blk_lt kr)
  have kq := blk_below kq hbN (blk_lt kq)
  have HXp := hide ((unhide HXp).below hbN)
  have HSe := hide ((unhide HSe).below hbN)
  have HB := hide ((unhide HB).trans (hbN.mono (by omega)))
  have hs : B + 3 ≤ w3.heap.size := by omega
  clear hbN hsz
  have hlp : B < w3.heap.size := blk_lt kp
  have cp0 : w3.cell? ⟨B, 0, none⟩ = some (.int .i64 W) := blk_cell kp 0
  have cp1 : w3.cell? ⟨B, 1, none⟩ = some (.int .i64 H) := blk_cell kp 1
  have cp2 : w3.cell? ⟨B, 2, none⟩ = some (.slice a n c) := blk_cell kp 2
  have hlr : B + 1 < w3.heap.size := blk_lt kr
  have cr0 : w3.cell? ⟨B + 1, 0, none⟩ = some (.int .i64 X) := blk_cell kr 0
  have cr1 : w3.cell? ⟨B + 1, 1, none⟩ = some (.int .i64 Y) := blk_cell kr 1
  have cr2 : w3.cell? ⟨B + 1, 2, none⟩ = some (.int .i64 RW) := blk_cell kr 2
  have cr3 : w3.cell? ⟨B + 1, 3, none⟩ = some (.int .i64 RH) := blk_cell kr 3
  have hlq : B + 2 < w3.heap.size := blk_lt kq
  have cq0 : w3.cell? ⟨B + 2, 0, none⟩ = some (.int .u8 (q.r.toNat : Int)) := blk_cell kq 0
  have cq1 : w3.cell? ⟨B + 2, 1, none⟩ = some (.int .u8 (q.g.toNat : Int)) := blk_cell kq 1
  have cq2 : w3.cell? ⟨B + 2, 2, none⟩ = some (.int .u8 (q.b.toNat : Int)) := blk_cell kq 2
  have cq3 : w3.cell? ⟨B + 2, 3, none⟩ = some (.int .u8 (q.a.toNat : Int)) := blk_cell kq 3
  go_wp2
  clear cp0 cp1 cp2 cr0 cr1 cr2 cr3 cq0 cq1 cq2 cq3 hlp hlr hlq
  go_ret
  exact ⟨rfl, by rw [← unhide HBE]; exact unhide HB⟩
set_option maxHeartbeats 4000000 in
set_option maxRecDepth 100000 in
theorem rasterParts_shape (W H : Int) (a : Option Addr) (n c : Nat) (p : Nat → Px) (X Y RW RH : Int) (q : Px) (w : World) (A : Nat → Addr) (hS : Sent w A) (hP : IsPx w a n p) (hn3 : n ≤ 3000) (hR : ¬ RightP W H n) :
    Calls Tryd.prog 4 #[.agg #[.int .i64 W, .int .i64 H, .slice a n c], .agg #[.int .i64 X, .int .i64 Y, .int .i64 RW, .int .i64 RH], q.val] w fun e w' => e = .returned (.bool true) ∧ Below w.heap.size w w' := by
  have HPL := hide plainly_any
  have HSM := hide (fun w => small_any W H a n c w)
  rw [decide_eq_true hn3] at HSM
  have HX := hide hP
  have HS0 := hide hS
  have HRT := hide (fun w => pright_any W H a n c w)
  have HO := hide (fun w (h : IsPx w a n p) => own_isPx W H a n c p w h (by omega))
  rw [decide_eq_false hR] at HRT
  have HF := hide (fun w a c (h : Sent w A) => fill_shape W H a n c X Y RW RH q w _ _ (h.cell 2 (by omega)) hR)
  have HC := hide (fun w a c (h : Sent w A) => crop_shape W H a n c X Y RW RH w _ _ (h.cell 2 (by omega)) hR)
  have HTe := hide (fun w (h : Sent w A) => told_err 2 3 W H a n c w A h (by omega) rfl)
  clear hn3 hP hS hR
  unfold Px.val at *
  have HA := hide (al3 w (.cells #[.int .i64 W, .int .i64 H, .slice a n c] 26) (.cells #[.int .i64 X, .int .i64 Y, .int .i64 RW, .int .i64 RH] 43) (.cells #[.int .u8 (q.r.toNat : Int), .int .u8 (q.g.toNat : Int), .int .u8 (q.b.toNat : Int), .int .u8 (q.a.toNat : Int)] 23))
  obtain ⟨B, hB⟩ : ∃ B, B = w.heap.size := ⟨_, rfl⟩
  go_enter Tryd.func4, Tryd.ntmps4
  go_wp2_with fail
  generalize (((w.alloc (.cells #[.int .i64 W, .int .i64 H, .slice a n c] 26)).alloc (.cells #[.int .i64 X, .int .i64 Y, .int .i64 RW, .int .i64 RH] 43)).alloc (.cells #[.int .u8 (q.r.toNat : Int), .int .u8 (q.g.toNat : Int), .int .u8 (q.b.toNat : Int), .int .u8 (q.a.toNat : Int)] 23)) = w1 at *
  rw [← hB] at HA ⊢
  obtain ⟨hs1, kp, kr, kq, hb1⟩ := unhide HA
  have HBE := hide hB
  clear HA hB
  have hs : B + 3 ≤ w1.heap.size := by omega
  have HB := hide hb1
  clear hs1 hb1
  have HXp := hide ((unhide HX).under (unhide HB) (fun x hx h0 => by rw [unhide HBE]; exact (unhide HX).lt x hx h0))
  have HSe := hide ((unhide HS0).below (by rw [← unhide HBE]; exact unhide HB))
  clear HX HS0
  refine (unhide HPL _).mono ?_
  rintro e w2 ⟨rfl, hbN⟩
  have hsz := hbN.size
  have kp := blk_below kp hbN (blk_lt kp)
  have kr := blk_below kr hbN (blk_lt kr)
  have kq := blk_below kq hbN (blk_lt kq)
  have HXp := hide ((unhide HXp).below hbN)
  have HSe := hide ((unhide HSe).below hbN)
  have HB := hide ((unhide HB).trans (hbN.mono (by omega)))
  have hs : B + 3 ≤ w2.heap.size := by omega
  clear hbN hsz
  have hlp : B < w2.heap.size := blk_lt kp
  have cp0 : w2.cell? ⟨B, 0, none⟩ = some (.int .i64 W) := blk_cell kp 0
  have cp1 : w2.cell? ⟨B, 1, none⟩ = some (.int .i64 H) := blk_cell kp 1
  have cp2 : w2.cell? ⟨B, 2, none⟩ = some (.slice a n c) := blk_cell kp 2
  have hlr : B + 1 < w2.heap.size := blk_lt kr
  have cr0 : w2.cell? ⟨B + 1, 0, none⟩ = some (.int .i64 X) := blk_cell kr 0
  have cr1 : w2.cell? ⟨B + 1, 1, none⟩ = some (.int .i64 Y) := blk_cell kr 1
  have cr2 : w2.cell? ⟨B + 1, 2, none⟩ = some (.int .i64 RW) := blk_cell kr 2
  have cr3 : w2.cell? ⟨B + 1, 3, none⟩ = some (.int .i64 RH) := blk_cell kr 3
  have hlq : B + 2 < w2.heap.size := blk_lt kq
  have cq0 : w2.cell? ⟨B + 2, 0, none⟩ = some (.int .u8 (q.r.toNat : Int)) := blk_cell kq 0
  have cq1 : w2.cell? ⟨B + 2, 1, none⟩ = some (.int .u8 (q.g.toNat : Int)) := blk_cell kq 1
  have cq2 : w2.cell? ⟨B + 2, 2, none⟩ = some (.int .u8 (q.b.toNat : Int)) := blk_cell kq 2
  have cq3 : w2.cell? ⟨B + 2, 3, none⟩ = some (.int .u8 (q.a.toNat : Int)) := blk_cell kq 3
  go_wp2_with fail
  clear cp0 cp1 cp2 cr0 cr1 cr2 cr3 cq0 cq1 cq2 cq3 hlp hlr hlq
  refine (unhide HSM _).mono ?_
  rintro e w3 ⟨rfl, hbN⟩
  have hsz := hbN.size
  have kp := blk_below kp hbN (blk_lt kp)
  have kr := blk_below kr hbN (blk_lt kr)
  have kq := blk_below kq hbN (blk_lt kq)
  have HXp := hide ((unhide HXp).below hbN)
  have HSe := hide ((unhide HSe).below hbN)
  have HB := hide ((unhide HB).trans (hbN.mono (by omega)))
  have hs : B + 3 ≤ w3.heap.size := by omega
  clear hbN hsz
  have hlp : B < w3.heap.size := blk_lt kp
  have cp0 : w3.cell? ⟨B, 0, none⟩ = some (.int .i64 W) := blk_cell kp 0
  have cp1 : w3.cell? ⟨B, 1, none⟩ = some (.int .i64 H) := blk_cell kp 1
  have cp2 : w3.cell? ⟨B, 2, none⟩ = some (.slice a n c) := blk_cell kp 2
  have hlr : B + 1 < w3.heap.size := blk_lt kr
  have cr0 : w3.cell? ⟨B + 1, 0, none⟩ = some (.int .i64 X) := blk_cell kr 0
  have cr1 : w3.cell? ⟨B + 1, 1, none⟩ = some (.int .i64 Y) := blk_cell kr 1
  have cr2 : w3.cell? ⟨B + 1, 2, none⟩ = some (.int .i64 RW) := blk_cell kr 2
  have cr3 : w3.cell? ⟨B + 1, 3, none⟩ = some (.int .i64 RH) := blk_cell kr 3
  have hlq : B + 2 < w3.heap.size := blk_lt kq
  have cq0 : w3.cell? ⟨B + 2, 0, none⟩ = some (.int .u8 (q.r.toNat : Int)) := blk_cell kq 0
  have cq1 : w3.cell? ⟨B + 2, 1, none⟩ = some (.int .u8 (q.g.toNat : Int)) := blk_cell kq 1
  have cq2 : w3.cell? ⟨B + 2, 2, none⟩ = some (.int .u8 (q.b.toNat : Int)) := blk_cell kq 2
  have cq3 : w3.cell? ⟨B + 2, 3, none⟩ = some (.int .u8 (q.a.toNat : Int)) := blk_cell kq 3
  go_wp2
  clear cp0 cp1 cp2 cr0 cr1 cr2 cr3 cq0 cq1 cq2 cq3 hlp hlr hlq
  apply once1 (fun wf bf ao co => w3.heap.size ≤ bf ∧ wf.heap[bf]? = some (.cells #[.int .i64 0, .int .i64 0, .slice none 0 0] 26) ∧ Below w3.heap.size w3 wf)
  · intro hrest
    have hlp : B < w3.heap.size := blk_lt kp
    have cp0 : w3.cell? ⟨B, 0, none⟩ = some (.int .i64 W) := blk_cell kp 0
    have cp1 : w3.cell? ⟨B, 1, none⟩ = some (.int .i64 H) := blk_cell kp 1
    have cp2 : w3.cell? ⟨B, 2, none⟩ = some (.slice a n c) := blk_cell kp 2
    have hlr : B + 1 < w3.heap.size := blk_lt kr
    have cr0 : w3.cell? ⟨B + 1, 0, none⟩ = some (.int .i64 X) := blk_cell kr 0
    have cr1 : w3.cell? ⟨B + 1, 1, none⟩ = some (.int .i64 Y) := blk_cell kr 1
    have cr2 : w3.cell? ⟨B + 1, 2, none⟩ = some (.int .i64 RW) := blk_cell kr 2
    have cr3 : w3.cell? ⟨B + 1, 3, none⟩ = some (.int .i64 RH) := blk_cell kr 3
    have hlq : B + 2 < w3.heap.size := blk_lt kq
    have cq0 : w3.cell? ⟨B + 2, 0, none⟩ = some (.int .u8 (q.r.toNat : Int)) := blk_cell kq 0
    have cq1 : w3.cell? ⟨B + 2, 1, none⟩ = some (.int .u8 (q.g.toNat : Int)) := blk_cell kq 1
    have cq2 : w3.cell? ⟨B + 2, 2, none⟩ = some (.int .u8 (q.b.toNat : Int)) := blk_cell kq 2
    have cq3 : w3.cell? ⟨B + 2, 3, none⟩ = some (.int .u8 (q.a.toNat : Int)) := blk_cell kq 3
    have hKS := hide (fun wx (h : Below w3.heap.size w3 wx) => (⟨bcell h hlp cp0, bcell h hlp cp1, bcell h hlp cp2, bcell h hlr cr0, bcell h hlr cr1, bcell h hlr cr2, bcell h hlr cr3, bcell h hlq cq0, bcell h hlq cq1, bcell h hlq cq2, bcell h hlq cq3⟩ : wx.cell? ⟨B, 0, none⟩ = some (.int .i64 W) ∧ wx.cell? ⟨B, 1, none⟩ = some (.int .i64 H) ∧ wx.cell? ⟨B, 2, none⟩ = some (.slice a n c) ∧ wx.cell? ⟨B + 1, 0, none⟩ = some (.int .i64 X) ∧ wx.cell? ⟨B + 1, 1, none⟩ = some (.int .i64 Y) ∧ wx.cell? ⟨B + 1, 2, none⟩ = some (.int .i64 RW) ∧ wx.cell? ⟨B + 1, 3, none⟩ = some (.int .i64 RH) ∧ wx.cell? ⟨B + 2, 0, none⟩ = some (.int .u8 (q.r.toNat : Int)) ∧ wx.cell? ⟨B + 2, 1, none⟩ = some (.int .u8 (q.g.toNat : Int)) ∧ wx.cell? ⟨B + 2, 2, none⟩ = some (.int .u8 (q.b.toNat : Int)) ∧ wx.cell? ⟨B + 2, 3, none⟩ = some (.int .u8 (q.a.toNat : Int))))
    have hdr := (Below.refl w3.heap.size w3).drew
    go_region_held (fun w' => w'.cell? ⟨B, 0, none⟩ = some (.int .i64 W) ∧ w'.cell? ⟨B, 1, none⟩ = some (.int .i64 H) ∧ w'.cell? ⟨B, 2, none⟩ = some (.slice a n c) ∧ w'.cell? ⟨B + 1, 0, none⟩ = some (.int .i64 X) ∧ w'.cell? ⟨B + 1, 1, none⟩ = some (.int .i64 Y) ∧ w'.cell? ⟨B + 1, 2, none⟩ = some (.int .i64 RW) ∧ w'.cell? ⟨B + 1, 3, none⟩ = some (.int .i64 RH) ∧ w'.cell? ⟨B + 2, 0, none⟩ = some (.int .u8 (q.r.toNat : Int)) ∧ w'.cell? ⟨B + 2, 1, none⟩ = some (.int .u8 (q.g.toNat : Int)) ∧ w'.cell? ⟨B + 2, 2, none⟩ = some (.int .u8 (q.b.toNat : Int)) ∧ w'.cell? ⟨B + 2, 3, none⟩ = some (.int .u8 (q.a.toNat : Int))) (exact unhide hKS _ (by (first | with_reducible exact hqw5 | with_reducible exact hqw4 | with_reducible exact hdr | with_reducible exact hqw5.alloc hqw5.size _ | with_reducible exact hqw4.alloc hqw4.size _ | with_reducible exact ((Below.refl _ _).alloc (Nat.le_refl _) _).drew | with_reducible exact set3_below hqw5 (Nat.le_refl _) _ _ _ | with_reducible exact set3_below hqw5 hqw4.size _ _ _ | with_reducible exact set3_below (hqw5.alloc hqw5.size _) hqw5.size _ _ _ | exact hqw5.alloc hqw5.size _))) (first | (go_at_call 16; refine (unhide HO _ ((unhide HXp).below (by (first | with_reducible exact hqw5 | with_reducible exact hqw4 | with_reducible exact hdr | with_reducible exact hqw5.alloc hqw5.size _ | with_reducible exact hqw4.alloc hqw4.size _ | with_reducible exact ((Below.refl _ _).alloc (Nat.le_refl _) _).drew | with_reducible exact set3_below hqw5 (Nat.le_refl _) _ _ _ | with_reducible exact set3_below hqw5 hqw4.size _ _ _ | with_reducible exact set3_below (hqw5.alloc hqw5.size _) hqw5.size _ _ _ | exact hqw5.alloc hqw5.size _)))).mono ?_; rintro e w4 ⟨ao, co, rfl, hpo, hbw4⟩; have hqw4 := bel_trans (w := w3) (by (first | with_reducible exact hqw5 | with_reducible exact hqw4 | with_reducible exact hdr | with_reducible exact hqw5.alloc hqw5.size _ | with_reducible exact hqw4.alloc hqw4.size _ | with_reducible exact ((Below.refl _ _).alloc (Nat.le_refl _) _).drew | with_reducible exact set3_below hqw5 (Nat.le_refl _) _ _ _ | with_reducible exact set3_below hqw5 hqw4.size _ _ _ | with_reducible exact set3_below (hqw5.alloc hqw5.size _) hqw5.size _ _ _ | exact hqw5.alloc hqw5.size _)) hbw4; (try (have kzw4 : w4.heap[w3.heap.size]? = some (.cells #[.int .i64 0, .int .i64 0, .slice none 0 0] 26) := blk_below (show ((w3.alloc (.cells #[.int .i64 0, .int .i64 0, .slice none 0 0] 26)).drew).heap[w3.heap.size]? = some (.cells #[.int .i64 0, .int .i64 0, .slice none 0 0] 26) from heap_alloc_new w3 _) hbw4 (by show _ < (w3.alloc _).heap.size; simp))); (try (have zw40 : w4.cell? ⟨_, 0, none⟩ = some (.int .i64 0) := blk_cell kzw4 0)); (try (have zfw40 := blk_frozen kzw4 0)); (try (have zw41 : w4.cell? ⟨_, 1, none⟩ = some (.int .i64 0) := blk_cell kzw4 1)); (try (have zfw41 := blk_frozen kzw4 1)); (try (have zw42 : w4.cell? ⟨_, 2, none⟩ = some (.slice none 0 0) := blk_cell kzw4 2)); (try (have zfw42 := blk_frozen kzw4 2))) | (go_at_call 20; refine (unhide HF _ _ _ ((unhide HSe).below (by (first | with_reducible exact hqw5 | with_reducible exact hqw4 | with_reducible exact hdr | with_reducible exact hqw5.alloc hqw5.size _ | with_reducible exact hqw4.alloc hqw4.size _ | with_reducible exact ((Below.refl _ _).alloc (Nat.le_refl _) _).drew | with_reducible exact set3_below hqw5 (Nat.le_refl _) _ _ _ | with_reducible exact set3_below hqw5 hqw4.size _ _ _ | with_reducible exact set3_below (hqw5.alloc hqw5.size _) hqw5.size _ _ _ | exact hqw5.alloc hqw5.size _)))).mono ?_; rintro e w5 ⟨rfl, hbw5⟩; have hqw5 := bel_trans (w := w3) (by (first | with_reducible exact hqw5 | with_reducible exact hqw4 | with_reducible exact hdr | with_reducible exact hqw5.alloc hqw5.size _ | with_reducible exact hqw4.alloc hqw4.size _ | with_reducible exact ((Below.refl _ _).alloc (Nat.le_refl _) _).drew | with_reducible exact set3_below hqw5 (Nat.le_refl _) _ _ _ | with_reducible exact set3_below hqw5 hqw4.size _ _ _ | with_reducible exact set3_below (hqw5.alloc hqw5.size _) hqw5.size _ _ _ | exact hqw5.alloc hqw5.size _)) hbw5; (try (have kzw5 := blk_below kzw4 hbw5 (blk_lt kzw4))); (try (have kzw5 : w5.heap[w4.heap.size]? = some (.cells #[.int .i64 0, .int .i64 0, .slice none 0 0] 26) := blk_below (heap_alloc_new w4 _) hbw5 (by simp))); (try (have zw50 : w5.cell? ⟨_, 0, none⟩ = some (.int .i64 0) := blk_cell kzw5 0)); (try (have zfw50 := blk_frozen kzw5 0)); (try (have zw51 : w5.cell? ⟨_, 1, none⟩ = some (.int .i64 0) := blk_cell kzw5 1)); (try (have zfw51 := blk_frozen kzw5 1)); (try (have zw52 : w5.cell? ⟨_, 2, none⟩ = some (.slice none 0 0) := blk_cell kzw5 2)); (try (have zfw52 := blk_frozen kzw5 2))))
    all_goals
      first
      | (have hfin := fin3 (w := w3) kzw5 hqw5 (Nat.le_refl _) (.int .i64 0) (.int .i64 0) (.slice none 0 0); have hA := hfin.blk; have hB := hfin.below; clear hfin; generalize ((w5.setCell ⟨w3.heap.size, 0, none⟩ (.int .i64 0)).setCell ⟨w3.heap.size, 1, none⟩ (.int .i64 0)).setCell ⟨w3.heap.size, 2, none⟩ (.slice none 0 0) = wf at *; obtain ⟨bf, hbf⟩ : ∃ b, b = w3.heap.size := ⟨_, rfl⟩; have hge : w3.heap.size ≤ bf := Nat.le_trans (Nat.le_refl _) (Nat.le_of_eq hbf.symm); rw [← hbf] at hA ⊢; exact hrest wf bf ao co ⟨hge, hA, hB⟩)
      | (have hfin := fin3 (w := w3) kzw5 hqw5 (hqw4.size) (.int .i64 0) (.int .i64 0) (.slice none 0 0); have hA := hfin.blk; have hB := hfin.below; clear hfin; generalize ((w5.setCell ⟨w4.heap.size, 0, none⟩ (.int .i64 0)).setCell ⟨w4.heap.size, 1, none⟩ (.int .i64 0)).setCell ⟨w4.heap.size, 2, none⟩ (.slice none 0 0) = wf at *; obtain ⟨bf, hbf⟩ : ∃ b, b = w4.heap.size := ⟨_, rfl⟩; have hge : w3.heap.size ≤ bf := Nat.le_trans (hqw4.size) (Nat.le_of_eq hbf.symm); rw [← hbf] at hA ⊢; exact hrest wf bf ao co ⟨hge, hA, hB⟩)
      | (have hA := heap_alloc_new w5 (.cells #[.int .i64 0, .int .i64 0, .slice none 0 0] 26); have hB := hqw5.alloc hqw5.size (.cells #[.int .i64 0, .int .i64 0, .slice none 0 0] 26); generalize w5.alloc (.cells #[.int .i64 0, .int .i64 0, .slice none 0 0] 26) = wf at *; obtain ⟨bf, hbf⟩ : ∃ b, b = w5.heap.size := ⟨_, rfl⟩; have hge : w3.heap.size ≤ bf := Nat.le_trans hqw5.size (Nat.le_of_eq hbf.symm); rw [← hbf] at hA ⊢; exact hrest wf bf ao co ⟨hge, hA, hB⟩)
  rintro w6 bF ao co ⟨hge, kF, hbN⟩
  have ltFp : B < bF := Nat.lt_of_lt_of_le (blk_lt kp) hge
  have ltFr : B + 1 < bF := Nat.lt_of_lt_of_le (blk_lt kr) hge
  have ltFq : B + 2 < bF := Nat.lt_of_lt_of_le (blk_lt kq) hge
  clear hge
  have hsz := hbN.size
  have kp := blk_below kp hbN (blk_lt kp)
  have kr := blk_below kr hbN (blk_lt kr)
  have kq := blk_below kq hbN (blk_lt kq)
  have HXp := hide ((unhide HXp).below hbN)
  have HSe := hide ((unhide HSe).below hbN)
  have HB := hide ((unhide HB).trans (hbN.mono (by omega)))
  have hs : B + 3 ≤ w6.heap.size := by omega
  clear hbN hsz
  have hlp : B < w6.heap.size := blk_lt kp
  have cp0 : w6.cell? ⟨B, 0, none⟩ = some (.int .i64 W) := blk_cell kp 0
  have cp1 : w6.cell? ⟨B, 1, none⟩ = some (.int .i64 H) := blk_cell kp 1
  have cp2 : w6.cell? ⟨B, 2, none⟩ = some (.slice a n c) := blk_cell kp 2
  have hlr : B + 1 < w6.heap.size := blk_lt kr
  have cr0 : w6.cell? ⟨B + 1, 0, none⟩ = some (.int .i64 X) := blk_cell kr 0
  have cr1 : w6.cell? ⟨B + 1, 1, none⟩ = some (.int .i64 Y) := blk_cell kr 1
  have cr2 : w6.cell? ⟨B + 1, 2, none⟩ = some (.int .i64 RW) := blk_cell kr 2
  have cr3 : w6.cell? ⟨B + 1, 3, none⟩ = some (.int .i64 RH) := blk_cell kr 3
  have hlq : B + 2 < w6.heap.size := blk_lt kq
  have cq0 : w6.cell? ⟨B + 2, 0, none⟩ = some (.int .u8 (q.r.toNat : Int)) := blk_cell kq 0
  have cq1 : w6.cell? ⟨B + 2, 1, none⟩ = some (.int .u8 (q.g.toNat : Int)) := blk_cell kq 1
  have cq2 : w6.cell? ⟨B + 2, 2, none⟩ = some (.int .u8 (q.b.toNat : Int)) := blk_cell kq 2
  have cq3 : w6.cell? ⟨B + 2, 3, none⟩ = some (.int .u8 (q.a.toNat : Int)) := blk_cell kq 3
  have hlF : bF < w6.heap.size := blk_lt kF
  have cF0 : w6.cell? ⟨bF, 0, none⟩ = some (.int .i64 0) := blk_cell kF 0
  have cF1 : w6.cell? ⟨bF, 1, none⟩ = some (.int .i64 0) := blk_cell kF 1
  have cF2 : w6.cell? ⟨bF, 2, none⟩ = some (.slice none 0 0) := blk_cell kF 2
  go_wp2
  clear cp0 cp1 cp2 cr0 cr1 cr2 cr3 cq0 cq1 cq2 cq3 cF0 cF1 cF2 hlp hlr hlq hlF
  apply once1 (fun wf bf ao2 co2 => w6.heap.size ≤ bf ∧ wf.heap[bf]? = some (.cells #[.int .i64 0, .int .i64 0, .slice none 0 0] 26) ∧ Below w6.heap.size w6 wf)
  · intro hrest
    have hlp : B < w6.heap.size := blk_lt kp
    have cp0 : w6.cell? ⟨B, 0, none⟩ = some (.int .i64 W) := blk_cell kp 0
    have cp1 : w6.cell? ⟨B, 1, none⟩ = some (.int .i64 H) := blk_cell kp 1
    have cp2 : w6.cell? ⟨B, 2, none⟩ = some (.slice a n c) := blk_cell kp 2
    have hlr : B + 1 < w6.heap.size := blk_lt kr
    have cr0 : w6.cell? ⟨B + 1, 0, none⟩ = some (.int .i64 X) := blk_cell kr 0
    have cr1 : w6.cell? ⟨B + 1, 1, none⟩ = some (.int .i64 Y) := blk_cell kr 1
    have cr2 : w6.cell? ⟨B + 1, 2, none⟩ = some (.int .i64 RW) := blk_cell kr 2
    have cr3 : w6.cell? ⟨B + 1, 3, none⟩ = some (.int .i64 RH) := blk_cell kr 3
    have hlq : B + 2 < w6.heap.size := blk_lt kq
    have cq0 : w6.cell? ⟨B + 2, 0, none⟩ = some (.int .u8 (q.r.toNat : Int)) := blk_cell kq 0
    have cq1 : w6.cell? ⟨B + 2, 1, none⟩ = some (.int .u8 (q.g.toNat : Int)) := blk_cell kq 1
    have cq2 : w6.cell? ⟨B + 2, 2, none⟩ = some (.int .u8 (q.b.toNat : Int)) := blk_cell kq 2
    have cq3 : w6.cell? ⟨B + 2, 3, none⟩ = some (.int .u8 (q.a.toNat : Int)) := blk_cell kq 3
    have hlF : bF < w6.heap.size := blk_lt kF
    have cF0 : w6.cell? ⟨bF, 0, none⟩ = some (.int .i64 0) := blk_cell kF 0
    have cF1 : w6.cell? ⟨bF, 1, none⟩ = some (.int .i64 0) := blk_cell kF 1
    have cF2 : w6.cell? ⟨bF, 2, none⟩ = some (.slice none 0 0) := blk_cell kF 2
    have hKS := hide (fun wx (h : Below w6.heap.size w6 wx) => (⟨bcell h hlp cp0, bcell h hlp cp1, bcell h hlp cp2, bcell h hlr cr0, bcell h hlr cr1, bcell h hlr cr2, bcell h hlr cr3⟩ : wx.cell? ⟨B, 0, none⟩ = some (.int .i64 W) ∧ wx.cell? ⟨B, 1, none⟩ = some (.int .i64 H) ∧ wx.cell? ⟨B, 2, none⟩ = some (.slice a n c) ∧ wx.cell? ⟨B + 1, 0, none⟩ = some (.int .i64 X) ∧ wx.cell? ⟨B + 1, 1, none⟩ = some (.int .i64 Y) ∧ wx.cell? ⟨B + 1, 2, none⟩ = some (.int .i64 RW) ∧ wx.cell? ⟨B + 1, 3, none⟩ = some (.int .i64 RH)))
    have hdr := (Below.refl w6.heap.size w6).drew
    go_region_held (fun w' => w'.cell? ⟨B, 0, none⟩ = some (.int .i64 W) ∧ w'.cell? ⟨B, 1, none⟩ = some (.int .i64 H) ∧ w'.cell? ⟨B, 2, none⟩ = some (.slice a n c) ∧ w'.cell? ⟨B + 1, 0, none⟩ = some (.int .i64 X) ∧ w'.cell? ⟨B + 1, 1, none⟩ = some (.int .i64 Y) ∧ w'.cell? ⟨B + 1, 2, none⟩ = some (.int .i64 RW) ∧ w'.cell? ⟨B + 1, 3, none⟩ = some (.int .i64 RH)) (exact unhide hKS _ (by (first | with_reducible exact hqw8 | with_reducible exact hqw7 | with_reducible exact hdr | with_reducible exact hqw8.alloc hqw8.size _ | with_reducible exact hqw7.alloc hqw7.size _ | with_reducible exact ((Below.refl _ _).alloc (Nat.le_refl _) _).drew | with_reducible exact set3_below hqw8 (Nat.le_refl _) _ _ _ | with_reducible exact set3_below hqw8 hqw7.size _ _ _ | with_reducible exact set3_below (hqw8.alloc hqw8.size _) hqw8.size _ _ _ | exact hqw8.alloc hqw8.size _))) (first | (go_at_call 16; refine (unhide HO _ ((unhide HXp).below (by (first | with_reducible exact hqw8 | with_reducible exact hqw7 | with_reducible exact hdr | with_reducible exact hqw8.alloc hqw8.size _ | with_reducible exact hqw7.alloc hqw7.size _ | with_reducible exact ((Below.refl _ _).alloc (Nat.le_refl _) _).drew | with_reducible exact set3_below hqw8 (Nat.le_refl _) _ _ _ | with_reducible exact set3_below hqw8 hqw7.size _ _ _ | with_reducible exact set3_below (hqw8.alloc hqw8.size _) hqw8.size _ _ _ | exact hqw8.alloc hqw8.size _)))).mono ?_; rintro e w7 ⟨ao2, co2, rfl, hpo, hbw7⟩; have hqw7 := bel_trans (w := w6) (by (first | with_reducible exact hqw8 | with_reducible exact hqw7 | with_reducible exact hdr | with_reducible exact hqw8.alloc hqw8.size _ | with_reducible exact hqw7.alloc hqw7.size _ | with_reducible exact ((Below.refl _ _).alloc (Nat.le_refl _) _).drew | with_reducible exact set3_below hqw8 (Nat.le_refl _) _ _ _ | with_reducible exact set3_below hqw8 hqw7.size _ _ _ | with_reducible exact set3_below (hqw8.alloc hqw8.size _) hqw8.size _ _ _ | exact hqw8.alloc hqw8.size _)) hbw7; (try (have kzw7 : w7.heap[w6.heap.size]? = some (.cells #[.int .i64 0, .int .i64 0, .slice none 0 0] 26) := blk_below (show ((w6.alloc (.cells #[.int .i64 0, .int .i64 0, .slice none 0 0] 26)).drew).heap[w6.heap.size]? = some (.cells #[.int .i64 0, .int .i64 0, .slice none 0 0] 26) from heap_alloc_new w6 _) hbw7 (by show _ < (w6.alloc _).heap.size; simp))); (try (have zw70 : w7.cell? ⟨_, 0, none⟩ = some (.int .i64 0) := blk_cell kzw7 0)); (try (have zfw70 := blk_frozen kzw7 0)); (try (have zw71 : w7.cell? ⟨_, 1, none⟩ = some (.int .i64 0) := blk_cell kzw7 1)); (try (have zfw71 := blk_frozen kzw7 1)); (try (have zw72 : w7.cell? ⟨_, 2, none⟩ = some (.slice none 0 0) := blk_cell kzw7 2)); (try (have zfw72 := blk_frozen kzw7 2))) | (go_at_call 21; refine (unhide HC _ _ _ ((unhide HSe).below (by (first | with_reducible exact hqw8 | with_reducible exact hqw7 | with_reducible exact hdr | with_reducible exact hqw8.alloc hqw8.size _ | with_reducible exact hqw7.alloc hqw7.size _ | with_reducible exact ((Below.refl _ _).alloc (Nat.le_refl _) _).drew | with_reducible exact set3_below hqw8 (Nat.le_refl _) _ _ _ | with_reducible exact set3_below hqw8 hqw7.size _ _ _ | with_reducible exact set3_below (hqw8.alloc hqw8.size _) hqw8.size _ _ _ | exact hqw8.alloc hqw8.size _)))).mono ?_; rintro e w8 ⟨rfl, hbw8⟩; have hqw8 := bel_trans (w := w6) (by (first | with_reducible exact hqw8 | with_reducible exact hqw7 | with_reducible exact hdr | with_reducible exact hqw8.alloc hqw8.size _ | with_reducible exact hqw7.alloc hqw7.size _ | with_reducible exact ((Below.refl _ _).alloc (Nat.le_refl _) _).drew | with_reducible exact set3_below hqw8 (Nat.le_refl _) _ _ _ | with_reducible exact set3_below hqw8 hqw7.size _ _ _ | with_reducible exact set3_below (hqw8.alloc hqw8.size _) hqw8.size _ _ _ | exact hqw8.alloc hqw8.size _)) hbw8; (try (have kzw8 := blk_below kzw7 hbw8 (blk_lt kzw7))); (try (have kzw8 : w8.heap[w7.heap.size]? = some (.cells #[.int .i64 0, .int .i64 0, .slice none 0 0] 26) := blk_below (heap_alloc_new w7 _) hbw8 (by simp))); (try (have zw80 : w8.cell? ⟨_, 0, none⟩ = some (.int .i64 0) := blk_cell kzw8 0)); (try (have zfw80 := blk_frozen kzw8 0)); (try (have zw81 : w8.cell? ⟨_, 1, none⟩ = some (.int .i64 0) := blk_cell kzw8 1)); (try (have zfw81 := blk_frozen kzw8 1)); (try (have zw82 : w8.cell? ⟨_, 2, none⟩ = some (.slice none 0 0) := blk_cell kzw8 2)); (try (have zfw82 := blk_frozen kzw8 2))))
    all_goals
      first
      | (have hfin := fin3 (w := w6) kzw8 hqw8 (Nat.le_refl _) (.int .i64 0) (.int .i64 0) (.slice none 0 0); have hA := hfin.blk; have hB := hfin.below; clear hfin; generalize ((w8.setCell ⟨w6.heap.size, 0, none⟩ (.int .i64 0)).setCell ⟨w6.heap.size, 1, none⟩ (.int .i64 0)).setCell ⟨w6.heap.size, 2, none⟩ (.slice none 0 0) = wf at *; obtain ⟨bf, hbf⟩ : ∃ b, b = w6.heap.size := ⟨_, rfl⟩; have hge : w6.heap.size ≤ bf := Nat.le_trans (Nat.le_refl _) (Nat.le_of_eq hbf.symm); rw [← hbf] at hA ⊢; exact hrest wf bf ao2 co2 ⟨hge, hA, hB⟩)
      | (have hfin := fin3 (w := w6) kzw8 hqw8 (hqw7.size) (.int .i64 0) (.int .i64 0) (.slice none 0 0); have hA := hfin.blk; have hB := hfin.below; clear hfin; generalize ((w8.setCell ⟨w7.heap.size, 0, none⟩ (.int .i64 0)).setCell ⟨w7.heap.size, 1, none⟩ (.int .i64 0)).setCell ⟨w7.heap.size, 2, none⟩ (.slice none 0 0) = wf at *; obtain ⟨bf, hbf⟩ : ∃ b, b = w7.heap.size := ⟨_, rfl⟩; have hge : w6.heap.size ≤ bf := Nat.le_trans (hqw7.size) (Nat.le_of_eq hbf.symm); rw [← hbf] at hA ⊢; exact hrest wf bf ao2 co2 ⟨hge, hA, hB⟩)
      | (have hA := heap_alloc_new w8 (.cells #[.int .i64 0, .int .i64 0, .slice none 0 0] 26); have hB := hqw8.alloc hqw8.size (.cells #[.int .i64 0, .int .i64 0, .slice none 0 0] 26); generalize w8.alloc (.cells #[.int .i64 0, .int .i64 0, .slice none 0 0] 26) = wf at *; obtain ⟨bf, hbf⟩ : ∃ b, b = w8.heap.size := ⟨_, rfl⟩; have hge : w6.heap.size ≤ bf := Nat.le_trans hqw8.size (Nat.le_of_eq hbf.symm); rw [← hbf] at hA ⊢; exact hrest wf bf ao2 co2 ⟨hge, hA, hB⟩)
  rintro w9 bC ao2 co2 ⟨hge, kC, hbN⟩
  have ltCp : B < bC := Nat.lt_of_lt_of_le (blk_lt kp) hge
  have ltCr : B + 1 < bC := Nat.lt_of_lt_of_le (blk_lt kr) hge
  have ltCq : B + 2 < bC := Nat.lt_of_lt_of_le (blk_lt kq) hge
  have ltCF : bF < bC := Nat.lt_of_lt_of_le (blk_lt kF) hge
  clear hge
  have hsz := hbN.size
  have kp := blk_below kp hbN (blk_lt kp)
  have kr := blk_below kr hbN (blk_lt kr)
  have kq := blk_below kq hbN (blk_lt kq)
  have kF := blk_below kF hbN (blk_lt kF)
  have HXp := hide ((unhide HXp).below hbN)
  have HSe := hide ((unhide HSe).below hbN)
  have HB := hide ((unhide HB).trans (hbN.mono (by omega)))
  have hs : B + 3 ≤ w9.heap.size := by omega
  clear hbN hsz
  have hlp : B < w9.heap.size := blk_lt kp
  have cp0 : w9.cell? ⟨B, 0, none⟩ = some (.int .i64 W) := blk_cell kp 0
  have cp1 : w9.cell? ⟨B, 1, none⟩ = some (.int .i64 H) := blk_cell kp 1
  have cp2 : w9.cell? ⟨B, 2, none⟩ = some (.slice a n c) := blk_cell kp 2
  have hlr : B + 1 < w9.heap.size := blk_lt kr
  have cr0 : w9.cell? ⟨B + 1, 0, none⟩ = some (.int .i64 X) := blk_cell kr 0
  have cr1 : w9.cell? ⟨B + 1, 1, none⟩ = some (.int .i64 Y) := blk_cell kr 1
  have cr2 : w9.cell? ⟨B + 1, 2, none⟩ = some (.int .i64 RW) := blk_cell kr 2
  have cr3 : w9.cell? ⟨B + 1, 3, none⟩ = some (.int .i64 RH) := blk_cell kr 3
  have hlq : B + 2 < w9.heap.size := blk_lt kq
  have cq0 : w9.cell? ⟨B + 2, 0, none⟩ = some (.int .u8 (q.r.toNat : Int)) := blk_cell kq 0
  have cq1 : w9.cell? ⟨B + 2, 1, none⟩ = some (.int .u8 (q.g.toNat : Int)) := blk_cell kq 1
  have cq2 : w9.cell? ⟨B + 2, 2, none⟩ = some (.int .u8 (q.b.toNat : Int)) := blk_cell kq 2
  have cq3 : w9.cell? ⟨B + 2, 3, none⟩ = some (.int .u8 (q.a.toNat : Int)) := blk_cell kq 3
  have hlF : bF < w9.heap.size := blk_lt kF
  have cF0 : w9.cell? ⟨bF, 0, none⟩ = some (.int .i64 0) := blk_cell kF 0
  have cF1 : w9.cell? ⟨bF, 1, none⟩ = some (.int .i64 0) := blk_cell kF 1
  have cF2 : w9.cell? ⟨bF, 2, none⟩ = some (.slice none 0 0) := blk_cell kF 2
  have hlC : bC < w9.heap.size := blk_lt kC
  have cC0 : w9.cell? ⟨bC, 0, none⟩ = some (.int .i64 0) := blk_cell kC 0
  have cC1 : w9.cell? ⟨bC, 1, none⟩ = some (.int .i64 0) := blk_cell kC 1
  have cC2 : w9.cell? ⟨bC, 2, none⟩ = some (.slice none 0 0) := blk_cell kC 2
  go_wp2_with fail
  clear cp0 cp1 cp2 cr0 cr1 cr2 cr3 cq0 cq1 cq2 cq3 cF0 cF1 cF2 cC0 cC1 cC2 hlp hlr hlq hlF hlC
  refine (unhide HRT _).mono ?_
  rintro e w10 ⟨rfl, hbN⟩
  have hsz := hbN.size
  have kp := blk_below kp hbN (blk_lt kp)
  have kr := blk_below kr hbN (blk_lt kr)
  have kq := blk_below kq hbN (blk_lt kq)
  have kF := blk_below kF hbN (blk_lt kF)
  have kC := blk_below kC hbN (blk_lt kC)
  have HXp := hide ((unhide HXp).below hbN)
  have HSe := hide ((unhide HSe).below hbN)
  have HB := hide ((unhide HB).trans (hbN.mono (by omega)))
  have hs : B + 3 ≤ w10.heap.size := by omega
  clear hbN hsz
  have hlp : B < w10.heap.size := blk_lt kp
  have cp0 : w10.cell? ⟨B, 0, none⟩ = some (.int .i64 W) := blk_cell kp 0
  have cp1 : w10.cell? ⟨B, 1, none⟩ = some (.int .i64 H) := blk_cell kp 1
  have cp2 : w10.cell? ⟨B, 2, none⟩ = some (.slice a n c) := blk_cell kp 2
  have hlr : B + 1 < w10.heap.size := blk_lt kr
  have cr0 : w10.cell? ⟨B + 1, 0, none⟩ = some (.int .i64 X) := blk_cell kr 0
  have cr1 : w10.cell? ⟨B + 1, 1, none⟩ = some (.int .i64 Y) := blk_cell kr 1
  have cr2 : w10.cell? ⟨B + 1, 2, none⟩ = some (.int .i64 RW) := blk_cell kr 2
  have cr3 : w10.cell? ⟨B + 1, 3, none⟩ = some (.int .i64 RH) := blk_cell kr 3
  have hlq : B + 2 < w10.heap.size := blk_lt kq
  have cq0 : w10.cell? ⟨B + 2, 0, none⟩ = some (.int .u8 (q.r.toNat : Int)) := blk_cell kq 0
  have cq1 : w10.cell? ⟨B + 2, 1, none⟩ = some (.int .u8 (q.g.toNat : Int)) := blk_cell kq 1
  have cq2 : w10.cell? ⟨B + 2, 2, none⟩ = some (.int .u8 (q.b.toNat : Int)) := blk_cell kq 2
  have cq3 : w10.cell? ⟨B + 2, 3, none⟩ = some (.int .u8 (q.a.toNat : Int)) := blk_cell kq 3
  have hlF : bF < w10.heap.size := blk_lt kF
  have cF0 : w10.cell? ⟨bF, 0, none⟩ = some (.int .i64 0) := blk_cell kF 0
  have cF1 : w10.cell? ⟨bF, 1, none⟩ = some (.int .i64 0) := blk_cell kF 1
  have cF2 : w10.cell? ⟨bF, 2, none⟩ = some (.slice none 0 0) := blk_cell kF 2
  have hlC : bC < w10.heap.size := blk_lt kC
  have cC0 : w10.cell? ⟨bC, 0, none⟩ = some (.int .i64 0) := blk_cell kC 0
  have cC1 : w10.cell? ⟨bC, 1, none⟩ = some (.int .i64 0) := blk_cell kC 1
  have cC2 : w10.cell? ⟨bC, 2, none⟩ = some (.slice none 0 0) := blk_cell kC 2
  go_wp2_with fail
  clear cp0 cp1 cp2 cr0 cr1 cr2 cr3 cq0 cq1 cq2 cq3 cF0 cF1 cF2 cC0 cC1 cC2 hlp hlr hlq hlF hlC
  refine (unhide HTe w10 (unhide HSe)).mono ?_
  rintro e w11 ⟨rfl, hbN⟩
  have hsz := hbN.size
  have kp := blk_below kp hbN (blk_lt kp)
  have kr := blk_below kr hbN (blk_lt kr)
  have kq := blk_below kq hbN (blk_lt kq)
  have kF := blk_below kF hbN (blk_lt kF)
  have kC := blk_below kC hbN (blk_lt kC)
  have HXp := hide ((unhide HXp).below hbN)
  have HSe := hide ((unhide HSe).below hbN)
  have HB := hide ((unhide HB).trans (hbN.mono (by omega)))
  have hs : B + 3 ≤ w11.heap.size := by omega
  clear hbN hsz
  have hlp : B < w11.heap.size := blk_lt kp
  have cp0 : w11.cell? ⟨B, 0, none⟩ = some (.int .i64 W) := blk_cell kp 0
  have cp1 : w11.cell? ⟨B, 1, none⟩ = some (.int .i64 H) := blk_cell kp 1
  have cp2 : w11.cell? ⟨B, 2, none⟩ = some (.slice a n c) := blk_cell kp 2
  have hlr : B + 1 < w11.heap.size := blk_lt kr
  have cr0 : w11.cell? ⟨B + 1, 0, none⟩ = some (.int .i64 X) := blk_cell kr 0
  have cr1 : w11.cell? ⟨B + 1, 1, none⟩ = some (.int .i64 Y) := blk_cell kr 1
  have cr2 : w11.cell? ⟨B + 1, 2, none⟩ = some (.int .i64 RW) := blk_cell kr 2
  have cr3 : w11.cell? ⟨B + 1, 3, none⟩ = some (.int .i64 RH) := blk_cell kr 3
  have hlq : B + 2 < w11.heap.size := blk_lt kq
  have cq0 : w11.cell? ⟨B + 2, 0, none⟩ = some (.int .u8 (q.r.toNat : Int)) := blk_cell kq 0
  have cq1 : w11.cell? ⟨B + 2, 1, none⟩ = some (.int .u8 (q.g.toNat : Int)) := blk_cell kq 1
  have cq2 : w11.cell? ⟨B + 2, 2, none⟩ = some (.int .u8 (q.b.toNat : Int)) := blk_cell kq 2
  have cq3 : w11.cell? ⟨B + 2, 3, none⟩ = some (.int .u8 (q.a.toNat : Int)) := blk_cell kq 3
  have hlF : bF < w11.heap.size := blk_lt kF
  have cF0 : w11.cell? ⟨bF, 0, none⟩ = some (.int .i64 0) := blk_cell kF 0
  have cF1 : w11.cell? ⟨bF, 1, none⟩ = some (.int .i64 0) := blk_cell kF 1
  have cF2 : w11.cell? ⟨bF, 2, none⟩ = some (.slice none 0 0) := blk_cell kF 2
  have hlC : bC < w11.heap.size := blk_lt kC
  have cC0 : w11.cell? ⟨bC, 0, none⟩ = some (.int .i64 0) := blk_cell kC 0
  have cC1 : w11.cell? ⟨bC, 1, none⟩ = some (.int .i64 0) := blk_cell kC 1
  have cC2 : w11.cell? ⟨bC, 2, none⟩ = some (.slice none 0 0) := blk_cell kC 2
  go_wp2_with fail
  clear cp0 cp1 cp2 cr0 cr1 cr2 cr3 cq0 cq1 cq2 cq3 cF0 cF1 cF2 cC0 cC1 cC2 hlp hlr hlq hlF hlC
  refine (unhide HTe w11 (unhide HSe)).mono ?_
  rintro e w12 ⟨rfl, hbN⟩
  have hsz := hbN.size
  have kp := blk_below kp hbN (blk_lt kp)
  have kr := blk_below kr hbN (blk_lt kr)
  have kq := blk_below kq hbN (blk_lt kq)
  have kF := blk_below kF hbN (blk_lt kF)
  have kC := blk_below kC hbN (blk_lt kC)
  have HXp := hide ((unhide HXp).below hbN)
  have HSe := hide ((unhide HSe).below hbN)
  have HB := hide ((unhide HB).trans (hbN.mono (by omega)))
  have hs : B + 3 ≤ w12.heap.size := by omega
  clear hbN hsz
  have hlp : B < w12.heap.size := blk_lt kp
  have cp0 : w12.cell? ⟨B, 0, none⟩ = some (.int .i64 W) := blk_cell kp 0
  have cp1 : w12.cell? ⟨B, 1, none⟩ = some (.int .i64 H) := blk_cell kp 1
  have cp2 : w12.cell? ⟨B, 2, none⟩ = some (.slice a n c) := blk_cell kp 2
  have hlr : B + 1 < w12.heap.size := blk_lt kr
  have cr0 : w12.cell? ⟨B + 1, 0, none⟩ = some (.int .i64 X) := blk_cell kr 0
  have cr1 : w12.cell? ⟨B + 1, 1, none⟩ = some (.int .i64 Y) := blk_cell kr 1
  have cr2 : w12.cell? ⟨B + 1, 2, none⟩ = some (.int .i64 RW) := blk_cell kr 2
  have cr3 : w12.cell? ⟨B + 1, 3, none⟩ = some (.int .i64 RH) := blk_cell kr 3
  have hlq : B + 2 < w12.heap.size := blk_lt kq
  have cq0 : w12.cell? ⟨B + 2, 0, none⟩ = some (.int .u8 (q.r.toNat : Int)) := blk_cell kq 0
  have cq1 : w12.cell? ⟨B + 2, 1, none⟩ = some (.int .u8 (q.g.toNat : Int)) := blk_cell kq 1
  have cq2 : w12.cell? ⟨B + 2, 2, none⟩ = some (.int .u8 (q.b.toNat : Int)) := blk_cell kq 2
  have cq3 : w12.cell? ⟨B + 2, 3, none⟩ = some (.int .u8 (q.a.toNat : Int)) := blk_cell kq 3
  have hlF : bF < w12.heap.size := blk_lt kF
  have cF0 : w12.cell? ⟨bF, 0, none⟩ = some (.int .i64 0) := blk_cell kF 0
  have cF1 : w12.cell? ⟨bF, 1, none⟩ = some (.int .i64 0) := blk_cell kF 1
  have cF2 : w12.cell? ⟨bF, 2, none⟩ = some (.slice none 0 0) := blk_cell kF 2
  have hlC : bC < w12.heap.size := blk_lt kC
  have cC0 : w12.cell? ⟨bC, 0, none⟩ = some (.int .i64 0) := blk_cell kC 0
  have cC1 : w12.cell? ⟨bC, 1, none⟩ = some (.int .i64 0) := blk_cell kC 1
  have cC2 : w12.cell? ⟨bC, 2, none⟩ = some (.slice none 0 0) := blk_cell kC 2
  go_wp2
  clear cp0 cp1 cp2 cr0 cr1 cr2 cr3 cq0 cq1 cq2 cq3 cF0 cF1 cF2 cC0 cC1 cC2 hlp hlr hlq hlF hlC
  go_ret
  exact ⟨rfl, by rw [← unhide HBE]; exact unhide HB⟩
set_option maxHeartbeats 4000000 in
set_option maxRecDepth 100000 in
theorem rasterParts_near1 (W H : Nat) (a : Option Addr) (n c : Nat) (p : Nat → Px) (X Y RW RH : Int) (q : Px) (w : World) (A : Nat → Addr) (hS : Sent w A) (hP : IsPx w a n p) (hn3 : n ≤ 3000) (hW0 : 1 ≤ W) (hW : W ≤ 256) (hH0 : 1 ≤ H) (hH : H ≤ 256) (hn : n = W * H) (hcb : ¬ ((0 ≤ X ∧ X < (W : Int) ∧ 0 ≤ Y ∧ Y < (H : Int)) ∧ 1 ≤ RW ∧ 1 ≤ RH ∧ RW ≤ (W : Int) - X ∧ RH ≤ (H : Int) - Y)) (n1 : ¬ Nr X) :
    Calls Tryd.prog 4 #[.agg #[.int .i64 (W : Int), .int .i64 (H : Int), .slice a n c], .agg #[.int .i64 X, .int .i64 Y, .int .i64 RW, .int .i64 RH], q.val] w fun e w' => e = .returned (.bool true) ∧ Below w.heap.size w w' := by
  have HPL := hide plainly_any
  have HSM := hide (fun w => small_any (W : Int) (H : Int) a n c w)
  rw [decide_eq_true hn3] at HSM
  have HX := hide hP
  have HS0 := hide hS
  have HRT := hide (fun w => pright_any (W : Int) (H : Int) a n c w)
  have HO := hide (fun w (h : IsPx w a n p) => own_isPx (W : Int) (H : Int) a n c p w h (by omega))
  rw [decide_eq_true (rightN hW0 hW hH0 hH hn)] at HRT
  have HTe := hide (fun w (h : Sent w A) => told_err 1 2 W H a n c w A h (by omega) rfl)
  have hM3 : W * H ≤ 100000 := by omega
  have HTo := hide (fun w (G : Nat → Px) a b c d (h1 : IsPx w a (W * H) G) (h2 : IsPx w b (W * H) G) => told_ok W H a b (W * H) c d G w h1 h2 hM3)
  have HN1 := hide (fun w => nearP_any (X : Int) w)
  rw [decide_eq_false n1] at HN1
  have HN2 := hide (fun w => nearP_any (Y : Int) w)
  have HN3 := hide (fun w => nearP_any (RW : Int) w)
  have HN4 := hide (fun w => nearP_any (RH : Int) w)
  have HF := hide (fun w a c (h : Sent w A) => fill_near W H a n c X Y RW RH q w _ _ (h.cell 1 (by omega)) hW0 hW hH0 hH hn (fun k => n1 k.1))
  have HC := hide (fun w a c (h : Sent w A) => crop_bound W H a n c X Y RW RH w _ _ (h.cell 1 (by omega)) hW0 hW hH0 hH hn hcb)
  have HCI := hide (fun w => cropIs_any W H a n c X Y RW RH w hW hH)
  rw [decide_eq_false hcb] at HCI
  clear hn3 hP hS hW0 hW hH0 hH hn hcb n1
  unfold Px.val at *
  have HA := hide (al3 w (.cells #[.int .i64 (W : Int), .int .i64 (H : Int), .slice a n c] 26) (.cells #[.int .i64 X, .int .i64 Y, .int .i64 RW, .int .i64 RH] 43) (.cells #[.int .u8 (q.r.toNat : Int), .int .u8 (q.g.toNat : Int), .int .u8 (q.b.toNat : Int), .int .u8 (q.a.toNat : Int)] 23))
  obtain ⟨B, hB⟩ : ∃ B, B = w.heap.size := ⟨_, rfl⟩
  go_enter Tryd.func4, Tryd.ntmps4
  go_wp2_with fail
  generalize (((w.alloc (.cells #[.int .i64 (W : Int), .int .i64 (H : Int), .slice a n c] 26)).alloc (.cells #[.int .i64 X, .int .i64 Y, .int .i64 RW, .int .i64 RH] 43)).alloc (.cells #[.int .u8 (q.r.toNat : Int), .int .u8 (q.g.toNat : Int), .int .u8 (q.b.toNat : Int), .int .u8 (q.a.toNat : Int)] 23)) = w1 at *
  rw [← hB] at HA ⊢
  obtain ⟨hs1, kp, kr, kq, hb1⟩ := unhide HA
  have HBE := hide hB
  clear HA hB
  have hs : B + 3 ≤ w1.heap.size := by omega
  have HB := hide hb1
  clear hs1 hb1
  have HXp := hide ((unhide HX).under (unhide HB) (fun x hx h0 => by rw [unhide HBE]; exact (unhide HX).lt x hx h0))
  have HSe := hide ((unhide HS0).below (by rw [← unhide HBE]; exact unhide HB))
  clear HX HS0
  refine (unhide HPL _).mono ?_
  rintro e w2 ⟨rfl, hbN⟩
  have hsz := hbN.size
  have kp := blk_below kp hbN (blk_lt kp)
  have kr := blk_below kr hbN (blk_lt kr)
  have kq := blk_below kq hbN (blk_lt kq)
  have HXp := hide ((unhide HXp).below hbN)
  have HSe := hide ((unhide HSe).below hbN)
  have HB := hide ((unhide HB).trans (hbN.mono (by omega)))
  have hs : B + 3 ≤ w2.heap.size := by omega
  clear hbN hsz
  have hlp : B < w2.heap.size := blk_lt kp
  have cp0 : w2.cell? ⟨B, 0, none⟩ = some (.int .i64 (W : Int)) := blk_cell kp 0
  have cp1 : w2.cell? ⟨B, 1, none⟩ = some (.int .i64 (H : Int)) := blk_cell kp 1
  have cp2 : w2.cell? ⟨B, 2, none⟩ = some (.slice a n c) := blk_cell kp 2
  have hlr : B + 1 < w2.heap.size := blk_lt kr
  have cr0 : w2.cell? ⟨B + 1, 0, none⟩ = some (.int .i64 X) := blk_cell kr 0
  have cr1 : w2.cell? ⟨B + 1, 1, none⟩ = some (.int .i64 Y) := blk_cell kr 1
  have cr2 : w2.cell? ⟨B + 1, 2, none⟩ = some (.int .i64 RW) := blk_cell kr 2
  have cr3 : w2.cell? ⟨B + 1, 3, none⟩ = some (.int .i64 RH) := blk_cell kr 3
  have hlq : B + 2 < w2.heap.size := blk_lt kq
  have cq0 : w2.cell? ⟨B + 2, 0, none⟩ = some (.int .u8 (q.r.toNat : Int)) := blk_cell kq 0
  have cq1 : w2.cell? ⟨B + 2, 1, none⟩ = some (.int .u8 (q.g.toNat : Int)) := blk_cell kq 1
  have cq2 : w2.cell? ⟨B + 2, 2, none⟩ = some (.int .u8 (q.b.toNat : Int)) := blk_cell kq 2
  have cq3 : w2.cell? ⟨B + 2, 3, none⟩ = some (.int .u8 (q.a.toNat : Int)) := blk_cell kq 3
  go_wp2_with fail
  clear cp0 cp1 cp2 cr0 cr1 cr2 cr3 cq0 cq1 cq2 cq3 hlp hlr hlq
  refine (unhide HSM _).mono ?_
  rintro e w3 ⟨rfl, hbN⟩
  have hsz := hbN.size
  have kp := blk_below kp hbN (blk_lt kp)
  have kr := blk_below kr hbN (blk_lt kr)
  have kq := blk_below kq hbN (blk_lt kq)
  have HXp := hide ((unhide HXp).below hbN)
  have HSe := hide ((unhide HSe).below hbN)
  have HB := hide ((unhide HB).trans (hbN.mono (by omega)))
  have hs : B + 3 ≤ w3.heap.size := by omega
  clear hbN hsz
  have hlp : B < w3.heap.size := blk_lt kp
  have cp0 : w3.cell? ⟨B, 0, none⟩ = some (.int .i64 (W : Int)) := blk_cell kp 0
  have cp1 : w3.cell? ⟨B, 1, none⟩ = some (.int .i64 (H : Int)) := blk_cell kp 1
  have cp2 : w3.cell? ⟨B, 2, none⟩ = some (.slice a n c) := blk_cell kp 2
  have hlr : B + 1 < w3.heap.size := blk_lt kr
  have cr0 : w3.cell? ⟨B + 1, 0, none⟩ = some (.int .i64 X) := blk_cell kr 0
  have cr1 : w3.cell? ⟨B + 1, 1, none⟩ = some (.int .i64 Y) := blk_cell kr 1
  have cr2 : w3.cell? ⟨B + 1, 2, none⟩ = some (.int .i64 RW) := blk_cell kr 2
  have cr3 : w3.cell? ⟨B + 1, 3, none⟩ = some (.int .i64 RH) := blk_cell kr 3
  have hlq : B + 2 < w3.heap.size := blk_lt kq
  have cq0 : w3.cell? ⟨B + 2, 0, none⟩ = some (.int .u8 (q.r.toNat : Int)) := blk_cell kq 0
  have cq1 : w3.cell? ⟨B + 2, 1, none⟩ = some (.int .u8 (q.g.toNat : Int)) := blk_cell kq 1
  have cq2 : w3.cell? ⟨B + 2, 2, none⟩ = some (.int .u8 (q.b.toNat : Int)) := blk_cell kq 2
  have cq3 : w3.cell? ⟨B + 2, 3, none⟩ = some (.int .u8 (q.a.toNat : Int)) := blk_cell kq 3
  go_wp2
  clear cp0 cp1 cp2 cr0 cr1 cr2 cr3 cq0 cq1 cq2 cq3 hlp hlr hlq
  apply once1 (fun wf bf ao co => w3.heap.size ≤ bf ∧ wf.heap[bf]? = some (.cells #[.int .i64 0, .int .i64 0, .slice none 0 0] 26) ∧ Below w3.heap.size w3 wf)
  · intro hrest
    have hlp : B < w3.heap.size := blk_lt kp
    have cp0 : w3.cell? ⟨B, 0, none⟩ = some (.int .i64 (W : Int)) := blk_cell kp 0
    have cp1 : w3.cell? ⟨B, 1, none⟩ = some (.int .i64 (H : Int)) := blk_cell kp 1
    have cp2 : w3.cell? ⟨B, 2, none⟩ = some (.slice a n c) := blk_cell kp 2
    have hlr : B + 1 < w3.heap.size := blk_lt kr
    have cr0 : w3.cell? ⟨B + 1, 0, none⟩ = some (.int .i64 X) := blk_cell kr 0
    have cr1 : w3.cell? ⟨B + 1, 1, none⟩ = some (.int .i64 Y) := blk_cell kr 1
    have cr2 : w3.cell? ⟨B + 1, 2, none⟩ = some (.int .i64 RW) := blk_cell kr 2
    have cr3 : w3.cell? ⟨B + 1, 3, none⟩ = some (.int .i64 RH) := blk_cell kr 3
    have hlq : B + 2 < w3.heap.size := blk_lt kq
    have cq0 : w3.cell? ⟨B + 2, 0, none⟩ = some (.int .u8 (q.r.toNat : Int)) := blk_cell kq 0
    have cq1 : w3.cell? ⟨B + 2, 1, none⟩ = some (.int .u8 (q.g.toNat : Int)) := blk_cell kq 1
    have cq2 : w3.cell? ⟨B + 2, 2, none⟩ = some (.int .u8 (q.b.toNat : Int)) := blk_cell kq 2
    have cq3 : w3.cell? ⟨B + 2, 3, none⟩ = some (.int .u8 (q.a.toNat : Int)) := blk_cell kq 3
    have hKS := hide (fun wx (h : Below w3.heap.size w3 wx) => (⟨bcell h hlp cp0, bcell h hlp cp1, bcell h hlp cp2, bcell h hlr cr0, bcell h hlr cr1, bcell h hlr cr2, bcell h hlr cr3, bcell h hlq cq0, bcell h hlq cq1, bcell h hlq cq2, bcell h hlq cq3⟩ : wx.cell? ⟨B, 0, none⟩ = some (.int .i64 (W : Int)) ∧ wx.cell? ⟨B, 1, none⟩ = some (.int .i64 (H : Int)) ∧ wx.cell? ⟨B, 2, none⟩ = some (.slice a n c) ∧ wx.cell? ⟨B + 1, 0, none⟩ = some (.int .i64 X) ∧ wx.cell? ⟨B + 1, 1, none⟩ = some (.int .i64 Y) ∧ wx.cell? ⟨B + 1, 2, none⟩ = some (.int .i64 RW) ∧ wx.cell? ⟨B + 1, 3, none⟩ = some (.int .i64 RH) ∧ wx.cell? ⟨B + 2, 0, none⟩ = some (.int .u8 (q.r.toNat : Int)) ∧ wx.cell? ⟨B + 2, 1, none⟩ = some (.int .u8 (q.g.toNat : Int)) ∧ wx.cell? ⟨B + 2, 2, none⟩ = some (.int .u8 (q.b.toNat : Int)) ∧ wx.cell? ⟨B + 2, 3, none⟩ = some (.int .u8 (q.a.toNat : Int))))
    have hdr := (Below.refl w3.heap.size w3).drew
    go_region_held (fun w' => w'.cell? ⟨B, 0, none⟩ = some (.int .i64 (W : Int)) ∧ w'.cell? ⟨B, 1, none⟩ = some (.int .i64 (H : Int)) ∧ w'.cell? ⟨B, 2, none⟩ = some (.slice a n c) ∧ w'.cell? ⟨B + 1, 0, none⟩ = some (.int .i64 X) ∧ w'.cell? ⟨B + 1, 1, none⟩ = some (.int .i64 Y) ∧ w'.cell? ⟨B + 1, 2, none⟩ = some (.int .i64 RW) ∧ w'.cell? ⟨B + 1, 3, none⟩ = some (.int .i64 RH) ∧ w'.cell? ⟨B + 2, 0, none⟩ = some (.int .u8 (q.r.toNat : Int)) ∧ w'.cell? ⟨B + 2, 1, none⟩ = some (.int .u8 (q.g.toNat : Int)) ∧ w'.cell? ⟨B + 2, 2, none⟩ = some (.int .u8 (q.b.toNat : Int)) ∧ w'.cell? ⟨B + 2, 3, none⟩ = some (.int .u8 (q.a.toNat : Int))) (exact unhide hKS _ (by (first | with_reducible exact hqw5 | with_reducible exact hqw4 | with_reducible exact hdr | with_reducible exact hqw5.alloc hqw5.size _ | with_reducible exact hqw4.alloc hqw4.size _ | with_reducible exact ((Below.refl _ _).alloc (Nat.le_refl _) _).drew | with_reducible exact set3_below hqw5 (Nat.le_refl _) _ _ _ | with_reducible exact set3_below hqw5 hqw4.size _ _ _ | with_reducible exact set3_below (hqw5.alloc hqw5.size _) hqw5.size _ _ _ | exact hqw5.alloc hqw5.size _))) (first | (go_at_call 16; refine (unhide HO _ ((unhide HXp).below (by (first | with_reducible exact hqw5 | with_reducible exact hqw4 | with_reducible exact hdr | with_reducible exact hqw5.alloc hqw5.size _ | with_reducible exact hqw4.alloc hqw4.size _ | with_reducible exact ((Below.refl _ _).alloc (Nat.le_refl _) _).drew | with_reducible exact set3_below hqw5 (Nat.le_refl _) _ _ _ | with_reducible exact set3_below hqw5 hqw4.size _ _ _ | with_reducible exact set3_below (hqw5.alloc hqw5.size _) hqw5.size _ _ _ | exact hqw5.alloc hqw5.size _)))).mono ?_; rintro e w4 ⟨ao, co, rfl, hpo, hbw4⟩; have hqw4 := bel_trans (w := w3) (by (first | with_reducible exact hqw5 | with_reducible exact hqw4 | with_reducible exact hdr | with_reducible exact hqw5.alloc hqw5.size _ | with_reducible exact hqw4.alloc hqw4.size _ | with_reducible exact ((Below.refl _ _).alloc (Nat.le_refl _) _).drew | with_reducible exact set3_below hqw5 (Nat.le_refl _) _ _ _ | with_reducible exact set3_below hqw5 hqw4.size _ _ _ | with_reducible exact set3_below (hqw5.alloc hqw5.size _) hqw5.size _ _ _ | exact hqw5.alloc hqw5.size _)) hbw4; (try (have kzw4 : w4.heap[w3.heap.size]? = some (.cells #[.int .i64 0, .int .i64 0, .slice none 0 0] 26) := blk_below (show ((w3.alloc (.cells #[.int .i64 0, .int .i64 0, .slice none 0 0] 26)).drew).heap[w3.heap.size]? = some (.cells #[.int .i64 0, .int .i64 0, .slice none 0 0] 26) from heap_alloc_new w3 _) hbw4 (by show _ < (w3.alloc _).heap.size; simp))); (try (have zw40 : w4.cell? ⟨_, 0, none⟩ = some (.int .i64 0) := blk_cell kzw4 0)); (try (have zfw40 := blk_frozen kzw4 0)); (try (have zw41 : w4.cell? ⟨_, 1, none⟩ = some (.int .i64 0) := blk_cell kzw4 1)); (try (have zfw41 := blk_frozen kzw4 1)); (try (have zw42 : w4.cell? ⟨_, 2, none⟩ = some (.slice none 0 0) := blk_cell kzw4 2)); (try (have zfw42 := blk_frozen kzw4 2))) | (go_at_call 20; refine (unhide HF _ _ _ ((unhide HSe).below (by (first | with_reducible exact hqw5 | with_reducible exact hqw4 | with_reducible exact hdr | with_reducible exact hqw5.alloc hqw5.size _ | with_reducible exact hqw4.alloc hqw4.size _ | with_reducible exact ((Below.refl _ _).alloc (Nat.le_refl _) _).drew | with_reducible exact set3_below hqw5 (Nat.le_refl _) _ _ _ | with_reducible exact set3_below hqw5 hqw4.size _ _ _ | with_reducible exact set3_below (hqw5.alloc hqw5.size _) hqw5.size _ _ _ | exact hqw5.alloc hqw5.size _)))).mono ?_; rintro e w5 ⟨rfl, hbw5⟩; have hqw5 := bel_trans (w := w3) (by (first | with_reducible exact hqw5 | with_reducible exact hqw4 | with_reducible exact hdr | with_reducible exact hqw5.alloc hqw5.size _ | with_reducible exact hqw4.alloc hqw4.size _ | with_reducible exact ((Below.refl _ _).alloc (Nat.le_refl _) _).drew | with_reducible exact set3_below hqw5 (Nat.le_refl _) _ _ _ | with_reducible exact set3_below hqw5 hqw4.size _ _ _ | with_reducible exact set3_below (hqw5.alloc hqw5.size _) hqw5.size _ _ _ | exact hqw5.alloc hqw5.size _)) hbw5; (try (have kzw5 := blk_below kzw4 hbw5 (blk_lt kzw4))); (try (have kzw5 : w5.heap[w4.heap.size]? = some (.cells #[.int .i64 0, .int .i64 0, .slice none 0 0] 26) := blk_below (heap_alloc_new w4 _) hbw5 (by simp))); (try (have zw50 : w5.cell? ⟨_, 0, none⟩ = some (.int .i64 0) := blk_cell kzw5 0)); (try (have zfw50 := blk_frozen kzw5 0)); (try (have zw51 : w5.cell? ⟨_, 1, none⟩ = some (.int .i64 0) := blk_cell kzw5 1)); (try (have zfw51 := blk_frozen kzw5 1)); (try (have zw52 : w5.cell? ⟨_, 2, none⟩ = some (.slice none 0 0) := blk_cell kzw5 2)); (try (have zfw52 := blk_frozen kzw5 2))))
    all_goals
      first
      | (have hfin := fin3 (w := w3) kzw5 hqw5 (Nat.le_refl _) (.int .i64 0) (.int .i64 0) (.slice none 0 0); have hA := hfin.blk; have hB := hfin.below; clear hfin; generalize ((w5.setCell ⟨w3.heap.size, 0, none⟩ (.int .i64 0)).setCell ⟨w3.heap.size, 1, none⟩ (.int .i64 0)).setCell ⟨w3.heap.size, 2, none⟩ (.slice none 0 0) = wf at *; obtain ⟨bf, hbf⟩ : ∃ b, b = w3.heap.size := ⟨_, rfl⟩; have hge : w3.heap.size ≤ bf := Nat.le_trans (Nat.le_refl _) (Nat.le_of_eq hbf.symm); rw [← hbf] at hA ⊢; exact hrest wf bf ao co ⟨hge, hA, hB⟩)
      | (have hfin := fin3 (w := w3) kzw5 hqw5 (hqw4.size) (.int .i64 0) (.int .i64 0) (.slice none 0 0); have hA := hfin.blk; have hB := hfin.below; clear hfin; generalize ((w5.setCell ⟨w4.heap.size, 0, none⟩ (.int .i64 0)).setCell ⟨w4.heap.size, 1, none⟩ (.int .i64 0)).setCell ⟨w4.heap.size, 2, none⟩ (.slice none 0 0) = wf at *; obtain ⟨bf, hbf⟩ : ∃ b, b = w4.heap.size := ⟨_, rfl⟩; have hge : w3.heap.size ≤ bf := Nat.le_trans (hqw4.size) (Nat.le_of_eq hbf.symm); rw [← hbf] at hA ⊢; exact hrest wf bf ao co ⟨hge, hA, hB⟩)
      | (have hA := heap_alloc_new w5 (.cells #[.int .i64 0, .int .i64 0, .slice none 0 0] 26); have hB := hqw5.alloc hqw5.size (.cells #[.int .i64 0, .int .i64 0, .slice none 0 0] 26); generalize w5.alloc (.cells #[.int .i64 0, .int .i64 0, .slice none 0 0] 26) = wf at *; obtain ⟨bf, hbf⟩ : ∃ b, b = w5.heap.size := ⟨_, rfl⟩; have hge : w3.heap.size ≤ bf := Nat.le_trans hqw5.size (Nat.le_of_eq hbf.symm); rw [← hbf] at hA ⊢; exact hrest wf bf ao co ⟨hge, hA, hB⟩)
  rintro w6 bF ao co ⟨hge, kF, hbN⟩
  have ltFp : B < bF := Nat.lt_of_lt_of_le (blk_lt kp) hge
  have ltFr : B + 1 < bF := Nat.lt_of_lt_of_le (blk_lt kr) hge
  have ltFq : B + 2 < bF := Nat.lt_of_lt_of_le (blk_lt kq) hge
  clear hge
  have hsz := hbN.size
  have kp := blk_below kp hbN (blk_lt kp)
  have kr := blk_below kr hbN (blk_lt kr)
  have kq := blk_below kq hbN (blk_lt kq)
  have HXp := hide ((unhide HXp).below hbN)
  have HSe := hide ((unhide HSe).below hbN)
  have HB := hide ((unhide HB).trans (hbN.mono (by omega)))
  have hs : B + 3 ≤ w6.heap.size := by omega
  clear hbN hsz
  have hlp : B < w6.heap.size := blk_lt kp
  have cp0 : w6.cell? ⟨B, 0, none⟩ = some (.int .i64 (W : Int)) := blk_cell kp 0
  have cp1 : w6.cell? ⟨B, 1, none⟩ = some (.int .i64 (H : Int)) := blk_cell kp 1
  have cp2 : w6.cell? ⟨B, 2, none⟩ = some (.slice a n c) := blk_cell kp 2
  have hlr : B + 1 < w6.heap.size := blk_lt kr
  have cr0 : w6.cell? ⟨B + 1, 0, none⟩ = some (.int .i64 X) := blk_cell kr 0
  have cr1 : w6.cell? ⟨B + 1, 1, none⟩ = some (.int .i64 Y) := blk_cell kr 1
  have cr2 : w6.cell? ⟨B + 1, 2, none⟩ = some (.int .i64 RW) := blk_cell kr 2
  have cr3 : w6.cell? ⟨B + 1, 3, none⟩ = some (.int .i64 RH) := blk_cell kr 3
  have hlq : B + 2 < w6.heap.size := blk_lt kq
  have cq0 : w6.cell? ⟨B + 2, 0, none⟩ = some (.int .u8 (q.r.toNat : Int)) := blk_cell kq 0
  have cq1 : w6.cell? ⟨B + 2, 1, none⟩ = some (.int .u8 (q.g.toNat : Int)) := blk_cell kq 1
  have cq2 : w6.cell? ⟨B + 2, 2, none⟩ = some (.int .u8 (q.b.toNat : Int)) := blk_cell kq 2
  have cq3 : w6.cell? ⟨B + 2, 3, none⟩ = some (.int .u8 (q.a.toNat : Int)) := blk_cell kq 3
  have hlF : bF < w6.heap.size := blk_lt kF
  have cF0 : w6.cell? ⟨bF, 0, none⟩ = some (.int .i64 0) := blk_cell kF 0
  have cF1 : w6.cell? ⟨bF, 1, none⟩ = some (.int .i64 0) := blk_cell kF 1
  have cF2 : w6.cell? ⟨bF, 2, none⟩ = some (.slice none 0 0) := blk_cell kF 2
  go_wp2
  clear cp0 cp1 cp2 cr0 cr1 cr2 cr3 cq0 cq1 cq2 cq3 cF0 cF1 cF2 hlp hlr hlq hlF
  apply once1 (fun wf bf ao2 co2 => w6.heap.size ≤ bf ∧ wf.heap[bf]? = some (.cells #[.int .i64 0, .int .i64 0, .slice none 0 0] 26) ∧ Below w6.heap.size w6 wf)
  · intro hrest
    have hlp : B < w6.heap.size := blk_lt kp
    have cp0 : w6.cell? ⟨B, 0, none⟩ = some (.int .i64 (W : Int)) := blk_cell kp 0
    have cp1 : w6.cell? ⟨B, 1, none⟩ = some (.int .i64 (H : Int)) := blk_cell kp 1
    have cp2 : w6.cell? ⟨B, 2, none⟩ = some (.slice a n c) := blk_cell kp 2
    have hlr : B + 1 < w6.heap.size := blk_lt kr
    have cr0 : w6.cell? ⟨B + 1, 0, none⟩ = some (.int .i64 X) := blk_cell kr 0
    have cr1 : w6.cell? ⟨B + 1, 1, none⟩ = some (.int .i64 Y) := blk_cell kr 1
    have cr2 : w6.cell? ⟨B + 1, 2, none⟩ = some (.int .i64 RW) := blk_cell kr 2
    have cr3 : w6.cell? ⟨B + 1, 3, none⟩ = some (.int .i64 RH) := blk_cell kr 3
    have hlq : B + 2 < w6.heap.size := blk_lt kq
    have cq0 : w6.cell? ⟨B + 2, 0, none⟩ = some (.int .u8 (q.r.toNat : Int)) := blk_cell kq 0
    have cq1 : w6.cell? ⟨B + 2, 1, none⟩ = some (.int .u8 (q.g.toNat : Int)) := blk_cell kq 1
    have cq2 : w6.cell? ⟨B + 2, 2, none⟩ = some (.int .u8 (q.b.toNat : Int)) := blk_cell kq 2
    have cq3 : w6.cell? ⟨B + 2, 3, none⟩ = some (.int .u8 (q.a.toNat : Int)) := blk_cell kq 3
    have hlF : bF < w6.heap.size := blk_lt kF
    have cF0 : w6.cell? ⟨bF, 0, none⟩ = some (.int .i64 0) := blk_cell kF 0
    have cF1 : w6.cell? ⟨bF, 1, none⟩ = some (.int .i64 0) := blk_cell kF 1
    have cF2 : w6.cell? ⟨bF, 2, none⟩ = some (.slice none 0 0) := blk_cell kF 2
    have hKS := hide (fun wx (h : Below w6.heap.size w6 wx) => (⟨bcell h hlp cp0, bcell h hlp cp1, bcell h hlp cp2, bcell h hlr cr0, bcell h hlr cr1, bcell h hlr cr2, bcell h hlr cr3⟩ : wx.cell? ⟨B, 0, none⟩ = some (.int .i64 (W : Int)) ∧ wx.cell? ⟨B, 1, none⟩ = some (.int .i64 (H : Int)) ∧ wx.cell? ⟨B, 2, none⟩ = some (.slice a n c) ∧ wx.cell? ⟨B + 1, 0, none⟩ = some (.int .i64 X) ∧ wx.cell? ⟨B + 1, 1, none⟩ = some (.int .i64 Y) ∧ wx.cell? ⟨B + 1, 2, none⟩ = some (.int .i64 RW) ∧ wx.cell? ⟨B + 1, 3, none⟩ = some (.int .i64 RH)))
    have hdr := (Below.refl w6.heap.size w6).drew
    go_region_held (fun w' => w'.cell? ⟨B, 0, none⟩ = some (.int .i64 (W : Int)) ∧ w'.cell? ⟨B, 1, none⟩ = some (.int .i64 (H : Int)) ∧ w'.cell? ⟨B, 2, none⟩ = some (.slice a n c) ∧ w'.cell? ⟨B + 1, 0, none⟩ = some (.int .i64 X) ∧ w'.cell? ⟨B + 1, 1, none⟩ = some (.int .i64 Y) ∧ w'.cell? ⟨B + 1, 2, none⟩ = some (.int .i64 RW) ∧ w'.cell? ⟨B + 1, 3, none⟩ = some (.int .i64 RH)) (exact unhide hKS _ (by (first | with_reducible exact hqw8 | with_reducible exact hqw7 | with_reducible exact hdr | with_reducible exact hqw8.alloc hqw8.size _ | with_reducible exact hqw7.alloc hqw7.size _ | with_reducible exact ((Below.refl _ _).alloc (Nat.le_refl _) _).drew | with_reducible exact set3_below hqw8 (Nat.le_refl _) _ _ _ | with_reducible exact set3_below hqw8 hqw7.size _ _ _ | with_reducible exact set3_below (hqw8.alloc hqw8.size _) hqw8.size _ _ _ | exact hqw8.alloc hqw8.size _))) (first | (go_at_call 16; refine (unhide HO _ ((unhide HXp).below (by (first | with_reducible exact hqw8 | with_reducible exact hqw7 | with_reducible exact hdr | with_reducible exact hqw8.alloc hqw8.size _ | with_reducible exact hqw7.alloc hqw7.size _ | with_reducible exact ((Below.refl _ _).alloc (Nat.le_refl _) _).drew | with_reducible exact set3_below hqw8 (Nat.le_refl _) _ _ _ | with_reducible exact set3_below hqw8 hqw7.size _ _ _ | with_reducible exact set3_below (hqw8.alloc hqw8.size _) hqw8.size _ _ _ | exact hqw8.alloc hqw8.size _)))).mono ?_; rintro e w7 ⟨ao2, co2, rfl, hpo, hbw7⟩; have hqw7 := bel_trans (w := w6) (by (first | with_reducible exact hqw8 | with_reducible exact hqw7 | with_reducible exact hdr | with_reducible exact hqw8.alloc hqw8.size _ | with_reducible exact hqw7.alloc hqw7.size _ | with_reducible exact ((Below.refl _ _).alloc (Nat.le_refl _) _).drew | with_reducible exact set3_below hqw8 (Nat.le_refl _) _ _ _ | with_reducible exact set3_below hqw8 hqw7.size _ _ _ | with_reducible exact set3_below (hqw8.alloc hqw8.size _) hqw8.size _ _ _ | exact hqw8.alloc hqw8.size _)) hbw7; (try (have kzw7 : w7.heap[w6.heap.size]? = some (.cells #[.int .i64 0, .int .i64 0, .slice none 0 0] 26) := blk_below (show ((w6.alloc (.cells #[.int .i64 0, .int .i64 0, .slice none 0 0] 26)).drew).heap[w6.heap.size]? = some (.cells #[.int .i64 0, .int .i64 0, .slice none 0 0] 26) from heap_alloc_new w6 _) hbw7 (by show _ < (w6.alloc _).heap.size; simp))); (try (have zw70 : w7.cell? ⟨_, 0, none⟩ = some (.int .i64 0) := blk_cell kzw7 0)); (try (have zfw70 := blk_frozen kzw7 0)); (try (have zw71 : w7.cell? ⟨_, 1, none⟩ = some (.int .i64 0) := blk_cell kzw7 1)); (try (have zfw71 := blk_frozen kzw7 1)); (try (have zw72 : w7.cell? ⟨_, 2, none⟩ = some (.slice none 0 0) := blk_cell kzw7 2)); (try (have zfw72 := blk_frozen kzw7 2))) | (go_at_call 21; refine (unhide HC _ _ _ ((unhide HSe).below (by (first | with_reducible exact hqw8 | with_reducible exact hqw7 | with_reducible exact hdr | with_reducible exact hqw8.alloc hqw8.size _ | with_reducible exact hqw7.alloc hqw7.size _ | with_reducible exact ((Below.refl _ _).alloc (Nat.le_refl _) _).drew | with_reducible exact set3_below hqw8 (Nat.le_refl _) _ _ _ | with_reducible exact set3_below hqw8 hqw7.size _ _ _ | with_reducible exact set3_below (hqw8.alloc hqw8.size _) hqw8.size _ _ _ | exact hqw8.alloc hqw8.size _)))).mono ?_; rintro e w8 ⟨rfl, hbw8⟩; have hqw8 := bel_trans (w := w6) (by (first | with_reducible exact hqw8 | with_reducible exact hqw7 | with_reducible exact hdr | with_reducible exact hqw8.alloc hqw8.size _ | with_reducible exact hqw7.alloc hqw7.size _ | with_reducible exact ((Below.refl _ _).alloc (Nat.le_refl _) _).drew | with_reducible exact set3_below hqw8 (Nat.le_refl _) _ _ _ | with_reducible exact set3_below hqw8 hqw7.size _ _ _ | with_reducible exact set3_below (hqw8.alloc hqw8.size _) hqw8.size _ _ _ | exact hqw8.alloc hqw8.size _)) hbw8; (try (have kzw8 := blk_below kzw7 hbw8 (blk_lt kzw7))); (try (have kzw8 : w8.heap[w7.heap.size]? = some (.cells #[.int .i64 0, .int .i64 0, .slice none 0 0] 26) := blk_below (heap_alloc_new w7 _) hbw8 (by simp))); (try (have zw80 : w8.cell? ⟨_, 0, none⟩ = some (.int .i64 0) := blk_cell kzw8 0)); (try (have zfw80 := blk_frozen kzw8 0)); (try (have zw81 : w8.cell? ⟨_, 1, none⟩ = some (.int .i64 0) := blk_cell kzw8 1)); (try (have zfw81 := blk_frozen kzw8 1)); (try (have zw82 : w8.cell? ⟨_, 2, none⟩ = some (.slice none 0 0) := blk_cell kzw8 2)); (try (have zfw82 := blk_frozen kzw8 2))))
    all_goals
      first
      | (have hfin := fin3 (w := w6) kzw8 hqw8 (Nat.le_refl _) (.int .i64 0) (.int .i64 0) (.slice none 0 0); have hA := hfin.blk; have hB := hfin.below; clear hfin; generalize ((w8.setCell ⟨w6.heap.size, 0, none⟩ (.int .i64 0)).setCell ⟨w6.heap.size, 1, none⟩ (.int .i64 0)).setCell ⟨w6.heap.size, 2, none⟩ (.slice none 0 0) = wf at *; obtain ⟨bf, hbf⟩ : ∃ b, b = w6.heap.size := ⟨_, rfl⟩; have hge : w6.heap.size ≤ bf := Nat.le_trans (Nat.le_refl _) (Nat.le_of_eq hbf.symm); rw [← hbf] at hA ⊢; exact hrest wf bf ao2 co2 ⟨hge, hA, hB⟩)
      | (have hfin := fin3 (w := w6) kzw8 hqw8 (hqw7.size) (.int .i64 0) (.int .i64 0) (.slice none 0 0); have hA := hfin.blk; have hB := hfin.below; clear hfin; generalize ((w8.setCell ⟨w7.heap.size, 0, none⟩ (.int .i64 0)).setCell ⟨w7.heap.size, 1, none⟩ (.int .i64 0)).setCell ⟨w7.heap.size, 2, none⟩ (.slice none 0 0) = wf at *; obtain ⟨bf, hbf⟩ : ∃ b, b = w7.heap.size := ⟨_, rfl⟩; have hge : w6.heap.size ≤ bf := Nat.le_trans (hqw7.size) (Nat.le_of_eq hbf.symm); rw [← hbf] at hA ⊢; exact hrest wf bf ao2 co2 ⟨hge, hA, hB⟩)
      | (have hA := heap_alloc_new w8 (.cells #[.int .i64 0, .int .i64 0, .slice none 0 0] 26); have hB := hqw8.alloc hqw8.size (.cells #[.int .i64 0, .int .i64 0, .slice none 0 0] 26); generalize w8.alloc (.cells #[.int .i64 0, .int .i64 0, .slice none 0 0] 26) = wf at *; obtain ⟨bf, hbf⟩ : ∃ b, b = w8.heap.size := ⟨_, rfl⟩; have hge : w6.heap.size ≤ bf := Nat.le_trans hqw8.size (Nat.le_of_eq hbf.symm); rw [← hbf] at hA ⊢; exact hrest wf bf ao2 co2 ⟨hge, hA, hB⟩)
  rintro w9 bC ao2 co2 ⟨hge, kC, hbN⟩
  have ltCp : B < bC := Nat.lt_of_lt_of_le (blk_lt kp) hge
  have ltCr : B + 1 < bC := Nat.lt_of_lt_of_le (blk_lt kr) hge
  have ltCq : B + 2 < bC := Nat.lt_of_lt_of_le (blk_lt kq) hge
  have ltCF : bF < bC := Nat.lt_of_lt_of_le (blk_lt kF) hge
  clear hge
  have hsz := hbN.size
  have kp := blk_below kp hbN (blk_lt kp)
  have kr := blk_below kr hbN (blk_lt kr)
  have kq := blk_below kq hbN (blk_lt kq)
  have kF := blk_below kF hbN (blk_lt kF)
  have HXp := hide ((unhide HXp).below hbN)
  have HSe := hide ((unhide HSe).below hbN)
  have HB := hide ((unhide HB).trans (hbN.mono (by omega)))
  have hs : B + 3 ≤ w9.heap.size := by omega
  clear hbN hsz
  have hlp : B < w9.heap.size := blk_lt kp
  have cp0 : w9.cell? ⟨B, 0, none⟩ = some (.int .i64 (W : Int)) := blk_cell kp 0
  have cp1 : w9.cell? ⟨B, 1, none⟩ = some (.int .i64 (H : Int)) := blk_cell kp 1
  have cp2 : w9.cell? ⟨B, 2, none⟩ = some (.slice a n c) := blk_cell kp 2
  have hlr : B + 1 < w9.heap.size := blk_lt kr
  have cr0 : w9.cell? ⟨B + 1, 0, none⟩ = some (.int .i64 X) := blk_cell kr 0
  have cr1 : w9.cell? ⟨B + 1, 1, none⟩ = some (.int .i64 Y) := blk_cell kr 1
  have cr2 : w9.cell? ⟨B + 1, 2, none⟩ = some (.int .i64 RW) := blk_cell kr 2
  have cr3 : w9.cell? ⟨B + 1, 3, none⟩ = some (.int .i64 RH) := blk_cell kr 3
  have hlq : B + 2 < w9.heap.size := blk_lt kq
  have cq0 : w9.cell? ⟨B + 2, 0, none⟩ = some (.int .u8 (q.r.toNat : Int)) := blk_cell kq 0
  have cq1 : w9.cell? ⟨B + 2, 1, none⟩ = some (.int .u8 (q.g.toNat : Int)) := blk_cell kq 1
  have cq2 : w9.cell? ⟨B + 2, 2, none⟩ = some (.int .u8 (q.b.toNat : Int)) := blk_cell kq 2
  have cq3 : w9.cell? ⟨B + 2, 3, none⟩ = some (.int .u8 (q.a.toNat : Int)) := blk_cell kq 3
  have hlF : bF < w9.heap.size := blk_lt kF
  have cF0 : w9.cell? ⟨bF, 0, none⟩ = some (.int .i64 0) := blk_cell kF 0
  have cF1 : w9.cell? ⟨bF, 1, none⟩ = some (.int .i64 0) := blk_cell kF 1
  have cF2 : w9.cell? ⟨bF, 2, none⟩ = some (.slice none 0 0) := blk_cell kF 2
  have hlC : bC < w9.heap.size := blk_lt kC
  have cC0 : w9.cell? ⟨bC, 0, none⟩ = some (.int .i64 0) := blk_cell kC 0
  have cC1 : w9.cell? ⟨bC, 1, none⟩ = some (.int .i64 0) := blk_cell kC 1
  have cC2 : w9.cell? ⟨bC, 2, none⟩ = some (.slice none 0 0) := blk_cell kC 2
  go_wp2_with fail
  clear cp0 cp1 cp2 cr0 cr1 cr2 cr3 cq0 cq1 cq2 cq3 cF0 cF1 cF2 cC0 cC1 cC2 hlp hlr hlq hlF hlC
  refine (unhide HRT _).mono ?_
  rintro e w10 ⟨rfl, hbN⟩
  have hsz := hbN.size
  have kp := blk_below kp hbN (blk_lt kp)
  have kr := blk_below kr hbN (blk_lt kr)
  have kq := blk_below kq hbN (blk_lt kq)
  have kF := blk_below kF hbN (blk_lt kF)
  have kC := blk_below kC hbN (blk_lt kC)
  have HXp := hide ((unhide HXp).below hbN)
  have HSe := hide ((unhide HSe).below hbN)
  have HB := hide ((unhide HB).trans (hbN.mono (by omega)))
  have hs : B + 3 ≤ w10.heap.size := by omega
  clear hbN hsz
  have hlp : B < w10.heap.size := blk_lt kp
  have cp0 : w10.cell? ⟨B, 0, none⟩ = some (.int .i64 (W : Int)) := blk_cell kp 0
  have cp1 : w10.cell? ⟨B, 1, none⟩ = some (.int .i64 (H : Int)) := blk_cell kp 1
  have cp2 : w10.cell? ⟨B, 2, none⟩ = some (.slice a n c) := blk_cell kp 2
  have hlr : B + 1 < w10.heap.size := blk_lt kr
  have cr0 : w10.cell? ⟨B + 1, 0, none⟩ = some (.int .i64 X) := blk_cell kr 0
  have cr1 : w10.cell? ⟨B + 1, 1, none⟩ = some (.int .i64 Y) := blk_cell kr 1
  have cr2 : w10.cell? ⟨B + 1, 2, none⟩ = some (.int .i64 RW) := blk_cell kr 2
  have cr3 : w10.cell? ⟨B + 1, 3, none⟩ = some (.int .i64 RH) := blk_cell kr 3
  have hlq : B + 2 < w10.heap.size := blk_lt kq
  have cq0 : w10.cell? ⟨B + 2, 0, none⟩ = some (.int .u8 (q.r.toNat : Int)) := blk_cell kq 0
  have cq1 : w10.cell? ⟨B + 2, 1, none⟩ = some (.int .u8 (q.g.toNat : Int)) := blk_cell kq 1
  have cq2 : w10.cell? ⟨B + 2, 2, none⟩ = some (.int .u8 (q.b.toNat : Int)) := blk_cell kq 2
  have cq3 : w10.cell? ⟨B + 2, 3, none⟩ = some (.int .u8 (q.a.toNat : Int)) := blk_cell kq 3
  have hlF : bF < w10.heap.size := blk_lt kF
  have cF0 : w10.cell? ⟨bF, 0, none⟩ = some (.int .i64 0) := blk_cell kF 0
  have cF1 : w10.cell? ⟨bF, 1, none⟩ = some (.int .i64 0) := blk_cell kF 1
  have cF2 : w10.cell? ⟨bF, 2, none⟩ = some (.slice none 0 0) := blk_cell kF 2
  have hlC : bC < w10.heap.size := blk_lt kC
  have cC0 : w10.cell? ⟨bC, 0, none⟩ = some (.int .i64 0) := blk_cell kC 0
  have cC1 : w10.cell? ⟨bC, 1, none⟩ = some (.int .i64 0) := blk_cell kC 1
  have cC2 : w10.cell? ⟨bC, 2, none⟩ = some (.slice none 0 0) := blk_cell kC 2
  go_wp2_with fail
  clear cp0 cp1 cp2 cr0 cr1 cr2 cr3 cq0 cq1 cq2 cq3 cF0 cF1 cF2 cC0 cC1 cC2 hlp hlr hlq hlF hlC
  refine (unhide HN1 _).mono ?_
  rintro e w10 ⟨rfl, rfl⟩
  have hlp : B < w10.heap.size := blk_lt kp
  have cp0 : w10.cell? ⟨B, 0, none⟩ = some (.int .i64 (W : Int)) := blk_cell kp 0
  have cp1 : w10.cell? ⟨B, 1, none⟩ = some (.int .i64 (H : Int)) := blk_cell kp 1
  have cp2 : w10.cell? ⟨B, 2, none⟩ = some (.slice a n c) := blk_cell kp 2
  have hlr : B + 1 < w10.heap.size := blk_lt kr
  have cr0 : w10.cell? ⟨B + 1, 0, none⟩ = some (.int .i64 X) := blk_cell kr 0
  have cr1 : w10.cell? ⟨B + 1, 1, none⟩ = some (.int .i64 Y) := blk_cell kr 1
  have cr2 : w10.cell? ⟨B + 1, 2, none⟩ = some (.int .i64 RW) := blk_cell kr 2
  have cr3 : w10.cell? ⟨B + 1, 3, none⟩ = some (.int .i64 RH) := blk_cell kr 3
  have hlq : B + 2 < w10.heap.size := blk_lt kq
  have cq0 : w10.cell? ⟨B + 2, 0, none⟩ = some (.int .u8 (q.r.toNat : Int)) := blk_cell kq 0
  have cq1 : w10.cell? ⟨B + 2, 1, none⟩ = some (.int .u8 (q.g.toNat : Int)) := blk_cell kq 1
  have cq2 : w10.cell? ⟨B + 2, 2, none⟩ = some (.int .u8 (q.b.toNat : Int)) := blk_cell kq 2
  have cq3 : w10.cell? ⟨B + 2, 3, none⟩ = some (.int .u8 (q.a.toNat : Int)) := blk_cell kq 3
  have hlF : bF < w10.heap.size := blk_lt kF
  have cF0 : w10.cell? ⟨bF, 0, none⟩ = some (.int .i64 0) := blk_cell kF 0
  have cF1 : w10.cell? ⟨bF, 1, none⟩ = some (.int .i64 0) := blk_cell kF 1
  have cF2 : w10.cell? ⟨bF, 2, none⟩ = some (.slice none 0 0) := blk_cell kF 2
  have hlC : bC < w10.heap.size := blk_lt kC
  have cC0 : w10.cell? ⟨bC, 0, none⟩ = some (.int .i64 0) := blk_cell kC 0
  have cC1 : w10.cell? ⟨bC, 1, none⟩ = some (.int .i64 0) := blk_cell kC 1
  have cC2 : w10.cell? ⟨bC, 2, none⟩ = some (.slice none 0 0) := blk_cell kC 2
  go_wp2_with fail
  clear cp0 cp1 cp2 cr0 cr1 cr2 cr3 cq0 cq1 cq2 cq3 cF0 cF1 cF2 cC0 cC1 cC2 hlp hlr hlq hlF hlC
  refine (unhide HTe w10 (unhide HSe)).mono ?_
  rintro e w11 ⟨rfl, hbN⟩
  have hsz := hbN.size
  have kp := blk_below kp hbN (blk_lt kp)
  have kr := blk_below kr hbN (blk_lt kr)
  have kq := blk_below kq hbN (blk_lt kq)
  have kF := blk_below kF hbN (blk_lt kF)
  have kC := blk_below kC hbN (blk_lt kC)
  have HXp := hide ((unhide HXp).below hbN)
  have HSe := hide ((unhide HSe).below hbN)
  have HB := hide ((unhide HB).trans (hbN.mono (by omega)))
  have hs : B + 3 ≤ w11.heap.size := by omega
  clear hbN hsz
  have hlp : B < w11.heap.size := blk_lt kp
  have cp0 : w11.cell? ⟨B, 0, none⟩ = some (.int .i64 (W : Int)) := blk_cell kp 0
  have cp1 : w11.cell? ⟨B, 1, none⟩ = some (.int .i64 (H : Int)) := blk_cell kp 1
  have cp2 : w11.cell? ⟨B, 2, none⟩ = some (.slice a n c) := blk_cell kp 2
  have hlr : B + 1 < w11.heap.size := blk_lt kr
  have cr0 : w11.cell? ⟨B + 1, 0, none⟩ = some (.int .i64 X) := blk_cell kr 0
  have cr1 : w11.cell? ⟨B + 1, 1, none⟩ = some (.int .i64 Y) := blk_cell kr 1
  have cr2 : w11.cell? ⟨B + 1, 2, none⟩ = some (.int .i64 RW) := blk_cell kr 2
  have cr3 : w11.cell? ⟨B + 1, 3, none⟩ = some (.int .i64 RH) := blk_cell kr 3
  have hlq : B + 2 < w11.heap.size := blk_lt kq
  have cq0 : w11.cell? ⟨B + 2, 0, none⟩ = some (.int .u8 (q.r.toNat : Int)) := blk_cell kq 0
  have cq1 : w11.cell? ⟨B + 2, 1, none⟩ = some (.int .u8 (q.g.toNat : Int)) := blk_cell kq 1
  have cq2 : w11.cell? ⟨B + 2, 2, none⟩ = some (.int .u8 (q.b.toNat : Int)) := blk_cell kq 2
  have cq3 : w11.cell? ⟨B + 2, 3, none⟩ = some (.int .u8 (q.a.toNat : Int)) := blk_cell kq 3
  have hlF : bF < w11.heap.size := blk_lt kF
  have cF0 : w11.cell? ⟨bF, 0, none⟩ = some (.int .i64 0) := blk_cell kF 0
  have cF1 : w11.cell? ⟨bF, 1, none⟩ = some (.int .i64 0) := blk_cell kF 1
  have cF2 : w11.cell? ⟨bF, 2, none⟩ = some (.slice none 0 0) := blk_cell kF 2
  have hlC : bC < w11.heap.size := blk_lt kC
  have cC0 : w11.cell? ⟨bC, 0, none⟩ = some (.int .i64 0) := blk_cell kC 0
  have cC1 : w11.cell? ⟨bC, 1, none⟩ = some (.int .i64 0) := blk_cell kC 1
  have cC2 : w11.cell? ⟨bC, 2, none⟩ = some (.slice none 0 0) := blk_cell kC 2
  go_wp2_with fail
  clear cp0 cp1 cp2 cr0 cr1 cr2 cr3 cq0 cq1 cq2 cq3 cF0 cF1 cF2 cC0 cC1 cC2 hlp hlr hlq hlF hlC
  refine (unhide HCI _).mono ?_
  rintro e w12 ⟨rfl, hbN⟩
  have hsz := hbN.size
  have kp := blk_below kp hbN (blk_lt kp)
  have kr := blk_below kr hbN (blk_lt kr)
  have kq := blk_below kq hbN (blk_lt kq)
  have kF := blk_below kF hbN (blk_lt kF)
  have kC := blk_below kC hbN (blk_lt kC)
  have HXp := hide ((unhide HXp).below hbN)
  have HSe := hide ((unhide HSe).below hbN)
  have HB := hide ((unhide HB).trans (hbN.mono (by omega)))
  have hs : B + 3 ≤ w12.heap.size := by omega
  clear hbN hsz
  have hlp : B < w12.heap.size := blk_lt kp
  have cp0 : w12.cell? ⟨B, 0, none⟩ = some (.int .i64 (W : Int)) := blk_cell kp 0
  have cp1 : w12.cell? ⟨B, 1, none⟩ = some (.int .i64 (H : Int)) := blk_cell kp 1
  have cp2 : w12.cell? ⟨B, 2, none⟩ = some (.slice a n c) := blk_cell kp 2
  have hlr : B + 1 < w12.heap.size := blk_lt kr
  have cr0 : w12.cell? ⟨B + 1, 0, none⟩ = some (.int .i64 X) := blk_cell kr 0
  have cr1 : w12.cell? ⟨B + 1, 1, none⟩ = some (.int .i64 Y) := blk_cell kr 1
  have cr2 : w12.cell? ⟨B + 1, 2, none⟩ = some (.int .i64 RW) := blk_cell kr 2
  have cr3 : w12.cell? ⟨B + 1, 3, none⟩ = some (.int .i64 RH) := blk_cell kr 3
  have hlq : B + 2 < w12.heap.size := blk_lt kq
  have cq0 : w12.cell? ⟨B + 2, 0, none⟩ = some (.int .u8 (q.r.toNat : Int)) := blk_cell kq 0
  have cq1 : w12.cell? ⟨B + 2, 1, none⟩ = some (.int .u8 (q.g.toNat : Int)) := blk_cell kq 1
  have cq2 : w12.cell? ⟨B + 2, 2, none⟩ = some (.int .u8 (q.b.toNat : Int)) := blk_cell kq 2
  have cq3 : w12.cell? ⟨B + 2, 3, none⟩ = some (.int .u8 (q.a.toNat : Int)) := blk_cell kq 3
  have hlF : bF < w12.heap.size := blk_lt kF
  have cF0 : w12.cell? ⟨bF, 0, none⟩ = some (.int .i64 0) := blk_cell kF 0
  have cF1 : w12.cell? ⟨bF, 1, none⟩ = some (.int .i64 0) := blk_cell kF 1
  have cF2 : w12.cell? ⟨bF, 2, none⟩ = some (.slice none 0 0) := blk_cell kF 2
  have hlC : bC < w12.heap.size := blk_lt kC
  have cC0 : w12.cell? ⟨bC, 0, none⟩ = some (.int .i64 0) := blk_cell kC 0
  have cC1 : w12.cell? ⟨bC, 1, none⟩ = some (.int .i64 0) := blk_cell kC 1
  have cC2 : w12.cell? ⟨bC, 2, none⟩ = some (.slice none 0 0) := blk_cell kC 2
  go_wp2_with fail
  clear cp0 cp1 cp2 cr0 cr1 cr2 cr3 cq0 cq1 cq2 cq3 cF0 cF1 cF2 cC0 cC1 cC2 hlp hlr hlq hlF hlC
  refine (unhide HTe w12 (unhide HSe)).mono ?_
  rintro e w13 ⟨rfl, hbN⟩
  have hsz := hbN.size
  have kp := blk_below kp hbN (blk_lt kp)
  have kr := blk_below kr hbN (blk_lt kr)
  have kq := blk_below kq hbN (blk_lt kq)
  have kF := blk_below kF hbN (blk_lt kF)
  have kC := blk_below kC hbN (blk_lt kC)
  have HXp := hide ((unhide HXp).below hbN)
  have HSe := hide ((unhide HSe).below hbN)
  have HB := hide ((unhide HB).trans (hbN.mono (by omega)))
  have hs : B + 3 ≤ w13.heap.size := by omega
  clear hbN hsz
  have hlp : B < w13.heap.size := blk_lt kp
  have cp0 : w13.cell? ⟨B, 0, none⟩ = some (.int .i64 (W : Int)) := blk_cell kp 0
  have cp1 : w13.cell? ⟨B, 1, none⟩ = some (.int .i64 (H : Int)) := blk_cell kp 1
  have cp2 : w13.cell? ⟨B, 2, none⟩ = some (.slice a n c) := blk_cell kp 2
  have hlr : B + 1 < w13.heap.size := blk_lt kr
  have cr0 : w13.cell? ⟨B + 1, 0, none⟩ = some (.int .i64 X) := blk_cell kr 0
  have cr1 : w13.cell? ⟨B + 1, 1, none⟩ = some (.int .i64 Y) := blk_cell kr 1
  have cr2 : w13.cell? ⟨B + 1, 2, none⟩ = some (.int .i64 RW) := blk_cell kr 2
  have cr3 : w13.cell? ⟨B + 1, 3, none⟩ = some (.int .i64 RH) := blk_cell kr 3
  have hlq : B + 2 < w13.heap.size := blk_lt kq
  have cq0 : w13.cell? ⟨B + 2, 0, none⟩ = some (.int .u8 (q.r.toNat : Int)) := blk_cell kq 0
  have cq1 : w13.cell? ⟨B + 2, 1, none⟩ = some (.int .u8 (q.g.toNat : Int)) := blk_cell kq 1
  have cq2 : w13.cell? ⟨B + 2, 2, none⟩ = some (.int .u8 (q.b.toNat : Int)) := blk_cell kq 2
  have cq3 : w13.cell? ⟨B + 2, 3, none⟩ = some (.int .u8 (q.a.toNat : Int)) := blk_cell kq 3
  have hlF : bF < w13.heap.size := blk_lt kF
  have cF0 : w13.cell? ⟨bF, 0, none⟩ = some (.int .i64 0) := blk_cell kF 0
  have cF1 : w13.cell? ⟨bF, 1, none⟩ = some (.int .i64 0) := blk_cell kF 1
  have cF2 : w13.cell? ⟨bF, 2, none⟩ = some (.slice none 0 0) := blk_cell kF 2
  have hlC : bC < w13.heap.size := blk_lt kC
  have cC0 : w13.cell? ⟨bC, 0, none⟩ = some (.int .i64 0) := blk_cell kC 0
  have cC1 : w13.cell? ⟨bC, 1, none⟩ = some (.int .i64 0) := blk_cell kC 1
  have cC2 : w13.cell? ⟨bC, 2, none⟩ = some (.slice none 0 0) := blk_cell kC 2
  go_wp2
  clear cp0 cp1 cp2 cr0 cr1 cr2 cr3 cq0 cq1 cq2 cq3 cF0 cF1 cF2 cC0 cC1 cC2 hlp hlr hlq hlF hlC
  go_ret
  exact ⟨rfl, by rw [← unhide HBE]; exact unhide HB⟩
set_option maxHeartbeats 4000000 in
set_option maxRecDepth 100000 in
theorem rasterParts_near2 (W H : Nat) (a : Option Addr) (n c : Nat) (p : Nat → Px) (X Y RW RH : Int) (q : Px) (w : World) (A : Nat → Addr) (hS : Sent w A) (hP : IsPx w a n p) (hn3 : n ≤ 3000) (hW0 : 1 ≤ W) (hW : W ≤ 256) (hH0 : 1 ≤ H) (hH : H ≤ 256) (hn : n = W * H) (hcb : ¬ ((0 ≤ X ∧ X < (W : Int) ∧ 0 ≤ Y ∧ Y < (H : Int)) ∧ 1 ≤ RW ∧ 1 ≤ RH ∧ RW ≤ (W : Int) - X ∧ RH ≤ (H : Int) - Y)) (n1 : Nr X) (n2 : ¬ Nr Y) :
    Calls Tryd.prog 4 #[.agg #[.int .i64 (W : Int), .int .i64 (H : Int), .slice a n c], .agg #[.int .i64 X, .int .i64 Y, .int .i64 RW, .int .i64 RH], q.val] w fun e w' => e = .returned (.bool true) ∧ Below w.heap.size w w' := by
  have HPL := hide plainly_any
  have HSM := hide (fun w => small_any (W : Int) (H : Int) a n c w)
  rw [decide_eq_true hn3] at HSM
  have HX := hide hP
  have HS0 := hide hS
  have HRT := hide (fun w => pright_any (W : Int) (H : Int) a n c w)
  have HO := hide (fun w (h : IsPx w a n p) => own_isPx (W : Int) (H : Int) a n c p w h (by omega))
  rw [decide_eq_true (rightN hW0 hW hH0 hH hn)] at HRT
  have HTe := hide (fun w (h : Sent w A) => told_err 1 2 W H a n c w A h (by omega) rfl)
  have hM3 : W * H ≤ 100000 := by omega
  have HTo := hide (fun w (G : Nat → Px) a b c d (h1 : IsPx w a (W * H) G) (h2 : IsPx w b (W * H) G) => told_ok W H a b (W * H) c d G w h1 h2 hM3)
  have HN1 := hide (fun w => nearP_any (X : Int) w)
  rw [decide_eq_true n1] at HN1
  have HN2 := hide (fun w => nearP_any (Y : Int) w)
  rw [decide_eq_false n2] at HN2
  have HN3 := hide (fun w => nearP_any (RW : Int) w)
  have HN4 := hide (fun w => nearP_any (RH : Int) w)
  have HF := hide (fun w a c (h : Sent w A) => fill_near W H a n c X Y RW RH q w _ _ (h.cell 1 (by omega)) hW0 hW hH0 hH hn (fun k => n2 k.2.1))
  have HC := hide (fun w a c (h : Sent w A) => crop_bound W H a n c X Y RW RH w _ _ (h.cell 1 (by omega)) hW0 hW hH0 hH hn hcb)
  have HCI := hide (fun w => cropIs_any W H a n c X Y RW RH w hW hH)
  rw [decide_eq_false hcb] at HCI
  clear hn3 hP hS hW0 hW hH0 hH hn hcb n1 n2
  unfold Px.val at *
  have HA := hide (al3 w (.cells #[.int .i64 (W : Int), .int .i64 (H : Int), .slice a n c] 26) (.cells #[.int .i64 X, .int .i64 Y, .int .i64 RW, .int .i64 RH] 43) (.cells #[.int .u8 (q.r.toNat : Int), .int .u8 (q.g.toNat : Int), .int .u8 (q.b.toNat : Int), .int .u8 (q.a.toNat : Int)] 23))
  obtain ⟨B, hB⟩ : ∃ B, B = w.heap.size := ⟨_, rfl⟩
  go_enter Tryd.func4, Tryd.ntmps4
  go_wp2_with fail
  generalize (((w.alloc (.cells #[.int .i64 (W : Int), .int .i64 (H : Int), .slice a n c] 26)).alloc (.cells #[.int .i64 X, .int .i64 Y, .int .i64 RW, .int .i64 RH] 43)).alloc (.cells #[.int .u8 (q.r.toNat : Int), .int .u8 (q.g.toNat : Int), .int .u8 (q.b.toNat : Int), .int .u8 (q.a.toNat : Int)] 23)) = w1 at *
  rw [← hB] at HA ⊢
  obtain ⟨hs1, kp, kr, kq, hb1⟩ := unhide HA
  have HBE := hide hB
  clear HA hB
  have hs : B + 3 ≤ w1.heap.size := by omega
  have HB := hide hb1
  clear hs1 hb1
  have HXp := hide ((unhide HX).under (unhide HB) (fun x hx h0 => by rw [unhide HBE]; exact (unhide HX).lt x hx h0))
  have HSe := hide ((unhide HS0).below (by rw [← unhide HBE]; exact unhide HB))
  clear HX HS0
  refine (unhide HPL _).mono ?_
  rintro e w2 ⟨rfl, hbN⟩
  have hsz := hbN.size
  have kp := blk_below kp hbN (blk_lt kp)
  have kr := blk_below kr hbN (blk_lt kr)
  have kq := blk_below kq hbN (blk_lt kq)
  have HXp := hide ((unhide HXp).below hbN)
  have HSe := hide ((unhide HSe).below hbN)
  have HB := hide ((unhide HB).trans (hbN.mono (by omega)))
  have hs : B + 3 ≤ w2.heap.size := by omega
  clear hbN hsz
  have hlp : B < w2.heap.size := blk_lt kp
  have cp0 : w2.cell? ⟨B, 0, none⟩ = some (.int .i64 (W : Int)) := blk_cell kp 0
  have cp1 : w2.cell? ⟨B, 1, none⟩ = some (.int .i64 (H : Int)) := blk_cell kp 1
  have cp2 : w2.cell? ⟨B, 2, none⟩ = some (.slice a n c) := blk_cell kp 2
  have hlr : B + 1 < w2.heap.size := blk_lt kr
  have cr0 : w2.cell? ⟨B + 1, 0, none⟩ = some (.int .i64 X) := blk_cell kr 0
  have cr1 : w2.cell? ⟨B + 1, 1, none⟩ = some (.int .i64 Y) := blk_cell kr 1
  have cr2 : w2.cell? ⟨B + 1, 2, none⟩ = some (.int .i64 RW) := blk_cell kr 2
  have cr3 : w2.cell? ⟨B + 1, 3, none⟩ = some (.int .i64 RH) := blk_cell kr 3
  have hlq : B + 2 < w2.heap.size := blk_lt kq
  have cq0 : w2.cell? ⟨B + 2, 0, none⟩ = some (.int .u8 (q.r.toNat : Int)) := blk_cell kq 0
  have cq1 : w2.cell? ⟨B + 2, 1, none⟩ = some (.int .u8 (q.g.toNat : Int)) := blk_cell kq 1
  have cq2 : w2.cell? ⟨B + 2, 2, none⟩ = some (.int .u8 (q.b.toNat : Int)) := blk_cell kq 2
  have cq3 : w2.cell? ⟨B + 2, 3, none⟩ = some (.int .u8 (q.a.toNat : Int)) := blk_cell kq 3
  go_wp2_with fail
  clear cp0 cp1 cp2 cr0 cr1 cr2 cr3 cq0 cq1 cq2 cq3 hlp hlr hlq
  refine (unhide HSM _).mono ?_
  rintro e w3 ⟨rfl, hbN⟩
  have hsz := hbN.size
  have kp := blk_below kp hbN (blk_lt kp)
  have kr := blk_below kr hbN (blk_lt kr)
  have kq := blk_below kq hbN (blk_lt kq)
  have HXp := hide ((unhide HXp).below hbN)
  have HSe := hide ((unhide HSe).below hbN)
  have HB := hide ((unhide HB).trans (hbN.mono (by omega)))
  have hs : B + 3 ≤ w3.heap.size := by omega
  clear hbN hsz
  have hlp : B < w3.heap.size := blk_lt kp
  have cp0 : w3.cell? ⟨B, 0, none⟩ = some (.int .i64 (W : Int)) := blk_cell kp 0
  have cp1 : w3.cell? ⟨B, 1, none⟩ = some (.int .i64 (H : Int)) := blk_cell kp 1
  have cp2 : w3.cell? ⟨B, 2, none⟩ = some (.slice a n c) := blk_cell kp 2
  have hlr : B + 1 < w3.heap.size := blk_lt kr
  have cr0 : w3.cell? ⟨B + 1, 0, none⟩ = some (.int .i64 X) := blk_cell kr 0
  have cr1 : w3.cell? ⟨B + 1, 1, none⟩ = some (.int .i64 Y) := blk_cell kr 1
  have cr2 : w3.cell? ⟨B + 1, 2, none⟩ = some (.int .i64 RW) := blk_cell kr 2
  have cr3 : w3.cell? ⟨B + 1, 3, none⟩ = some (.int .i64 RH) := blk_cell kr 3
  have hlq : B + 2 < w3.heap.size := blk_lt kq
  have cq0 : w3.cell? ⟨B + 2, 0, none⟩ = some (.int .u8 (q.r.toNat : Int)) := blk_cell kq 0
  have cq1 : w3.cell? ⟨B + 2, 1, none⟩ = some (.int .u8 (q.g.toNat : Int)) := blk_cell kq 1
  have cq2 : w3.cell? ⟨B + 2, 2, none⟩ = some (.int .u8 (q.b.toNat : Int)) := blk_cell kq 2
  have cq3 : w3.cell? ⟨B + 2, 3, none⟩ = some (.int .u8 (q.a.toNat : Int)) := blk_cell kq 3
  go_wp2
  clear cp0 cp1 cp2 cr0 cr1 cr2 cr3 cq0 cq1 cq2 cq3 hlp hlr hlq
  apply once1 (fun wf bf ao co => w3.heap.size ≤ bf ∧ wf.heap[bf]? = some (.cells #[.int .i64 0, .int .i64 0, .slice none 0 0] 26) ∧ Below w3.heap.size w3 wf)
  · intro hrest
    have hlp : B < w3.heap.size := blk_lt kp
    have cp0 : w3.cell? ⟨B, 0, none⟩ = some (.int .i64 (W : Int)) := blk_cell kp 0
    have cp1 : w3.cell? ⟨B, 1, none⟩ = some (.int .i64 (H : Int)) := blk_cell kp 1
    have cp2 : w3.cell? ⟨B, 2, none⟩ = some (.slice a n c) := blk_cell kp 2
    have hlr : B + 1 < w3.heap.size := blk_lt kr
    have cr0 : w3.cell? ⟨B + 1, 0, none⟩ = some (.int .i64 X) := blk_cell kr 0
    have cr1 : w3.cell? ⟨B + 1, 1, none⟩ = some (.int .i64 Y) := blk_cell kr 1
    have cr2 : w3.cell? ⟨B + 1, 2, none⟩ = some (.int .i64 RW) := blk_cell kr 2
    have cr3 : w3.cell? ⟨B + 1, 3, none⟩ = some (.int .i64 RH) := blk_cell kr 3
    have hlq : B + 2 < w3.heap.size := blk_lt kq
    have cq0 : w3.cell? ⟨B + 2, 0, none⟩ = some (.int .u8 (q.r.toNat : Int)) := blk_cell kq 0
    have cq1 : w3.cell? ⟨B + 2, 1, none⟩ = some (.int .u8 (q.g.toNat : Int)) := blk_cell kq 1
    have cq2 : w3.cell? ⟨B + 2, 2, none⟩ = some (.int .u8 (q.b.toNat : Int)) := blk_cell kq 2
    have cq3 : w3.cell? ⟨B + 2, 3, none⟩ = some (.int .u8 (q.a.toNat : Int)) := blk_cell kq 3
    have hKS := hide (fun wx (h : Below w3.heap.size w3 wx) => (⟨bcell h hlp cp0, bcell h hlp cp1, bcell h hlp cp2, bcell h hlr cr0, bcell h hlr cr1, bcell h hlr cr2, bcell h hlr cr3, bcell h hlq cq0, bcell h hlq cq1, bcell h hlq cq2, bcell h hlq cq3⟩ : wx.cell? ⟨B, 0, none⟩ = some (.int .i64 (W : Int)) ∧ wx.cell? ⟨B, 1, none⟩ = some (.int .i64 (H : Int)) ∧ wx.cell? ⟨B, 2, none⟩ = some (.slice a n c) ∧ wx.cell? ⟨B + 1, 0, none⟩ = some (.int .i64 X) ∧ wx.cell? ⟨B + 1, 1, none⟩ = some (.int .i64 Y) ∧ wx.cell? ⟨B + 1, 2, none⟩ = some (.int .i64 RW) ∧ wx.cell? ⟨B + 1, 3, none⟩ = some (.int .i64 RH) ∧ wx.cell? ⟨B + 2, 0, none⟩ = some (.int .u8 (q.r.toNat : Int)) ∧ wx.cell? ⟨B + 2, 1, none⟩ = some (.int .u8 (q.g.toNat : Int)) ∧ wx.cell? ⟨B + 2, 2, none⟩ = some (.int .u8 (q.b.toNat : Int)) ∧ wx.cell? ⟨B + 2, 3, none⟩ = some (.int .u8 (q.a.toNat : Int))))
    have hdr := (Below.refl w3.heap.size w3).drew
    go_region_held (fun w' => w'.cell? ⟨B, 0, none⟩ = some (.int .i64 (W : Int)) ∧ w'.cell? ⟨B, 1, none⟩ = some (.int .i64 (H : Int)) ∧ w'.cell? ⟨B, 2, none⟩ = some (.slice a n c) ∧ w'.cell? ⟨B + 1, 0, none⟩ = some (.int .i64 X) ∧ w'.cell? ⟨B + 1, 1, none⟩ = some (.int .i64 Y) ∧ w'.cell? ⟨B + 1, 2, none⟩ = some (.int .i64 RW) ∧ w'.cell? ⟨B + 1, 3, none⟩ = some (.int .i64 RH) ∧ w'.cell? ⟨B + 2, 0, none⟩ = some (.int .u8 (q.r.toNat : Int)) ∧ w'.cell? ⟨B + 2, 1, none⟩ = some (.int .u8 (q.g.toNat : Int)) ∧ w'.cell? ⟨B + 2, 2, none⟩ = some (.int .u8 (q.b.toNat : Int)) ∧ w'.cell? ⟨B + 2, 3, none⟩ = some (.int .u8 (q.a.toNat : Int))) (exact unhide hKS _ (by (first | with_reducible exact hqw5 | with_reducible exact hqw4 | with_reducible exact hdr | with_reducible exact hqw5.alloc hqw5.size _ | with_reducible exact hqw4.alloc hqw4.size _ | with_reducible exact ((Below.refl _ _).alloc (Nat.le_refl _) _).drew | with_reducible exact set3_below hqw5 (Nat.le_refl _) _ _ _ | with_reducible exact set3_below hqw5 hqw4.size _ _ _ | with_reducible exact set3_below (hqw5.alloc hqw5.size _) hqw5.size _ _ _ | exact hqw5.alloc hqw5.size _))) (first | (go_at_call 16; refine (unhide HO _ ((unhide HXp).below (by (first | with_reducible exact hqw5 | with_reducible exact hqw4 | with_reducible exact hdr | with_reducible exact hqw5.alloc hqw5.size _ | with_reducible exact hqw4.alloc hqw4.size _ | with_reducible exact ((Below.refl _ _).alloc (Nat.le_refl _) _).drew | with_reducible exact set3_below hqw5 (Nat.le_refl _) _ _ _ | with_reducible exact set3_below hqw5 hqw4.size _ _ _ | with_reducible exact set3_below (hqw5.alloc hqw5.size _) hqw5.size _ _ _ | exact hqw5.alloc hqw5.size _)))).mono ?_; rintro e w4 ⟨ao, co, rfl, hpo, hbw4⟩; have hqw4 := bel_trans (w := w3) (by (first | with_reducible exact hqw5 | with_reducible exact hqw4 | with_reducible exact hdr | with_reducible exact hqw5.alloc hqw5.size _ | with_reducible exact hqw4.alloc hqw4.size _ | with_reducible exact ((Below.refl _ _).alloc (Nat.le_refl _) _).drew | with_reducible exact set3_below hqw5 (Nat.le_refl _) _ _ _ | with_reducible exact set3_below hqw5 hqw4.size _ _ _ | with_reducible exact set3_below (hqw5.alloc hqw5.size _) hqw5.size _ _ _ | exact hqw5.alloc hqw5.size _)) hbw4; (try (have kzw4 : w4.heap[w3.heap.size]? = some (.cells #[.int .i64 0, .int .i64 0, .slice none 0 0] 26) := blk_below (show ((w3.alloc (.cells #[.int .i64 0, .int .i64 0, .slice none 0 0] 26)).drew).heap[w3.heap.size]? = some (.cells #[.int .i64 0, .int .i64 0, .slice none 0 0] 26) from heap_alloc_new w3 _) hbw4 (by show _ < (w3.alloc _).heap.size; simp))); (try (have zw40 : w4.cell? ⟨_, 0, none⟩ = some (.int .i64 0) := blk_cell kzw4 0)); (try (have zfw40 := blk_frozen kzw4 0)); (try (have zw41 : w4.cell? ⟨_, 1, none⟩ = some (.int .i64 0) := blk_cell kzw4 1)); (try (have zfw41 := blk_frozen kzw4 1)); (try (have zw42 : w4.cell? ⟨_, 2, none⟩ = some (.slice none 0 0) := blk_cell kzw4 2)); (try (have zfw42 := blk_frozen kzw4 2))) | (go_at_call 20; refine (unhide HF _ _ _ ((unhide HSe).below (by (first | with_reducible exact hqw5 | with_reducible exact hqw4 | with_reducible exact hdr | with_reducible exact hqw5.alloc hqw5.size _ | with_reducible exact hqw4.alloc hqw4.size _ | with_reducible exact ((Below.refl _ _).alloc (Nat.le_refl _) _).drew | with_reducible exact set3_below hqw5 (Nat.le_refl _) _ _ _ | with_reducible exact set3_below hqw5 hqw4.size _ _ _ | with_reducible exact set3_below (hqw5.alloc hqw5.size _) hqw5.size _ _ _ | exact hqw5.alloc hqw5.size _)))).mono ?_; rintro e w5 ⟨rfl, hbw5⟩; have hqw5 := bel_trans (w := w3) (by (first | with_reducible exact hqw5 | with_reducible exact hqw4 | with_reducible exact hdr | with_reducible exact hqw5.alloc hqw5.size _ | with_reducible exact hqw4.alloc hqw4.size _ | with_reducible exact ((Below.refl _ _).alloc (Nat.le_refl _) _).drew | with_reducible exact set3_below hqw5 (Nat.le_refl _) _ _ _ | with_reducible exact set3_below hqw5 hqw4.size _ _ _ | with_reducible exact set3_below (hqw5.alloc hqw5.size _) hqw5.size _ _ _ | exact hqw5.alloc hqw5.size _)) hbw5; (try (have kzw5 := blk_below kzw4 hbw5 (blk_lt kzw4))); (try (have kzw5 : w5.heap[w4.heap.size]? = some (.cells #[.int .i64 0, .int .i64 0, .slice none 0 0] 26) := blk_below (heap_alloc_new w4 _) hbw5 (by simp))); (try (have zw50 : w5.cell? ⟨_, 0, none⟩ = some (.int .i64 0) := blk_cell kzw5 0)); (try (have zfw50 := blk_frozen kzw5 0)); (try (have zw51 : w5.cell? ⟨_, 1, none⟩ = some (.int .i64 0) := blk_cell kzw5 1)); (try (have zfw51 := blk_frozen kzw5 1)); (try (have zw52 : w5.cell? ⟨_, 2, none⟩ = some (.slice none 0 0) := blk_cell kzw5 2)); (try (have zfw52 := blk_frozen kzw5 2))))
    all_goals
      first
      | (have hfin := fin3 (w := w3) kzw5 hqw5 (Nat.le_refl _) (.int .i64 0) (.int .i64 0) (.slice none 0 0); have hA := hfin.blk; have hB := hfin.below; clear hfin; generalize ((w5.setCell ⟨w3.heap.size, 0, none⟩ (.int .i64 0)).setCell ⟨w3.heap.size, 1, none⟩ (.int .i64 0)).setCell ⟨w3.heap.size, 2, none⟩ (.slice none 0 0) = wf at *; obtain ⟨bf, hbf⟩ : ∃ b, b = w3.heap.size := ⟨_, rfl⟩; have hge : w3.heap.size ≤ bf := Nat.le_trans (Nat.le_refl _) (Nat.le_of_eq hbf.symm); rw [← hbf] at hA ⊢; exact hrest wf bf ao co ⟨hge, hA, hB⟩)
      | (have hfin := fin3 (w := w3) kzw5 hqw5 (hqw4.size) (.int .i64 0) (.int .i64 0) (.slice none 0 0); have hA := hfin.blk; have hB := hfin.below; clear hfin; generalize ((w5.setCell ⟨w4.heap.size, 0, none⟩ (.int .i64 0)).setCell ⟨w4.heap.size, 1, none⟩ (.int .i64 0)).setCell ⟨w4.heap.size, 2, none⟩ (.slice none 0 0) = wf at *; obtain ⟨bf, hbf⟩ : ∃ b, b = w4.heap.size := ⟨_, rfl⟩; have hge : w3.heap.size ≤ bf := Nat.le_trans (hqw4.size) (Nat.le_of_eq hbf.symm); rw [← hbf] at hA ⊢; exact hrest wf bf ao co ⟨hge, hA, hB⟩)
      | (have hA := heap_alloc_new w5 (.cells #[.int .i64 0, .int .i64 0, .slice none 0 0] 26); have hB := hqw5.alloc hqw5.size (.cells #[.int .i64 0, .int .i64 0, .slice none 0 0] 26); generalize w5.alloc (.cells #[.int .i64 0, .int .i64 0, .slice none 0 0] 26) = wf at *; obtain ⟨bf, hbf⟩ : ∃ b, b = w5.heap.size := ⟨_, rfl⟩; have hge : w3.heap.size ≤ bf := Nat.le_trans hqw5.size (Nat.le_of_eq hbf.symm); rw [← hbf] at hA ⊢; exact hrest wf bf ao co ⟨hge, hA, hB⟩)
  rintro w6 bF ao co ⟨hge, kF, hbN⟩
  have ltFp : B < bF := Nat.lt_of_lt_of_le (blk_lt kp) hge
  have ltFr : B + 1 < bF := Nat.lt_of_lt_of_le (blk_lt kr) hge
  have ltFq : B + 2 < bF := Nat.lt_of_lt_of_le (blk_lt kq) hge
  clear hge
  have hsz := hbN.size
  have kp := blk_below kp hbN (blk_lt kp)
  have kr := blk_below kr hbN (blk_lt kr)
  have kq := blk_below kq hbN (blk_lt kq)
  have HXp := hide ((unhide HXp).below hbN)
  have HSe := hide ((unhide HSe).below hbN)
  have HB := hide ((unhide HB).trans (hbN.mono (by omega)))
  have hs : B + 3 ≤ w6.heap.size := by omega
  clear hbN hsz
  have hlp : B < w6.heap.size := blk_lt kp
  have cp0 : w6.cell? ⟨B, 0, none⟩ = some (.int .i64 (W : Int)) := blk_cell kp 0
  have cp1 : w6.cell? ⟨B, 1, none⟩ = some (.int .i64 (H : Int)) := blk_cell kp 1
  have cp2 : w6.cell? ⟨B, 2, none⟩ = some (.slice a n c) := blk_cell kp 2
  have hlr : B + 1 < w6.heap.size := blk_lt kr
  have cr0 : w6.cell? ⟨B + 1, 0, none⟩ = some (.int .i64 X) := blk_cell kr 0
  have cr1 : w6.cell? ⟨B + 1, 1, none⟩ = some (.int .i64 Y) := blk_cell kr 1
  have cr2 : w6.cell? ⟨B + 1, 2, none⟩ = some (.int .i64 RW) := blk_cell kr 2
  have cr3 : w6.cell? ⟨B + 1, 3, none⟩ = some (.int .i64 RH) := blk_cell kr 3
  have hlq : B + 2 < w6.heap.size := blk_lt kq
  have cq0 : w6.cell? ⟨B + 2, 0, none⟩ = some (.int .u8 (q.r.toNat : Int)) := blk_cell kq 0
  have cq1 : w6.cell? ⟨B + 2, 1, none⟩ = some (.int .u8 (q.g.toNat : Int)) := blk_cell kq 1
  have cq2 : w6.cell? ⟨B + 2, 2, none⟩ = some (.int .u8 (q.b.toNat : Int)) := blk_cell kq 2
  have cq3 : w6.cell? ⟨B + 2, 3, none⟩ = some (.int .u8 (q.a.toNat : Int)) := blk_cell kq 3
  have hlF : bF < w6.heap.size := blk_lt kF
  have cF0 : w6.cell? ⟨bF, 0, none⟩ = some (.int .i64 0) := blk_cell kF 0
  have cF1 : w6.cell? ⟨bF, 1, none⟩ = some (.int .i64 0) := blk_cell kF 1
  have cF2 : w6.cell? ⟨bF, 2, none⟩ = some (.slice none 0 0) := blk_cell kF 2
  go_wp2
  clear cp0 cp1 cp2 cr0 cr1 cr2 cr3 cq0 cq1 cq2 cq3 cF0 cF1 cF2 hlp hlr hlq hlF
  apply once1 (fun wf bf ao2 co2 => w6.heap.size ≤ bf ∧ wf.heap[bf]? = some (.cells #[.int .i64 0, .int .i64 0, .slice none 0 0] 26) ∧ Below w6.heap.size w6 wf)
  · intro hrest
    have hlp : B < w6.heap.size := blk_lt kp
    have cp0 : w6.cell? ⟨B, 0, none⟩ = some (.int .i64 (W : Int)) := blk_cell kp 0
    have cp1 : w6.cell? ⟨B, 1, none⟩ = some (.int .i64 (H : Int)) := blk_cell kp 1
    have cp2 : w6.cell? ⟨B, 2, none⟩ = some (.slice a n c) := blk_cell kp 2
    have hlr : B + 1 < w6.heap.size := blk_lt kr
    have cr0 : w6.cell? ⟨B + 1, 0, none⟩ = some (.int .i64 X) := blk_cell kr 0
    have cr1 : w6.cell? ⟨B + 1, 1, none⟩ = some (.int .i64 Y) := blk_cell kr 1
    have cr2 : w6.cell? ⟨B + 1, 2, none⟩ = some (.int .i64 RW) := blk_cell kr 2
    have cr3 : w6.cell? ⟨B + 1, 3, none⟩ = some (.int .i64 RH) := blk_cell kr 3
    have hlq : B + 2 < w6.heap.size := blk_lt kq
    have cq0 : w6.cell? ⟨B + 2, 0, none⟩ = some (.int .u8 (q.r.toNat : Int)) := blk_cell kq 0
    have cq1 : w6.cell? ⟨B + 2, 1, none⟩ = some (.int .u8 (q.g.toNat : Int)) := blk_cell kq 1
    have cq2 : w6.cell? ⟨B + 2, 2, none⟩ = some (.int .u8 (q.b.toNat : Int)) := blk_cell kq 2
    have cq3 : w6.cell? ⟨B + 2, 3, none⟩ = some (.int .u8 (q.a.toNat : Int)) := blk_cell kq 3
    have hlF : bF < w6.heap.size := blk_lt kF
    have cF0 : w6.cell? ⟨bF, 0, none⟩ = some (.int .i64 0) := blk_cell kF 0
    have cF1 : w6.cell? ⟨bF, 1, none⟩ = some (.int .i64 0) := blk_cell kF 1
    have cF2 : w6.cell? ⟨bF, 2, none⟩ = some (.slice none 0 0) := blk_cell kF 2
    have hKS := hide (fun wx (h : Below w6.heap.size w6 wx) => (⟨bcell h hlp cp0, bcell h hlp cp1, bcell h hlp cp2, bcell h hlr cr0, bcell h hlr cr1, bcell h hlr cr2, bcell h hlr cr3⟩ : wx.cell? ⟨B, 0, none⟩ = some (.int .i64 (W : Int)) ∧ wx.cell? ⟨B, 1, none⟩ = some (.int .i64 (H : Int)) ∧ wx.cell? ⟨B, 2, none⟩ = some (.slice a n c) ∧ wx.cell? ⟨B + 1, 0, none⟩ = some (.int .i64 X) ∧ wx.cell? ⟨B + 1, 1, none⟩ = some (.int .i64 Y) ∧ wx.cell? ⟨B + 1, 2, none⟩ = some (.int .i64 RW) ∧ wx.cell? ⟨B + 1, 3, none⟩ = some (.int .i64 RH)))
    have hdr := (Below.refl w6.heap.size w6).drew
    go_region_held (fun w' => w'.cell? ⟨B, 0, none⟩ = some (.int .i64 (W : Int)) ∧ w'.cell? ⟨B, 1, none⟩ = some (.int .i64 (H : Int)) ∧ w'.cell? ⟨B, 2, none⟩ = some (.slice a n c) ∧ w'.cell? ⟨B + 1, 0, none⟩ = some (.int .i64 X) ∧ w'.cell? ⟨B + 1, 1, none⟩ = some (.int .i64 Y) ∧ w'.cell? ⟨B + 1, 2, none⟩ = some (.int .i64 RW) ∧ w'.cell? ⟨B + 1, 3, none⟩ = some (.int .i64 RH)) (exact unhide hKS _ (by (first | with_reducible exact hqw8 | with_reducible exact hqw7 | with_reducible exact hdr | with_reducible exact hqw8.alloc hqw8.size _ | with_reducible exact hqw7.alloc hqw7.size _ | with_reducible exact ((Below.refl _ _).alloc (Nat.le_refl _) _).drew | with_reducible exact set3_below hqw8 (Nat.le_refl _) _ _ _ | with_reducible exact set3_below hqw8 hqw7.size _ _ _ | with_reducible exact set3_below (hqw8.alloc hqw8.size _) hqw8.size _ _ _ | exact hqw8.alloc hqw8.size _))) (first | (go_at_call 16; refine (unhide HO _ ((unhide HXp).below (by (first | with_reducible exact hqw8 | with_reducible exact hqw7 | with_reducible exact hdr | with_reducible exact hqw8.alloc hqw8.size _ | with_reducible exact hqw7.alloc hqw7.size _ | with_reducible exact ((Below.refl _ _).alloc (Nat.le_refl _) _).drew | with_reducible exact set3_below hqw8 (Nat.le_refl _) _ _ _ | with_reducible exact set3_below hqw8 hqw7.size _ _ _ | with_reducible exact set3_below (hqw8.alloc hqw8.size _) hqw8.size _ _ _ | exact hqw8.alloc hqw8.size _)))).mono ?_; rintro e w7 ⟨ao2, co2, rfl, hpo, hbw7⟩; have hqw7 := bel_trans (w := w6) (by (first | with_reducible exact hqw8 | with_reducible exact hqw7 | with_reducible exact hdr | with_reducible exact hqw8.alloc hqw8.size _ | with_reducible exact hqw7.alloc hqw7.size _ | with_reducible exact ((Below.refl _ _).alloc (Nat.le_refl _) _).drew | with_reducible exact set3_below hqw8 (Nat.le_refl _) _ _ _ | with_reducible exact set3_below hqw8 hqw7.size _ _ _ | with_reducible exact set3_below (hqw8.alloc hqw8.size _) hqw8.size _ _ _ | exact hqw8.alloc hqw8.size _)) hbw7; (try (have kzw7 : w7.heap[w6.heap.size]? = some (.cells #[.int .i64 0, .int .i64 0, .slice none 0 0] 26) := blk_below (show ((w6.alloc (.cells #[.int .i64 0, .int .i64 0, .slice none 0 0] 26)).drew).heap[w6.heap.size]? = some (.cells #[.int .i64 0, .int .i64 0, .slice none 0 0] 26) from heap_alloc_new w6 _) hbw7 (by show _ < (w6.alloc _).heap.size; simp))); (try (have zw70 : w7.cell? ⟨_, 0, none⟩ = some (.int .i64 0) := blk_cell kzw7 0)); (try (have zfw70 := blk_frozen kzw7 0)); (try (have zw71 : w7.cell? ⟨_, 1, none⟩ = some (.int .i64 0) := blk_cell kzw7 1)); (try (have zfw71 := blk_frozen kzw7 1)); (try (have zw72 : w7.cell? ⟨_, 2, none⟩ = some (.slice none 0 0) := blk_cell kzw7 2)); (try (have zfw72 := blk_frozen kzw7 2))) | (go_at_call 21; refine (unhide HC _ _ _ ((unhide HSe).below (by (first | with_reducible exact hqw8 | with_reducible exact hqw7 | with_reducible exact hdr | with_reducible exact hqw8.alloc hqw8.size _ | with_reducible exact hqw7.alloc hqw7.size _ | with_reducible exact ((Below.refl _ _).alloc (Nat.le_refl _) _).drew | with_reducible exact set3_below hqw8 (Nat.le_refl _) _ _ _ | with_reducible exact set3_below hqw8 hqw7.size _ _ _ | with_reducible exact set3_below (hqw8.alloc hqw8.size _) hqw8.size _ _ _ | exact hqw8.alloc hqw8.size _)))).mono ?_; rintro e w8 ⟨rfl, hbw8⟩; have hqw8 := bel_trans (w := w6) (by (first | with_reducible exact hqw8 | with_reducible exact hqw7 | with_reducible exact hdr | with_reducible exact hqw8.alloc hqw8.size _ | with_reducible exact hqw7.alloc hqw7.size _ | with_reducible exact ((Below.refl _ _).alloc (Nat.le_refl _) _).drew | with_reducible exact set3_below hqw8 (Nat.le_refl _) _ _ _ | with_reducible exact set3_below hqw8 hqw7.size _ _ _ | with_reducible exact set3_below (hqw8.alloc hqw8.size _) hqw8.size _ _ _ | exact hqw8.alloc hqw8.size _)) hbw8; (try (have kzw8 := blk_below kzw7 hbw8 (blk_lt kzw7))); (try (have kzw8 : w8.heap[w7.heap.size]? = some (.cells #[.int .i64 0, .int .i64 0, .slice none 0 0] 26) := blk_below (heap_alloc_new w7 _) hbw8 (by simp))); (try (have zw80 : w8.cell? ⟨_, 0, none⟩ = some (.int .i64 0) := blk_cell kzw8 0)); (try (have zfw80 := blk_frozen kzw8 0)); (try (have zw81 : w8.cell? ⟨_, 1, none⟩ = some (.int .i64 0) := blk_cell kzw8 1)); (try (have zfw81 := blk_frozen kzw8 1)); (try (have zw82 : w8.cell? ⟨_, 2, none⟩ = some (.slice none 0 0) := blk_cell kzw8 2)); (try (have zfw82 := blk_frozen kzw8 2))))
    all_goals
      first
      | (have hfin := fin3 (w := w6) kzw8 hqw8 (Nat.le_refl _) (.int .i64 0) (.int .i64 0) (.slice none 0 0); have hA := hfin.blk; have hB := hfin.below; clear hfin; generalize ((w8.setCell ⟨w6.heap.size, 0, none⟩ (.int .i64 0)).setCell ⟨w6.heap.size, 1, none⟩ (.int .i64 0)).setCell ⟨w6.heap.size, 2, none⟩ (.slice none 0 0) = wf at *; obtain ⟨bf, hbf⟩ : ∃ b, b = w6.heap.size := ⟨_, rfl⟩; have hge : w6.heap.size ≤ bf := Nat.le_trans (Nat.le_refl _) (Nat.le_of_eq hbf.symm); rw [← hbf] at hA ⊢; exact hrest wf bf ao2 co2 ⟨hge, hA, hB⟩)
      | (have hfin := fin3 (w := w6) kzw8 hqw8 (hqw7.size) (.int .i64 0) (.int .i64 0) (.slice none 0 0); have hA := hfin.blk; have hB := hfin.below; clear hfin; generalize ((w8.setCell ⟨w7.heap.size, 0, none⟩ (.int .i64 0)).setCell ⟨w7.heap.size, 1, none⟩ (.int .i64 0)).setCell ⟨w7.heap.size, 2, none⟩ (.slice none 0 0) = wf at *; obtain ⟨bf, hbf⟩ : ∃ b, b = w7.heap.size := ⟨_, rfl⟩; have hge : w6.heap.size ≤ bf := Nat.le_trans (hqw7.size) (Nat.le_of_eq hbf.symm); rw [← hbf] at hA ⊢; exact hrest wf bf ao2 co2 ⟨hge, hA, hB⟩)
      | (have hA := heap_alloc_new w8 (.cells #[.int .i64 0, .int .i64 0, .slice none 0 0] 26); have hB := hqw8.alloc hqw8.size (.cells #[.int .i64 0, .int .i64 0, .slice none 0 0] 26); generalize w8.alloc (.cells #[.int .i64 0, .int .i64 0, .slice none 0 0] 26) = wf at *; obtain ⟨bf, hbf⟩ : ∃ b, b = w8.heap.size := ⟨_, rfl⟩; have hge : w6.heap.size ≤ bf := Nat.le_trans hqw8.size (Nat.le_of_eq hbf.symm); rw [← hbf] at hA ⊢; exact hrest wf bf ao2 co2 ⟨hge, hA, hB⟩)
  rintro w9 bC ao2 co2 ⟨hge, kC, hbN⟩
  have ltCp : B < bC := Nat.lt_of_lt_of_le (blk_lt kp) hge
  have ltCr : B + 1 < bC := Nat.lt_of_lt_of_le (blk_lt kr) hge
  have ltCq : B + 2 < bC := Nat.lt_of_lt_of_le (blk_lt kq) hge
  have ltCF : bF < bC := Nat.lt_of_lt_of_le (blk_lt kF) hge
  clear hge
  have hsz := hbN.size
  have kp := blk_below kp hbN (blk_lt kp)
  have kr := blk_below kr hbN (blk_lt kr)
  have kq := blk_below kq hbN (blk_lt kq)
  have kF := blk_below kF hbN (blk_lt kF)
  have HXp := hide ((unhide HXp).below hbN)
  have HSe := hide ((unhide HSe).below hbN)
  have HB := hide ((unhide HB).trans (hbN.mono (by omega)))
  have hs : B + 3 ≤ w9.heap.size := by omega
  clear hbN hsz
  have hlp : B < w9.heap.size := blk_lt kp
  have cp0 : w9.cell? ⟨B, 0, none⟩ = some (.int .i64 (W : Int)) := blk_cell kp 0
  have cp1 : w9.cell? ⟨B, 1, none⟩ = some (.int .i64 (H : Int)) := blk_cell kp 1
  have cp2 : w9.cell? ⟨B, 2, none⟩ = some (.slice a n c) := blk_cell kp 2
  have hlr : B + 1 < w9.heap.size := blk_lt kr
  have cr0 : w9.cell? ⟨B + 1, 0, none⟩ = some (.int .i64 X) := blk_cell kr 0
  have cr1 : w9.cell? ⟨B + 1, 1, none⟩ = some (.int .i64 Y) := blk_cell kr 1
  have cr2 : w9.cell? ⟨B + 1, 2, none⟩ = some (.int .i64 RW) := blk_cell kr 2
  have cr3 : w9.cell? ⟨B + 1, 3, none⟩ = some (.int .i64 RH) := blk_cell kr 3
  have hlq : B + 2 < w9.heap.size := blk_lt kq
  have cq0 : w9.cell? ⟨B + 2, 0, none⟩ = some (.int .u8 (q.r.toNat : Int)) := blk_cell kq 0
  have cq1 : w9.cell? ⟨B + 2, 1, none⟩ = some (.int .u8 (q.g.toNat : Int)) := blk_cell kq 1
  have cq2 : w9.cell? ⟨B + 2, 2, none⟩ = some (.int .u8 (q.b.toNat : Int)) := blk_cell kq 2
  have cq3 : w9.cell? ⟨B + 2, 3, none⟩ = some (.int .u8 (q.a.toNat : Int)) := blk_cell kq 3
  have hlF : bF < w9.heap.size := blk_lt kF
  have cF0 : w9.cell? ⟨bF, 0, none⟩ = some (.int .i64 0) := blk_cell kF 0
  have cF1 : w9.cell? ⟨bF, 1, none⟩ = some (.int .i64 0) := blk_cell kF 1
  have cF2 : w9.cell? ⟨bF, 2, none⟩ = some (.slice none 0 0) := blk_cell kF 2
  have hlC : bC < w9.heap.size := blk_lt kC
  have cC0 : w9.cell? ⟨bC, 0, none⟩ = some (.int .i64 0) := blk_cell kC 0
  have cC1 : w9.cell? ⟨bC, 1, none⟩ = some (.int .i64 0) := blk_cell kC 1
  have cC2 : w9.cell? ⟨bC, 2, none⟩ = some (.slice none 0 0) := blk_cell kC 2
  go_wp2_with fail
  clear cp0 cp1 cp2 cr0 cr1 cr2 cr3 cq0 cq1 cq2 cq3 cF0 cF1 cF2 cC0 cC1 cC2 hlp hlr hlq hlF hlC
  refine (unhide HRT _).mono ?_
  rintro e w10 ⟨rfl, hbN⟩
  have hsz := hbN.size
  have kp := blk_below kp hbN (blk_lt kp)
  have kr := blk_below kr hbN (blk_lt kr)
  have kq := blk_below kq hbN (blk_lt kq)
  have kF := blk_below kF hbN (blk_lt kF)
  have kC := blk_below kC hbN (blk_lt kC)
  have HXp := hide ((unhide HXp).below hbN)
  have HSe := hide ((unhide HSe).below hbN)
  have HB := hide ((unhide HB).trans (hbN.mono (by omega)))
  have hs : B + 3 ≤ w10.heap.size := by omega
  clear hbN hsz
  have hlp : B < w10.heap.size := blk_lt kp
  have cp0 : w10.cell? ⟨B, 0, none⟩ = some (.int .i64 (W : Int)) := blk_cell kp 0
  have cp1 : w10.cell? ⟨B, 1, none⟩ = some (.int .i64 (H : Int)) := blk_cell kp 1
  have cp2 : w10.cell? ⟨B, 2, none⟩ = some (.slice a n c) := blk_cell kp 2
  have hlr : B + 1 < w10.heap.size := blk_lt kr
  have cr0 : w10.cell? ⟨B + 1, 0, none⟩ = some (.int .i64 X) := blk_cell kr 0
  have cr1 : w10.cell? ⟨B + 1, 1, none⟩ = some (.int .i64 Y) := blk_cell kr 1
  have cr2 : w10.cell? ⟨B + 1, 2, none⟩ = some (.int .i64 RW) := blk_cell kr 2
  have cr3 : w10.cell? ⟨B + 1, 3, none⟩ = some (.int .i64 RH) := blk_cell kr 3
  have hlq : B + 2 < w10.heap.size := blk_lt kq
  have cq0 : w10.cell? ⟨B + 2, 0, none⟩ = some (.int .u8 (q.r.toNat : Int)) := blk_cell kq 0
  have cq1 : w10.cell? ⟨B + 2, 1, none⟩ = some (.int .u8 (q.g.toNat : Int)) := blk_cell kq 1
  have cq2 : w10.cell? ⟨B + 2, 2, none⟩ = some (.int .u8 (q.b.toNat : Int)) := blk_cell kq 2
  have cq3 : w10.cell? ⟨B + 2, 3, none⟩ = some (.int .u8 (q.a.toNat : Int)) := blk_cell kq 3
  have hlF : bF < w10.heap.size := blk_lt kF
  have cF0 : w10.cell? ⟨bF, 0, none⟩ = some (.int .i64 0) := blk_cell kF 0
  have cF1 : w10.cell? ⟨bF, 1, none⟩ = some (.int .i64 0) := blk_cell kF 1
  have cF2 : w10.cell? ⟨bF, 2, none⟩ = some (.slice none 0 0) := blk_cell kF 2
  have hlC : bC < w10.heap.size := blk_lt kC
  have cC0 : w10.cell? ⟨bC, 0, none⟩ = some (.int .i64 0) := blk_cell kC 0
  have cC1 : w10.cell? ⟨bC, 1, none⟩ = some (.int .i64 0) := blk_cell kC 1
  have cC2 : w10.cell? ⟨bC, 2, none⟩ = some (.slice none 0 0) := blk_cell kC 2
  go_wp2_with fail
  clear cp0 cp1 cp2 cr0 cr1 cr2 cr3 cq0 cq1 cq2 cq3 cF0 cF1 cF2 cC0 cC1 cC2 hlp hlr hlq hlF hlC
  refine (unhide HN1 _).mono ?_
  rintro e w10 ⟨rfl, rfl⟩
  have hlp : B < w10.heap.size := blk_lt kp
  have cp0 : w10.cell? ⟨B, 0, none⟩ = some (.int .i64 (W : Int)) := blk_cell kp 0
  have cp1 : w10.cell? ⟨B, 1, none⟩ = some (.int .i64 (H : Int)) := blk_cell kp 1
  have cp2 : w10.cell? ⟨B, 2, none⟩ = some (.slice a n c) := blk_cell kp 2
  have hlr : B + 1 < w10.heap.size := blk_lt kr
  have cr0 : w10.cell? ⟨B + 1, 0, none⟩ = some (.int .i64 X) := blk_cell kr 0
  have cr1 : w10.cell? ⟨B + 1, 1, none⟩ = some (.int .i64 Y) := blk_cell kr 1
  have cr2 : w10.cell? ⟨B + 1, 2, none⟩ = some (.int .i64 RW) := blk_cell kr 2
  have cr3 : w10.cell? ⟨B + 1, 3, none⟩ = some (.int .i64 RH) := blk_cell kr 3
  have hlq : B + 2 < w10.heap.size := blk_lt kq
  have cq0 : w10.cell? ⟨B + 2, 0, none⟩ = some (.int .u8 (q.r.toNat : Int)) := blk_cell kq 0
  have cq1 : w10.cell? ⟨B + 2, 1, none⟩ = some (.int .u8 (q.g.toNat : Int)) := blk_cell kq 1
  have cq2 : w10.cell? ⟨B + 2, 2, none⟩ = some (.int .u8 (q.b.toNat : Int)) := blk_cell kq 2
  have cq3 : w10.cell? ⟨B + 2, 3, none⟩ = some (.int .u8 (q.a.toNat : Int)) := blk_cell kq 3
  have hlF : bF < w10.heap.size := blk_lt kF
  have cF0 : w10.cell? ⟨bF, 0, none⟩ = some (.int .i64 0) := blk_cell kF 0
  have cF1 : w10.cell? ⟨bF, 1, none⟩ = some (.int .i64 0) := blk_cell kF 1
  have cF2 : w10.cell? ⟨bF, 2, none⟩ = some (.slice none 0 0) := blk_cell kF 2
  have hlC : bC < w10.heap.size := blk_lt kC
  have cC0 : w10.cell? ⟨bC, 0, none⟩ = some (.int .i64 0) := blk_cell kC 0
  have cC1 : w10.cell? ⟨bC, 1, none⟩ = some (.int .i64 0) := blk_cell kC 1
  have cC2 : w10.cell? ⟨bC, 2, none⟩ = some (.slice none 0 0) := blk_cell kC 2
  go_wp2_with fail
  clear cp0 cp1 cp2 cr0 cr1 cr2 cr3 cq0 cq1 cq2 cq3 cF0 cF1 cF2 cC0 cC1 cC2 hlp hlr hlq hlF hlC
  refine (unhide HN2 _).mono ?_
  rintro e w10 ⟨rfl, rfl⟩
  have hlp : B < w10.heap.size := blk_lt kp
  have cp0 : w10.cell? ⟨B, 0, none⟩ = some (.int .i64 (W : Int)) := blk_cell kp 0
  have cp1 : w10.cell? ⟨B, 1, none⟩ = some (.int .i64 (H : Int)) := blk_cell kp 1
  have cp2 : w10.cell? ⟨B, 2, none⟩ = some (.slice a n c) := blk_cell kp 2
  have hlr : B + 1 < w10.heap.size := blk_lt kr
  have cr0 : w10.cell? ⟨B + 1, 0, none⟩ = some (.int .i64 X) := blk_cell kr 0
  have cr1 : w10.cell? ⟨B + 1, 1, none⟩ = some (.int .i64 Y) := blk_cell kr 1
  have cr2 : w10.cell? ⟨B + 1, 2, none⟩ = some (.int .i64 RW) := blk_cell kr 2
  have cr3 : w10.cell? ⟨B + 1, 3, none⟩ = some (.int .i64 RH) := blk_cell kr 3
  have hlq : B + 2 < w10.heap.size := blk_lt kq
  have cq0 : w10.cell? ⟨B + 2, 0, none⟩ = some (.int .u8 (q.r.toNat : Int)) := blk_cell kq 0
  have cq1 : w10.cell? ⟨B + 2, 1, none⟩ = some (.int .u8 (q.g.toNat : Int)) := blk_cell kq 1
  have cq2 : w10.cell? ⟨B + 2, 2, none⟩ = some (.int .u8 (q.b.toNat : Int)) := blk_cell kq 2
  have cq3 : w10.cell? ⟨B + 2, 3, none⟩ = some (.int .u8 (q.a.toNat : Int)) := blk_cell kq 3
  have hlF : bF < w10.heap.size := blk_lt kF
  have cF0 : w10.cell? ⟨bF, 0, none⟩ = some (.int .i64 0) := blk_cell kF 0
  have cF1 : w10.cell? ⟨bF, 1, none⟩ = some (.int .i64 0) := blk_cell kF 1
  have cF2 : w10.cell? ⟨bF, 2, none⟩ = some (.slice none 0 0) := blk_cell kF 2
  have hlC : bC < w10.heap.size := blk_lt kC
  have cC0 : w10.cell? ⟨bC, 0, none⟩ = some (.int .i64 0) := blk_cell kC 0
  have cC1 : w10.cell? ⟨bC, 1, none⟩ = some (.int .i64 0) := blk_cell kC 1
  have cC2 : w10.cell? ⟨bC, 2, none⟩ = some (.slice none 0 0) := blk_cell kC 2
  go_wp2_with fail
  clear cp0 cp1 cp2 cr0 cr1 cr2 cr3 cq0 cq1 cq2 cq3 cF0 cF1 cF2 cC0 cC1 cC2 hlp hlr hlq hlF hlC
  refine (unhide HTe w10 (unhide HSe)).mono ?_
  rintro e w11 ⟨rfl, hbN⟩
  have hsz := hbN.size
  have kp := blk_below kp hbN (blk_lt kp)
  have kr := blk_below kr hbN (blk_lt kr)
  have kq := blk_below kq hbN (blk_lt kq)
  have kF := blk_below kF hbN (blk_lt kF)
  have kC := blk_below kC hbN (blk_lt kC)
  have HXp := hide ((unhide HXp).below hbN)
  have HSe := hide ((unhide HSe).below hbN)
  have HB := hide ((unhide HB).trans (hbN.mono (by omega)))
  have hs : B + 3 ≤ w11.heap.size := by omega
  clear hbN hsz
  have hlp : B < w11.heap.size := blk_lt kp
  have cp0 : w11.cell? ⟨B, 0, none⟩ = some (.int .i64 (W : Int)) := blk_cell kp 0
  have cp1 : w11.cell? ⟨B, 1, none⟩ = some (.int .i64 (H : Int)) := blk_cell kp 1
  have cp2 : w11.cell? ⟨B, 2, none⟩ = some (.slice a n c) := blk_cell kp 2
  have hlr : B + 1 < w11.heap.size := blk_lt kr
  have cr0 : w11.cell? ⟨B + 1, 0, none⟩ = some (.int .i64 X) := blk_cell kr 0
  have cr1 : w11.cell? ⟨B + 1, 1, none⟩ = some (.int .i64 Y) := blk_cell kr 1
  have cr2 : w11.cell? ⟨B + 1, 2, none⟩ = some (.int .i64 RW) := blk_cell kr 2
  have cr3 : w11.cell? ⟨B + 1, 3, none⟩ = some (.int .i64 RH) := blk_cell kr 3
  have hlq : B + 2 < w11.heap.size := blk_lt kq
  have cq0 : w11.cell? ⟨B + 2, 0, none⟩ = some (.int .u8 (q.r.toNat : Int)) := blk_cell kq 0
  have cq1 : w11.cell? ⟨B + 2, 1, none⟩ = some (.int .u8 (q.g.toNat : Int)) := blk_cell kq 1
  have cq2 : w11.cell? ⟨B + 2, 2, none⟩ = some (.int .u8 (q.b.toNat : Int)) := blk_cell kq 2
  have cq3 : w11.cell? ⟨B + 2, 3, none⟩ = some (.int .u8 (q.a.toNat : Int)) := blk_cell kq 3
  have hlF : bF < w11.heap.size := blk_lt kF
  have cF0 : w11.cell? ⟨bF, 0, none⟩ = some (.int .i64 0) := blk_cell kF 0
  have cF1 : w11.cell? ⟨bF, 1, none⟩ = some (.int .i64 0) := blk_cell kF 1
  have cF2 : w11.cell? ⟨bF, 2, none⟩ = some (.slice none 0 0) := blk_cell kF 2
  have hlC : bC < w11.heap.size := blk_lt kC
  have cC0 : w11.cell? ⟨bC, 0, none⟩ = some (.int .i64 0) := blk_cell kC 0
  have cC1 : w11.cell? ⟨bC, 1, none⟩ = some (.int .i64 0) := blk_cell kC 1
  have cC2 : w11.cell? ⟨bC, 2, none⟩ = some (.slice none 0 0) := blk_cell kC 2
  go_wp2_with fail
  clear cp0 cp1 cp2 cr0 cr1 cr2 cr3 cq0 cq1 cq2 cq3 cF0 cF1 cF2 cC0 cC1 cC2 hlp hlr hlq hlF hlC
  refine (unhide HCI _).mono ?_
  rintro e w12 ⟨rfl, hbN⟩
  have hsz := hbN.size
  have kp := blk_below kp hbN (blk_lt kp)
  have kr := blk_below kr hbN (blk_lt kr)
  have kq := blk_below kq hbN (blk_lt kq)
  have kF := blk_below kF hbN (blk_lt kF)
  have kC := blk_below kC hbN (blk_lt kC)
  have HXp := hide ((unhide HXp).below hbN)
  have HSe := hide ((unhide HSe).below hbN)
  have HB := hide ((unhide HB).trans (hbN.mono (by omega)))
  have hs : B + 3 ≤ w12.heap.size := by omega
  clear hbN hsz
  have hlp : B < w12.heap.size := blk_lt kp
  have cp0 : w12.cell? ⟨B, 0, none⟩ = some (.int .i64 (W : Int)) := blk_cell kp 0
  have cp1 : w12.cell? ⟨B, 1, none⟩ = some (.int .i64 (H : Int)) := blk_cell kp 1
  have cp2 : w12.cell? ⟨B, 2, none⟩ = some (.slice a n c) := blk_cell kp 2
  have hlr : B + 1 < w12.heap.size := blk_lt kr
  have cr0 : w12.cell? ⟨B + 1, 0, none⟩ = some (.int .i64 X) := blk_cell kr 0
  have cr1 : w12.cell? ⟨B + 1, 1, none⟩ = some (.int .i64 Y) := blk_cell kr 1
  have cr2 : w12.cell? ⟨B + 1, 2, none⟩ = some (.int .i64 RW) := blk_cell kr 2
  have cr3 : w12.cell? ⟨B + 1, 3, none⟩ = some (.int .i64 RH) := blk_cell kr 3
  have hlq : B + 2 < w12.heap.size := blk_lt kq
  have cq0 : w12.cell? ⟨B + 2, 0, none⟩ = some (.int .u8 (q.r.toNat : Int)) := blk_cell kq 0
  have cq1 : w12.cell? ⟨B + 2, 1, none⟩ = some (.int .u8 (q.g.toNat : Int)) := blk_cell kq 1
  have cq2 : w12.cell? ⟨B + 2, 2, none⟩ = some (.int .u8 (q.b.toNat : Int)) := blk_cell kq 2
  have cq3 : w12.cell? ⟨B + 2, 3, none⟩ = some (.int .u8 (q.a.toNat : Int)) := blk_cell kq 3
  have hlF : bF < w12.heap.size := blk_lt kF
  have cF0 : w12.cell? ⟨bF, 0, none⟩ = some (.int .i64 0) := blk_cell kF 0
  have cF1 : w12.cell? ⟨bF, 1, none⟩ = some (.int .i64 0) := blk_cell kF 1
  have cF2 : w12.cell? ⟨bF, 2, none⟩ = some (.slice none 0 0) := blk_cell kF 2
  have hlC : bC < w12.heap.size := blk_lt kC
  have cC0 : w12.cell? ⟨bC, 0, none⟩ = some (.int .i64 0) := blk_cell kC 0
  have cC1 : w12.cell? ⟨bC, 1, none⟩ = some (.int .i64 0) := blk_cell kC 1
  have cC2 : w12.cell? ⟨bC, 2, none⟩ = some (.slice none 0 0) := blk_cell kC 2
  go_wp2_with fail
  clear cp0 cp1 cp2 cr0 cr1 cr2 cr3 cq0 cq1 cq2 cq3 cF0 cF1 cF2 cC0 cC1 cC2 hlp hlr hlq hlF hlC
  refine (unhide HTe w12 (unhide HSe)).mono ?_
  rintro e w13 ⟨rfl, hbN⟩
  have hsz := hbN.size
  have kp := blk_below kp hbN (blk_lt kp)
  have kr := blk_below kr hbN (blk_lt kr)
  have kq := blk_below kq hbN (blk_lt kq)
  have kF := blk_below kF hbN (blk_lt kF)
  have kC := blk_below kC hbN (blk_lt kC)
  have HXp := hide ((unhide HXp).below hbN)
  have HSe := hide ((unhide HSe).below hbN)
  have HB := hide ((unhide HB).trans (hbN.mono (by omega)))
  have hs : B + 3 ≤ w13.heap.size := by omega
  clear hbN hsz
  have hlp : B < w13.heap.size := blk_lt kp
  have cp0 : w13.cell? ⟨B, 0, none⟩ = some (.int .i64 (W : Int)) := blk_cell kp 0
  have cp1 : w13.cell? ⟨B, 1, none⟩ = some (.int .i64 (H : Int)) := blk_cell kp 1
  have cp2 : w13.cell? ⟨B, 2, none⟩ = some (.slice a n c) := blk_cell kp 2
  have hlr : B + 1 < w13.heap.size := blk_lt kr
  have cr0 : w13.cell? ⟨B + 1, 0, none⟩ = some (.int .i64 X) := blk_cell kr 0
  have cr1 : w13.cell? ⟨B + 1, 1, none⟩ = some (.int .i64 Y) := blk_cell kr 1
  have cr2 : w13.cell? ⟨B + 1, 2, none⟩ = some (.int .i64 RW) := blk_cell kr 2
  have cr3 : w13.cell? ⟨B + 1, 3, none⟩ = some (.int .i64 RH) := blk_cell kr 3
  have hlq : B + 2 < w13.heap.size := blk_lt kq
  have cq0 : w13.cell? ⟨B + 2, 0, none⟩ = some (.int .u8 (q.r.toNat : Int)) := blk_cell kq 0
  have cq1 : w13.cell? ⟨B + 2, 1, none⟩ = some (.int .u8 (q.g.toNat : Int)) := blk_cell kq 1
  have cq2 : w13.cell? ⟨B + 2, 2, none⟩ = some (.int .u8 (q.b.toNat : Int)) := blk_cell kq 2
  have cq3 : w13.cell? ⟨B + 2, 3, none⟩ = some (.int .u8 (q.a.toNat : Int)) := blk_cell kq 3
  have hlF : bF < w13.heap.size := blk_lt kF
  have cF0 : w13.cell? ⟨bF, 0, none⟩ = some (.int .i64 0) := blk_cell kF 0
  have cF1 : w13.cell? ⟨bF, 1, none⟩ = some (.int .i64 0) := blk_cell kF 1
  have cF2 : w13.cell? ⟨bF, 2, none⟩ = some (.slice none 0 0) := blk_cell kF 2
  have hlC : bC < w13.heap.size := blk_lt kC
  have cC0 : w13.cell? ⟨bC, 0, none⟩ = some (.int .i64 0) := blk_cell kC 0
  have cC1 : w13.cell? ⟨bC, 1, none⟩ = some (.int .i64 0) := blk_cell kC 1
  have cC2 : w13.cell? ⟨bC, 2, none⟩ = some (.slice none 0 0) := blk_cell kC 2
  go_wp2
  clear cp0 cp1 cp2 cr0 cr1 cr2 cr3 cq0 cq1 cq2 cq3 cF0 cF1 cF2 cC0 cC1 cC2 hlp hlr hlq hlF hlC
  go_ret
  exact ⟨rfl, by rw [← unhide HBE]; exact unhide HB⟩
end Go.Proofs.YtjhnneplknhmkahDoor
