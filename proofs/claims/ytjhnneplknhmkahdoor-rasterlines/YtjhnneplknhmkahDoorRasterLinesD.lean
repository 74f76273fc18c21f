/- The statement on lines: the walk, way by way. Written by genrl.py. -/
import Derived.Test.YtjhnneplknhmkahDoorLm4
import Derived.Test.YtjhnneplknhmkahDoorRt9
import Derived.Test.YtjhnneplknhmkahDoorRo2
namespace Go.Proofs.YtjhnneplknhmkahDoor
open Go.RowKit

set_option maxHeartbeats 4000000 in
set_option maxRecDepth 100000 in
theorem rasterLines_shape2 (W H : Int) (a : Option Addr) (n c : Nat) (p : Nat → Px) (x0 y0 x1 y1 : Int) (q : Px) (w : World) (A : Nat → Addr) (hS : Sent w A) (hP : IsPx w a n p) (hn3 : n ≤ 3000) (hR : ¬ RightP W H n) (n1 : Nr x0) (n2 : ¬ Nr y0) :
    Calls Tryd.prog 8 #[.agg #[.int .i64 W, .int .i64 H, .slice a n c], .int .i64 x0, .int .i64 y0, .int .i64 x1, .int .i64 y1, q.val] w fun e w' => e = .returned (.bool true) ∧ Below w.heap.size w w' := by
  have HPL := hide plainly_any
  have HSM := hide (fun w => small_any W H a n c w)
  rw [decide_eq_true hn3] at HSM
  have HX := hide hP
  have HS0 := hide hS
  have HRT := hide (fun w => pright_any W H a n c w)
  have HO := hide (fun w (h : IsPx w a n p) => own_isPx W H a n c p w h (by omega))
  have HN1 := hide (fun w => nearP_any x0 w)
  rw [decide_eq_true n1] at HN1
  have HN2 := hide (fun w => nearP_any y0 w)
  rw [decide_eq_false n2] at HN2
  rw [decide_eq_false hR] at HRT
  have HF := hide (fun w a c (h : Sent w A) => line_shape W H a n c x0 y0 x1 y1 q w _ _ (h.cell 2 (by omega)) hR)
  have HTe := hide (fun w (h : Sent w A) => told_err 2 3 W H a n c w A h (by omega) rfl)
  clear hn3 hP hS hR n1 n2
  unfold Px.val at *
  have HA := hide (al2 w (.cells #[.int .i64 W, .int .i64 H, .slice a n c] 26) (.cells #[.int .u8 (q.r.toNat : Int), .int .u8 (q.g.toNat : Int), .int .u8 (q.b.toNat : Int), .int .u8 (q.a.toNat : Int)] 23))
  obtain ⟨B, hB⟩ : ∃ B, B = w.heap.size := ⟨_, rfl⟩
  go_enter Tryd.func8, Tryd.ntmps8
  go_wp2_with fail
  generalize ((w.alloc (.cells #[.int .i64 W, .int .i64 H, .slice a n c] 26)).alloc (.cells #[.int .u8 (q.r.toNat : Int), .int .u8 (q.g.toNat : Int), .int .u8 (q.b.toNat : Int), .int .u8 (q.a.toNat : Int)] 23)) = w1 at *
  rw [← hB] at HA ⊢
  obtain ⟨hs1, kp, kq, hb1⟩ := unhide HA
  have HBE := hide hB
  clear HA hB
  have hs : B + 2 ≤ w1.heap.size := by omega
  have HB := hide hb1
  clear hs1 hb1
  have HXp := hide ((unhide HX).under (unhide HB) (fun x hx h0 => by rw [unhide HBE]; exact (unhide HX).lt x hx h0))
  have HSe := hide ((unhide HS0).below (by rw [← unhide HBE]; exact unhide HB))
  clear HX HS0
  refine (unhide HPL _).mono ?_
  rintro e w2 ⟨rfl, hbN⟩
  have hsz := hbN.size
  have kp := blk_below kp hbN (blk_lt kp)
  have kq := blk_below kq hbN (blk_lt kq)
  have HXp := hide ((unhide HXp).below hbN)
  have HSe := hide ((unhide HSe).below hbN)
  have HB := hide ((unhide HB).trans (hbN.mono (by omega)))
  have hs : B + 2 ≤ w2.heap.size := by omega
  clear hbN hsz
  have hlp : B < w2.heap.size := blk_lt kp
  have cp0 : w2.cell? ⟨B, 0, none⟩ = some (.int .i64 W) := blk_cell kp 0
  have cp1 : w2.cell? ⟨B, 1, none⟩ = some (.int .i64 H) := blk_cell kp 1
  have cp2 : w2.cell? ⟨B, 2, none⟩ = some (.slice a n c) := blk_cell kp 2
  have hlq : B + 1 < w2.heap.size := blk_lt kq
  have cq0 : w2.cell? ⟨B + 1, 0, none⟩ = some (.int .u8 (q.r.toNat : Int)) := blk_cell kq 0
  have cq1 : w2.cell? ⟨B + 1, 1, none⟩ = some (.int .u8 (q.g.toNat : Int)) := blk_cell kq 1
  have cq2 : w2.cell? ⟨B + 1, 2, none⟩ = some (.int .u8 (q.b.toNat : Int)) := blk_cell kq 2
  have cq3 : w2.cell? ⟨B + 1, 3, none⟩ = some (.int .u8 (q.a.toNat : Int)) := blk_cell kq 3
  go_wp2_with fail
  clear cp0 cp1 cp2 cq0 cq1 cq2 cq3 hlp hlq
  refine (unhide HSM _).mono ?_
  rintro e w3 ⟨rfl, hbN⟩
  have hsz := hbN.size
  have kp := blk_below kp hbN (blk_lt kp)
  have kq := blk_below kq hbN (blk_lt kq)
  have HXp := hide ((unhide HXp).below hbN)
  have HSe := hide ((unhide HSe).below hbN)
  have HB := hide ((unhide HB).trans (hbN.mono (by omega)))
  have hs : B + 2 ≤ w3.heap.size := by omega
  clear hbN hsz
  have hlp : B < w3.heap.size := blk_lt kp
  have cp0 : w3.cell? ⟨B, 0, none⟩ = some (.int .i64 W) := blk_cell kp 0
  have cp1 : w3.cell? ⟨B, 1, none⟩ = some (.int .i64 H) := blk_cell kp 1
  have cp2 : w3.cell? ⟨B, 2, none⟩ = some (.slice a n c) := blk_cell kp 2
  have hlq : B + 1 < w3.heap.size := blk_lt kq
  have cq0 : w3.cell? ⟨B + 1, 0, none⟩ = some (.int .u8 (q.r.toNat : Int)) := blk_cell kq 0
  have cq1 : w3.cell? ⟨B + 1, 1, none⟩ = some (.int .u8 (q.g.toNat : Int)) := blk_cell kq 1
  have cq2 : w3.cell? ⟨B + 1, 2, none⟩ = some (.int .u8 (q.b.toNat : Int)) := blk_cell kq 2
  have cq3 : w3.cell? ⟨B + 1, 3, none⟩ = some (.int .u8 (q.a.toNat : Int)) := blk_cell kq 3
  go_wp2
  clear cp0 cp1 cp2 cq0 cq1 cq2 cq3 hlp hlq
  apply once1 (fun wf bf ao co => w3.heap.size ≤ bf ∧ wf.heap[bf]? = some (.cells #[.int .i64 0, .int .i64 0, .slice none 0 0] 26) ∧ Below w3.heap.size w3 wf)
  · intro hrest
    have hlp : B < w3.heap.size := blk_lt kp
    have cp0 : w3.cell? ⟨B, 0, none⟩ = some (.int .i64 W) := blk_cell kp 0
    have cp1 : w3.cell? ⟨B, 1, none⟩ = some (.int .i64 H) := blk_cell kp 1
    have cp2 : w3.cell? ⟨B, 2, none⟩ = some (.slice a n c) := blk_cell kp 2
    have hlq : B + 1 < w3.heap.size := blk_lt kq
    have cq0 : w3.cell? ⟨B + 1, 0, none⟩ = some (.int .u8 (q.r.toNat : Int)) := blk_cell kq 0
    have cq1 : w3.cell? ⟨B + 1, 1, none⟩ = some (.int .u8 (q.g.toNat : Int)) := blk_cell kq 1
    have cq2 : w3.cell? ⟨B + 1, 2, none⟩ = some (.int .u8 (q.b.toNat : Int)) := blk_cell kq 2
    have cq3 : w3.cell? ⟨B + 1, 3, none⟩ = some (.int .u8 (q.a.toNat : Int)) := blk_cell kq 3
    have hKS := hide (fun wx (h : Below w3.heap.size w3 wx) => (⟨bcell h hlp cp0, bcell h hlp cp1, bcell h hlp cp2, bcell h hlq cq0, bcell h hlq cq1, bcell h hlq cq2, bcell h hlq cq3⟩ : wx.cell? ⟨B, 0, none⟩ = some (.int .i64 W) ∧ wx.cell? ⟨B, 1, none⟩ = some (.int .i64 H) ∧ wx.cell? ⟨B, 2, none⟩ = some (.slice a n c) ∧ wx.cell? ⟨B + 1, 0, none⟩ = some (.int .u8 (q.r.toNat : Int)) ∧ wx.cell? ⟨B + 1, 1, none⟩ = some (.int .u8 (q.g.toNat : Int)) ∧ wx.cell? ⟨B + 1, 2, none⟩ = some (.int .u8 (q.b.toNat : Int)) ∧ wx.cell? ⟨B + 1, 3, none⟩ = some (.int .u8 (q.a.toNat : Int))))
    have hdr := (Below.refl w3.heap.size w3).drew
    go_region_held (fun w' => w'.cell? ⟨B, 0, none⟩ = some (.int .i64 W) ∧ w'.cell? ⟨B, 1, none⟩ = some (.int .i64 H) ∧ w'.cell? ⟨B, 2, none⟩ = some (.slice a n c) ∧ w'.cell? ⟨B + 1, 0, none⟩ = some (.int .u8 (q.r.toNat : Int)) ∧ w'.cell? ⟨B + 1, 1, none⟩ = some (.int .u8 (q.g.toNat : Int)) ∧ w'.cell? ⟨B + 1, 2, none⟩ = some (.int .u8 (q.b.toNat : Int)) ∧ w'.cell? ⟨B + 1, 3, none⟩ = some (.int .u8 (q.a.toNat : Int))) (exact unhide hKS _ (by (first | with_reducible exact hqw5 | with_reducible exact hqw4 | with_reducible exact hdr | with_reducible exact hqw5.alloc hqw5.size _ | with_reducible exact hqw4.alloc hqw4.size _ | with_reducible exact ((Below.refl _ _).alloc (Nat.le_refl _) _).drew | with_reducible exact set3_below hqw5 (Nat.le_refl _) _ _ _ | with_reducible exact set3_below hqw5 hqw4.size _ _ _ | with_reducible exact set3_below (hqw5.alloc hqw5.size _) hqw5.size _ _ _ | exact hqw5.alloc hqw5.size _))) (first | (go_at_call 16; refine (unhide HO _ ((unhide HXp).below (by (first | with_reducible exact hqw5 | with_reducible exact hqw4 | with_reducible exact hdr | with_reducible exact hqw5.alloc hqw5.size _ | with_reducible exact hqw4.alloc hqw4.size _ | with_reducible exact ((Below.refl _ _).alloc (Nat.le_refl _) _).drew | with_reducible exact set3_below hqw5 (Nat.le_refl _) _ _ _ | with_reducible exact set3_below hqw5 hqw4.size _ _ _ | with_reducible exact set3_below (hqw5.alloc hqw5.size _) hqw5.size _ _ _ | exact hqw5.alloc hqw5.size _)))).mono ?_; rintro e w4 ⟨ao, co, rfl, hpo, hbw4⟩; have hqw4 := bel_trans (w := w3) (by (first | with_reducible exact hqw5 | with_reducible exact hqw4 | with_reducible exact hdr | with_reducible exact hqw5.alloc hqw5.size _ | with_reducible exact hqw4.alloc hqw4.size _ | with_reducible exact ((Below.refl _ _).alloc (Nat.le_refl _) _).drew | with_reducible exact set3_below hqw5 (Nat.le_refl _) _ _ _ | with_reducible exact set3_below hqw5 hqw4.size _ _ _ | with_reducible exact set3_below (hqw5.alloc hqw5.size _) hqw5.size _ _ _ | exact hqw5.alloc hqw5.size _)) hbw4; (try (have kzw4 : w4.heap[w3.heap.size]? = some (.cells #[.int .i64 0, .int .i64 0, .slice none 0 0] 26) := blk_below (show ((w3.alloc (.cells #[.int .i64 0, .int .i64 0, .slice none 0 0] 26)).drew).heap[w3.heap.size]? = some (.cells #[.int .i64 0, .int .i64 0, .slice none 0 0] 26) from heap_alloc_new w3 _) hbw4 (by show _ < (w3.alloc _).heap.size; simp))); (try (have zw40 : w4.cell? ⟨_, 0, none⟩ = some (.int .i64 0) := blk_cell kzw4 0)); (try (have zfw40 := blk_frozen kzw4 0)); (try (have zw41 : w4.cell? ⟨_, 1, none⟩ = some (.int .i64 0) := blk_cell kzw4 1)); (try (have zfw41 := blk_frozen kzw4 1)); (try (have zw42 : w4.cell? ⟨_, 2, none⟩ = some (.slice none 0 0) := blk_cell kzw4 2)); (try (have zfw42 := blk_frozen kzw4 2))) | (go_at_call 38; refine (unhide HF _ _ _ ((unhide HSe).below (by (first | with_reducible exact hqw5 | with_reducible exact hqw4 | with_reducible exact hdr | with_reducible exact hqw5.alloc hqw5.size _ | with_reducible exact hqw4.alloc hqw4.size _ | with_reducible exact ((Below.refl _ _).alloc (Nat.le_refl _) _).drew | with_reducible exact set3_below hqw5 (Nat.le_refl _) _ _ _ | with_reducible exact set3_below hqw5 hqw4.size _ _ _ | with_reducible exact set3_below (hqw5.alloc hqw5.size _) hqw5.size _ _ _ | exact hqw5.alloc hqw5.size _)))).mono ?_; rintro e w5 ⟨rfl, hbw5⟩; have hqw5 := bel_trans (w := w3) (by (first | with_reducible exact hqw5 | with_reducible exact hqw4 | with_reducible exact hdr | with_reducible exact hqw5.alloc hqw5.size _ | with_reducible exact hqw4.alloc hqw4.size _ | with_reducible exact ((Below.refl _ _).alloc (Nat.le_refl _) _).drew | with_reducible exact set3_below hqw5 (Nat.le_refl _) _ _ _ | with_reducible exact set3_below hqw5 hqw4.size _ _ _ | with_reducible exact set3_below (hqw5.alloc hqw5.size _) hqw5.size _ _ _ | exact hqw5.alloc hqw5.size _)) hbw5; (try (have kzw5 := blk_below kzw4 hbw5 (blk_lt kzw4))); (try (have kzw5 : w5.heap[w4.heap.size]? = some (.cells #[.int .i64 0, .int .i64 0, .slice none 0 0] 26) := blk_below (heap_alloc_new w4 _) hbw5 (by simp))); (try (have zw50 : w5.cell? ⟨_, 0, none⟩ = some (.int .i64 0) := blk_cell kzw5 0)); (try (have zfw50 := blk_frozen kzw5 0)); (try (have zw51 : w5.cell? ⟨_, 1, none⟩ = some (.int .i64 0) := blk_cell kzw5 1)); (try (have zfw51 := blk_frozen kzw5 1)); (try (have zw52 : w5.cell? ⟨_, 2, none⟩ = some (.slice none 0 0) := blk_cell kzw5 2)); (try (have zfw52 := blk_frozen kzw5 2))))
    all_goals
      first
      | (have hfin := fin3 (w := w3) kzw5 hqw5 (Nat.le_refl _) (.int .i64 0) (.int .i64 0) (.slice none 0 0); have hA := hfin.blk; have hB := hfin.below; clear hfin; generalize ((w5.setCell ⟨w3.heap.size, 0, none⟩ (.int .i64 0)).setCell ⟨w3.heap.size, 1, none⟩ (.int .i64 0)).setCell ⟨w3.heap.size, 2, none⟩ (.slice none 0 0) = wf at *; obtain ⟨bf, hbf⟩ : ∃ b, b = w3.heap.size := ⟨_, rfl⟩; have hge : w3.heap.size ≤ bf := Nat.le_trans (Nat.le_refl _) (Nat.le_of_eq hbf.symm); rw [← hbf] at hA ⊢; exact hrest wf bf ao co ⟨hge, hA, hB⟩)
      | (have hfin := fin3 (w := w3) kzw5 hqw5 (hqw4.size) (.int .i64 0) (.int .i64 0) (.slice none 0 0); have hA := hfin.blk; have hB := hfin.below; clear hfin; generalize ((w5.setCell ⟨w4.heap.size, 0, none⟩ (.int .i64 0)).setCell ⟨w4.heap.size, 1, none⟩ (.int .i64 0)).setCell ⟨w4.heap.size, 2, none⟩ (.slice none 0 0) = wf at *; obtain ⟨bf, hbf⟩ : ∃ b, b = w4.heap.size := ⟨_, rfl⟩; have hge : w3.heap.size ≤ bf := Nat.le_trans (hqw4.size) (Nat.le_of_eq hbf.symm); rw [← hbf] at hA ⊢; exact hrest wf bf ao co ⟨hge, hA, hB⟩)
      | (have hA := heap_alloc_new w5 (.cells #[.int .i64 0, .int .i64 0, .slice none 0 0] 26); have hB := hqw5.alloc hqw5.size (.cells #[.int .i64 0, .int .i64 0, .slice none 0 0] 26); generalize w5.alloc (.cells #[.int .i64 0, .int .i64 0, .slice none 0 0] 26) = wf at *; obtain ⟨bf, hbf⟩ : ∃ b, b = w5.heap.size := ⟨_, rfl⟩; have hge : w3.heap.size ≤ bf := Nat.le_trans hqw5.size (Nat.le_of_eq hbf.symm); rw [← hbf] at hA ⊢; exact hrest wf bf ao co ⟨hge, hA, hB⟩)
  rintro w6 bF ao co ⟨hge, kF, hbN⟩
  have ltFp : B < bF := Nat.lt_of_lt_of_le (blk_lt kp) hge
  have ltFq : B + 1 < bF := Nat.lt_of_lt_of_le (blk_lt kq) hge
  clear hge
  have hsz := hbN.size
  have kp := blk_below kp hbN (blk_lt kp)
  have kq := blk_below kq hbN (blk_lt kq)
  have HXp := hide ((unhide HXp).below hbN)
  have HSe := hide ((unhide HSe).below hbN)
  have HB := hide ((unhide HB).trans (hbN.mono (by omega)))
  have hs : B + 2 ≤ w6.heap.size := by omega
  clear hbN hsz
  have hlp : B < w6.heap.size := blk_lt kp
  have cp0 : w6.cell? ⟨B, 0, none⟩ = some (.int .i64 W) := blk_cell kp 0
  have cp1 : w6.cell? ⟨B, 1, none⟩ = some (.int .i64 H) := blk_cell kp 1
  have cp2 : w6.cell? ⟨B, 2, none⟩ = some (.slice a n c) := blk_cell kp 2
  have hlq : B + 1 < w6.heap.size := blk_lt kq
  have cq0 : w6.cell? ⟨B + 1, 0, none⟩ = some (.int .u8 (q.r.toNat : Int)) := blk_cell kq 0
  have cq1 : w6.cell? ⟨B + 1, 1, none⟩ = some (.int .u8 (q.g.toNat : Int)) := blk_cell kq 1
  have cq2 : w6.cell? ⟨B + 1, 2, none⟩ = some (.int .u8 (q.b.toNat : Int)) := blk_cell kq 2
  have cq3 : w6.cell? ⟨B + 1, 3, none⟩ = some (.int .u8 (q.a.toNat : Int)) := blk_cell kq 3
  have hlF : bF < w6.heap.size := blk_lt kF
  have cF0 : w6.cell? ⟨bF, 0, none⟩ = some (.int .i64 0) := blk_cell kF 0
  have cF1 : w6.cell? ⟨bF, 1, none⟩ = some (.int .i64 0) := blk_cell kF 1
  have cF2 : w6.cell? ⟨bF, 2, none⟩ = some (.slice none 0 0) := blk_cell kF 2
  go_wp2_with fail
  clear cp0 cp1 cp2 cq0 cq1 cq2 cq3 cF0 cF1 cF2 hlp hlq hlF
  refine (unhide HN1 _).mono ?_
  rintro e w6 ⟨rfl, rfl⟩
  have hlp : B < w6.heap.size := blk_lt kp
  have cp0 : w6.cell? ⟨B, 0, none⟩ = some (.int .i64 W) := blk_cell kp 0
  have cp1 : w6.cell? ⟨B, 1, none⟩ = some (.int .i64 H) := blk_cell kp 1
  have cp2 : w6.cell? ⟨B, 2, none⟩ = some (.slice a n c) := blk_cell kp 2
  have hlq : B + 1 < w6.heap.size := blk_lt kq
  have cq0 : w6.cell? ⟨B + 1, 0, none⟩ = some (.int .u8 (q.r.toNat : Int)) := blk_cell kq 0
  have cq1 : w6.cell? ⟨B + 1, 1, none⟩ = some (.int .u8 (q.g.toNat : Int)) := blk_cell kq 1
  have cq2 : w6.cell? ⟨B + 1, 2, none⟩ = some (.int .u8 (q.b.toNat : Int)) := blk_cell kq 2
  have cq3 : w6.cell? ⟨B + 1, 3, none⟩ = some (.int .u8 (q.a.toNat : Int)) := blk_cell kq 3
  have hlF : bF < w6.heap.size := blk_lt kF
  have cF0 : w6.cell? ⟨bF, 0, none⟩ = some (.int .i64 0) := blk_cell kF 0
  have cF1 : w6.cell? ⟨bF, 1, none⟩ = some (.int .i64 0) := blk_cell kF 1
  have cF2 : w6.cell? ⟨bF, 2, none⟩ = some (.slice none 0 0) := blk_cell kF 2
  go_wp2_with fail
  clear cp0 cp1 cp2 cq0 cq1 cq2 cq3 cF0 cF1 cF2 hlp hlq hlF
  refine (unhide HN2 _).mono ?_
  rintro e w6 ⟨rfl, rfl⟩
  have hlp : B < w6.heap.size := blk_lt kp
  have cp0 : w6.cell? ⟨B, 0, none⟩ = some (.int .i64 W) := blk_cell kp 0
  have cp1 : w6.cell? ⟨B, 1, none⟩ = some (.int .i64 H) := blk_cell kp 1
  have cp2 : w6.cell? ⟨B, 2, none⟩ = some (.slice a n c) := blk_cell kp 2
  have hlq : B + 1 < w6.heap.size := blk_lt kq
  have cq0 : w6.cell? ⟨B + 1, 0, none⟩ = some (.int .u8 (q.r.toNat : Int)) := blk_cell kq 0
  have cq1 : w6.cell? ⟨B + 1, 1, none⟩ = some (.int .u8 (q.g.toNat : Int)) := blk_cell kq 1
  have cq2 : w6.cell? ⟨B + 1, 2, none⟩ = some (.int .u8 (q.b.toNat : Int)) := blk_cell kq 2
  have cq3 : w6.cell? ⟨B + 1, 3, none⟩ = some (.int .u8 (q.a.toNat : Int)) := blk_cell kq 3
  have hlF : bF < w6.heap.size := blk_lt kF
  have cF0 : w6.cell? ⟨bF, 0, none⟩ = some (.int .i64 0) := blk_cell kF 0
  have cF1 : w6.cell? ⟨bF, 1, none⟩ = some (.int .i64 0) := blk_cell kF 1
  have cF2 : w6.cell? ⟨bF, 2, none⟩ = some (.slice none 0 0) := blk_cell kF 2
  go_wp2_with fail
  clear cp0 cp1 cp2 cq0 cq1 cq2 cq3 cF0 cF1 cF2 hlp hlq hlF
  refine (unhide HRT _).mono ?_
  rintro e w7 ⟨rfl, hbN⟩
  have hsz := hbN.size
  have kp := blk_below kp hbN (blk_lt kp)
  have kq := blk_below kq hbN (blk_lt kq)
  have kF := blk_below kF hbN (blk_lt kF)
  have HXp := hide ((unhide HXp).below hbN)
  have HSe := hide ((unhide HSe).below hbN)
  have HB := hide ((unhide HB).trans (hbN.mono (by omega)))
  have hs : B + 2 ≤ w7.heap.size := by omega
  clear hbN hsz
  have hlp : B < w7.heap.size := blk_lt kp
  have cp0 : w7.cell? ⟨B, 0, none⟩ = some (.int .i64 W) := blk_cell kp 0
  have cp1 : w7.cell? ⟨B, 1, none⟩ = some (.int .i64 H) := blk_cell kp 1
  have cp2 : w7.cell? ⟨B, 2, none⟩ = some (.slice a n c) := blk_cell kp 2
  have hlq : B + 1 < w7.heap.size := blk_lt kq
  have cq0 : w7.cell? ⟨B + 1, 0, none⟩ = some (.int .u8 (q.r.toNat : Int)) := blk_cell kq 0
  have cq1 : w7.cell? ⟨B + 1, 1, none⟩ = some (.int .u8 (q.g.toNat : Int)) := blk_cell kq 1
  have cq2 : w7.cell? ⟨B + 1, 2, none⟩ = some (.int .u8 (q.b.toNat : Int)) := blk_cell kq 2
  have cq3 : w7.cell? ⟨B + 1, 3, none⟩ = some (.int .u8 (q.a.toNat : Int)) := blk_cell kq 3
  have hlF : bF < w7.heap.size := blk_lt kF
  have cF0 : w7.cell? ⟨bF, 0, none⟩ = some (.int .i64 0) := blk_cell kF 0
  have cF1 : w7.cell? ⟨bF, 1, none⟩ = some (.int .i64 0) := blk_cell kF 1
  have cF2 : w7.cell? ⟨bF, 2, none⟩ = some (.slice none 0 0) := blk_cell kF 2
  go_wp2_with fail
  clear cp0 cp1 cp2 cq0 cq1 cq2 cq3 cF0 cF1 cF2 hlp hlq hlF
  refine (unhide HTe w7 (unhide HSe)).mono ?_
  rintro e w8 ⟨rfl, hbN⟩
  have hsz := hbN.size
  have kp := blk_below kp hbN (blk_lt kp)
  have kq := blk_below kq hbN (blk_lt kq)
  have kF := blk_below kF hbN (blk_lt kF)
  have HXp := hide ((unhide HXp).below hbN)
  have HSe := hide ((unhide HSe).below hbN)
  have HB := hide ((unhide HB).trans (hbN.mono (by omega)))
  have hs : B + 2 ≤ w8.heap.size := by omega
  clear hbN hsz
  have hlp : B < w8.heap.size := blk_lt kp
  have cp0 : w8.cell? ⟨B, 0, none⟩ = some (.int .i64 W) := blk_cell kp 0
  have cp1 : w8.cell? ⟨B, 1, none⟩ = some (.int .i64 H) := blk_cell kp 1
  have cp2 : w8.cell? ⟨B, 2, none⟩ = some (.slice a n c) := blk_cell kp 2
  have hlq : B + 1 < w8.heap.size := blk_lt kq
  have cq0 : w8.cell? ⟨B + 1, 0, none⟩ = some (.int .u8 (q.r.toNat : Int)) := blk_cell kq 0
  have cq1 : w8.cell? ⟨B + 1, 1, none⟩ = some (.int .u8 (q.g.toNat : Int)) := blk_cell kq 1
  have cq2 : w8.cell? ⟨B + 1, 2, none⟩ = some (.int .u8 (q.b.toNat : Int)) := blk_cell kq 2
  have cq3 : w8.cell? ⟨B + 1, 3, none⟩ = some (.int .u8 (q.a.toNat : Int)) := blk_cell kq 3
  have hlF : bF < w8.heap.size := blk_lt kF
  have cF0 : w8.cell? ⟨bF, 0, none⟩ = some (.int .i64 0) := blk_cell kF 0
  have cF1 : w8.cell? ⟨bF, 1, none⟩ = some (.int .i64 0) := blk_cell kF 1
  have cF2 : w8.cell? ⟨bF, 2, none⟩ = some (.slice none 0 0) := blk_cell kF 2
  go_wp2
  clear cp0 cp1 cp2 cq0 cq1 cq2 cq3 cF0 cF1 cF2 hlp hlq hlF
  go_ret
  exact ⟨rfl, by rw [← unhide HBE]; exact unhide HB⟩
set_option maxHeartbeats 4000000 in
set_option maxRecDepth 100000 in
theorem rasterLines_shape3 (W H : Int) (a : Option Addr) (n c : Nat) (p : Nat → Px) (x0 y0 x1 y1 : Int) (q : Px) (w : World) (A : Nat → Addr) (hS : Sent w A) (hP : IsPx w a n p) (hn3 : n ≤ 3000) (hR : ¬ RightP W H n) (n1 : Nr x0) (n2 : Nr y0) (n3 : ¬ Nr x1) :
    Calls Tryd.prog 8 #[.agg #[.int .i64 W, .int .i64 H, .slice a n c], .int .i64 x0, .int .i64 y0, .int .i64 x1, .int .i64 y1, q.val] w fun e w' => e = .returned (.bool true) ∧ Below w.heap.size w w' := by
  have HPL := hide plainly_any
  have HSM := hide (fun w => small_any W H a n c w)
  rw [decide_eq_true hn3] at HSM
  have HX := hide hP
  have HS0 := hide hS
  have HRT := hide (fun w => pright_any W H a n c w)
  have HO := hide (fun w (h : IsPx w a n p) => own_isPx W H a n c p w h (by omega))
  have HN1 := hide (fun w => nearP_any x0 w)
  rw [decide_eq_true n1] at HN1
  have HN2 := hide (fun w => nearP_any y0 w)
  rw [decide_eq_true n2] at HN2
  have HN3 := hide (fun w => nearP_any x1 w)
  rw [decide_eq_false n3] at HN3
  rw [decide_eq_false hR] at HRT
  have HF := hide (fun w a c (h : Sent w A) => line_shape W H a n c x0 y0 x1 y1 q w _ _ (h.cell 2 (by omega)) hR)
  have HTe := hide (fun w (h : Sent w A) => told_err 2 3 W H a n c w A h (by omega) rfl)
  clear hn3 hP hS hR n1 n2 n3
  unfold Px.val at *
  have HA := hide (al2 w (.cells #[.int .i64 W, .int .i64 H, .slice a n c] 26) (.cells #[.int .u8 (q.r.toNat : Int), .int .u8 (q.g.toNat : Int), .int .u8 (q.b.toNat : Int), .int .u8 (q.a.toNat : Int)] 23))
  obtain ⟨B, hB⟩ : ∃ B, B = w.heap.size := ⟨_, rfl⟩
  go_enter Tryd.func8, Tryd.ntmps8
  go_wp2_with fail
  generalize ((w.alloc (.cells #[.int .i64 W, .int .i64 H, .slice a n c] 26)).alloc (.cells #[.int .u8 (q.r.toNat : Int), .int .u8 (q.g.toNat : Int), .int .u8 (q.b.toNat : Int), .int .u8 (q.a.toNat : Int)] 23)) = w1 at *
  rw [← hB] at HA ⊢
  obtain ⟨hs1, kp, kq, hb1⟩ := unhide HA
  have HBE := hide hB
  clear HA hB
  have hs : B + 2 ≤ w1.heap.size := by omega
  have HB := hide hb1
  clear hs1 hb1
  have HXp := hide ((unhide HX).under (unhide HB) (fun x hx h0 => by rw [unhide HBE]; exact (unhide HX).lt x hx h0))
  have HSe := hide ((unhide HS0).below (by rw [← unhide HBE]; exact unhide HB))
  clear HX HS0
  refine (unhide HPL _).mono ?_
  rintro e w2 ⟨rfl, hbN⟩
  have hsz := hbN.size
  have kp := blk_below kp hbN (blk_lt kp)
  have kq := blk_below kq hbN (blk_lt kq)
  have HXp := hide ((unhide HXp).below hbN)
  have HSe := hide ((unhide HSe).below hbN)
  have HB := hide ((unhide HB).trans (hbN.mono (by omega)))
  have hs : B + 2 ≤ w2.heap.size := by omega
  clear hbN hsz
  have hlp : B < w2.heap.size := blk_lt kp
  have cp0 : w2.cell? ⟨B, 0, none⟩ = some (.int .i64 W) := blk_cell kp 0
  have cp1 : w2.cell? ⟨B, 1, none⟩ = some (.int .i64 H) := blk_cell kp 1
  have cp2 : w2.cell? ⟨B, 2, none⟩ = some (.slice a n c) := blk_cell kp 2
  have hlq : B + 1 < w2.heap.size := blk_lt kq
  have cq0 : w2.cell? ⟨B + 1, 0, none⟩ = some (.int .u8 (q.r.toNat : Int)) := blk_cell kq 0
  have cq1 : w2.cell? ⟨B + 1, 1, none⟩ = some (.int .u8 (q.g.toNat : Int)) := blk_cell kq 1
  have cq2 : w2.cell? ⟨B + 1, 2, none⟩ = some (.int .u8 (q.b.toNat : Int)) := blk_cell kq 2
  have cq3 : w2.cell? ⟨B + 1, 3, none⟩ = some (.int .u8 (q.a.toNat : Int)) := blk_cell kq 3
  go_wp2_with fail
  clear cp0 cp1 cp2 cq0 cq1 cq2 cq3 hlp hlq
  refine (unhide HSM _).mono ?_
  rintro e w3 ⟨rfl, hbN⟩
  have hsz := hbN.size
  have kp := blk_below kp hbN (blk_lt kp)
  have kq := blk_below kq hbN (blk_lt kq)
  have HXp := hide ((unhide HXp).below hbN)
  have HSe := hide ((unhide HSe).below hbN)
  have HB := hide ((unhide HB).trans (hbN.mono (by omega)))
  have hs : B + 2 ≤ w3.heap.size := by omega
  clear hbN hsz
  have hlp : B < w3.heap.size := blk_lt kp
  have cp0 : w3.cell? ⟨B, 0, none⟩ = some (.int .i64 W) := blk_cell kp 0
  have cp1 : w3.cell? ⟨B, 1, none⟩ = some (.int .i64 H) := blk_cell kp 1
  have cp2 : w3.cell? ⟨B, 2, none⟩ = some (.slice a n c) := blk_cell kp 2
  have hlq : B + 1 < w3.heap.size := blk_lt kq
  have cq0 : w3.cell? ⟨B + 1, 0, none⟩ = some (.int .u8 (q.r.toNat : Int)) := blk_cell kq 0
  have cq1 : w3.cell? ⟨B + 1, 1, none⟩ = some (.int .u8 (q.g.toNat : Int)) := blk_cell kq 1
  have cq2 : w3.cell? ⟨B + 1, 2, none⟩ = some (.int .u8 (q.b.toNat : Int)) := blk_cell kq 2
  have cq3 : w3.cell? ⟨B + 1, 3, none⟩ = some (.int .u8 (q.a.toNat : Int)) := blk_cell kq 3
  go_wp2
  clear cp0 cp1 cp2 cq0 cq1 cq2 cq3 hlp hlq
  apply once1 (fun wf bf ao co => w3.heap.size ≤ bf ∧ wf.heap[bf]? = some (.cells #[.int .i64 0, .int .i64 0, .slice none 0 0] 26) ∧ Below w3.heap.size w3 wf)
  · intro hrest
    have hlp : B < w3.heap.size := blk_lt kp
    have cp0 : w3.cell? ⟨B, 0, none⟩ = some (.int .i64 W) := blk_cell kp 0
    have cp1 : w3.cell? ⟨B, 1, none⟩ = some (.int .i64 H) := blk_cell kp 1
    have cp2 : w3.cell? ⟨B, 2, none⟩ = some (.slice a n c) := blk_cell kp 2
    have hlq : B + 1 < w3.heap.size := blk_lt kq
    have cq0 : w3.cell? ⟨B + 1, 0, none⟩ = some (.int .u8 (q.r.toNat : Int)) := blk_cell kq 0
    have cq1 : w3.cell? ⟨B + 1, 1, none⟩ = some (.int .u8 (q.g.toNat : Int)) := blk_cell kq 1
    have cq2 : w3.cell? ⟨B + 1, 2, none⟩ = some (.int .u8 (q.b.toNat : Int)) := blk_cell kq 2
    have cq3 : w3.cell? ⟨B + 1, 3, none⟩ = some (.int .u8 (q.a.toNat : Int)) := blk_cell kq 3
    have hKS := hide (fun wx (h : Below w3.heap.size w3 wx) => (⟨bcell h hlp cp0, bcell h hlp cp1, bcell h hlp cp2, bcell h hlq cq0, bcell h hlq cq1, bcell h hlq cq2, bcell h hlq cq3⟩ : wx.cell? ⟨B, 0, none⟩ = some (.int .i64 W) ∧ wx.cell? ⟨B, 1, none⟩ = some (.int .i64 H) ∧ wx.cell? ⟨B, 2, none⟩ = some (.slice a n c) ∧ wx.cell? ⟨B + 1, 0, none⟩ = some (.int .u8 (q.r.toNat : Int)) ∧ wx.cell? ⟨B + 1, 1, none⟩ = some (.int .u8 (q.g.toNat : Int)) ∧ wx.cell? ⟨B + 1, 2, none⟩ = some (.int .u8 (q.b.toNat : Int)) ∧ wx.cell? ⟨B + 1, 3, none⟩ = some (.int .u8 (q.a.toNat : Int))))
    have hdr := (Below.refl w3.heap.size w3).drew
    go_region_held (fun w' => w'.cell? ⟨B, 0, none⟩ = some (.int .i64 W) ∧ w'.cell? ⟨B, 1, none⟩ = some (.int .i64 H) ∧ w'.cell? ⟨B, 2, none⟩ = some (.slice a n c) ∧ w'.cell? ⟨B + 1, 0, none⟩ = some (.int .u8 (q.r.toNat : Int)) ∧ w'.cell? ⟨B + 1, 1, none⟩ = some (.int .u8 (q.g.toNat : Int)) ∧ w'.cell? ⟨B + 1, 2, none⟩ = some (.int .u8 (q.b.toNat : Int)) ∧ w'.cell? ⟨B + 1, 3, none⟩ = some (.int .u8 (q.a.toNat : Int))) (exact unhide hKS _ (by (first | with_reducible exact hqw5 | with_reducible exact hqw4 | with_reducible exact hdr | with_reducible exact hqw5.alloc hqw5.size _ | with_reducible exact hqw4.alloc hqw4.size _ | with_reducible exact ((Below.refl _ _).alloc (Nat.le_refl _) _).drew | with_reducible exact set3_below hqw5 (Nat.le_refl _) _ _ _ | with_reducible exact set3_below hqw5 hqw4.size _ _ _ | with_reducible exact set3_below (hqw5.alloc hqw5.size _) hqw5.size _ _ _ | exact hqw5.alloc hqw5.size _))) (first | (go_at_call 16; refine (unhide HO _ ((unhide HXp).below (by (first | with_reducible exact hqw5 | with_reducible exact hqw4 | with_reducible exact hdr | with_reducible exact hqw5.alloc hqw5.size _ | with_reducible exact hqw4.alloc hqw4.size _ | with_reducible exact ((Below.refl _ _).alloc (Nat.le_refl _) _).drew | with_reducible exact set3_below hqw5 (Nat.le_refl _) _ _ _ | with_reducible exact set3_below hqw5 hqw4.size _ _ _ | with_reducible exact set3_below (hqw5.alloc hqw5.size _) hqw5.size _ _ _ | exact hqw5.alloc hqw5.size _)))).mono ?_; rintro e w4 ⟨ao, co, rfl, hpo, hbw4⟩; have hqw4 := bel_trans (w := w3) (by (first | with_reducible exact hqw5 | with_reducible exact hqw4 | with_reducible exact hdr | with_reducible exact hqw5.alloc hqw5.size _ | with_reducible exact hqw4.alloc hqw4.size _ | with_reducible exact ((Below.refl _ _).alloc (Nat.le_refl _) _).drew | with_reducible exact set3_below hqw5 (Nat.le_refl _) _ _ _ | with_reducible exact set3_below hqw5 hqw4.size _ _ _ | with_reducible exact set3_below (hqw5.alloc hqw5.size _) hqw5.size _ _ _ | exact hqw5.alloc hqw5.size _)) hbw4; (try (have kzw4 : w4.heap[w3.heap.size]? = some (.cells #[.int .i64 0, .int .i64 0, .slice none 0 0] 26) := blk_below (show ((w3.alloc (.cells #[.int .i64 0, .int .i64 0, .slice none 0 0] 26)).drew).heap[w3.heap.size]? = some (.cells #[.int .i64 0, .int .i64 0, .slice none 0 0] 26) from heap_alloc_new w3 _) hbw4 (by show _ < (w3.alloc _).heap.size; simp))); (try (have zw40 : w4.cell? ⟨_, 0, none⟩ = some (.int .i64 0) := blk_cell kzw4 0)); (try (have zfw40 := blk_frozen kzw4 0)); (try (have zw41 : w4.cell? ⟨_, 1, none⟩ = some (.int .i64 0) := blk_cell kzw4 1)); (try (have zfw41 := blk_frozen kzw4 1)); (try (have zw42 : w4.cell? ⟨_, 2, none⟩ = some (.slice none 0 0) := blk_cell kzw4 2)); (try (have zfw42 := blk_frozen kzw4 2))) | (go_at_call 38; refine (unhide HF _ _ _ ((unhide HSe).below (by (first | with_reducible exact hqw5 | with_reducible exact hqw4 | with_reducible exact hdr | with_reducible exact hqw5.alloc hqw5.size _ | with_reducible exact hqw4.alloc hqw4.size _ | with_reducible exact ((Below.refl _ _).alloc (Nat.le_refl _) _).drew | with_reducible exact set3_below hqw5 (Nat.le_refl _) _ _ _ | with_reducible exact set3_below hqw5 hqw4.size _ _ _ | with_reducible exact set3_below (hqw5.alloc hqw5.size _) hqw5.size _ _ _ | exact hqw5.alloc hqw5.size _)))).mono ?_; rintro e w5 ⟨rfl, hbw5⟩; have hqw5 := bel_trans (w := w3) (by (first | with_reducible exact hqw5 | with_reducible exact hqw4 | with_reducible exact hdr | with_reducible exact hqw5.alloc hqw5.size _ | with_reducible exact hqw4.alloc hqw4.size _ | with_reducible exact ((Below.refl _ _).alloc (Nat.le_refl _) _).drew | with_reducible exact set3_below hqw5 (Nat.le_refl _) _ _ _ | with_reducible exact set3_below hqw5 hqw4.size _ _ _ | with_reducible exact set3_below (hqw5.alloc hqw5.size _) hqw5.size _ _ _ | exact hqw5.alloc hqw5.size _)) hbw5; (try (have kzw5 := blk_below kzw4 hbw5 (blk_lt kzw4))); (try (have kzw5 : w5.heap[w4.heap.size]? = some (.cells #[.int .i64 0, .int .i64 0, .slice none 0 0] 26) := blk_below (heap_alloc_new w4 _) hbw5 (by simp))); (try (have zw50 : w5.cell? ⟨_, 0, none⟩ = some (.int .i64 0) := blk_cell kzw5 0)); (try (have zfw50 := blk_frozen kzw5 0)); (try (have zw51 : w5.cell? ⟨_, 1, none⟩ = some (.int .i64 0) := blk_cell kzw5 1)); (try (have zfw51 := blk_frozen kzw5 1)); (try (have zw52 : w5.cell? ⟨_, 2, none⟩ = some (.slice none 0 0) := blk_cell kzw5 2)); (try (have zfw52 := blk_frozen kzw5 2))))
    all_goals
      first
      | (have hfin := fin3 (w := w3) kzw5 hqw5 (Nat.le_refl _) (.int .i64 0) (.int .i64 0) (.slice none 0 0); have hA := hfin.blk; have hB := hfin.below; clear hfin; generalize ((w5.setCell ⟨w3.heap.size, 0, none⟩ (.int .i64 0)).setCell ⟨w3.heap.size, 1, none⟩ (.int .i64 0)).setCell ⟨w3.heap.size, 2, none⟩ (.slice none 0 0) = wf at *; obtain ⟨bf, hbf⟩ : ∃ b, b = w3.heap.size := ⟨_, rfl⟩; have hge : w3.heap.size ≤ bf := Nat.le_trans (Nat.le_refl _) (Nat.le_of_eq hbf.symm); rw [← hbf] at hA ⊢; exact hrest wf bf ao co ⟨hge, hA, hB⟩)
      | (have hfin := fin3 (w := w3) kzw5 hqw5 (hqw4.size) (.int .i64 0) (.int .i64 0) (.slice none 0 0); have hA := hfin.blk; have hB := hfin.below; clear hfin; generalize ((w5.setCell ⟨w4.heap.size, 0, none⟩ (.int .i64 0)).setCell ⟨w4.heap.size, 1, none⟩ (.int .i64 0)).setCell ⟨w4.heap.size, 2, none⟩ (.slice none 0 0) = wf at *; obtain ⟨bf, hbf⟩ : ∃ b, b = w4.heap.size := ⟨_, rfl⟩; have hge : w3.heap.size ≤ bf := Nat.le_trans (hqw4.size) (Nat.le_of_eq hbf.symm); rw [← hbf] at hA ⊢; exact hrest wf bf ao co ⟨hge, hA, hB⟩)
      | (have hA := heap_alloc_new w5 (.cells #[.int .i64 0, .int .i64 0, .slice none 0 0] 26); have hB := hqw5.alloc hqw5.size (.cells #[.int .i64 0, .int .i64 0, .slice none 0 0] 26); generalize w5.alloc (.cells #[.int .i64 0, .int .i64 0, .slice none 0 0] 26) = wf at *; obtain ⟨bf, hbf⟩ : ∃ b, b = w5.heap.size := ⟨_, rfl⟩; have hge : w3.heap.size ≤ bf := Nat.le_trans hqw5.size (Nat.le_of_eq hbf.symm); rw [← hbf] at hA ⊢; exact hrest wf bf ao co ⟨hge, hA, hB⟩)
  rintro w6 bF ao co ⟨hge, kF, hbN⟩
  have ltFp : B < bF := Nat.lt_of_lt_of_le (blk_lt kp) hge
  have ltFq : B + 1 < bF := Nat.lt_of_lt_of_le (blk_lt kq) hge
  clear hge
  have hsz := hbN.size
  have kp := blk_below kp hbN (blk_lt kp)
  have kq := blk_below kq hbN (blk_lt kq)
  have HXp := hide ((unhide HXp).below hbN)
  have HSe := hide ((unhide HSe).below hbN)
  have HB := hide ((unhide HB).trans (hbN.mono (by omega)))
  have hs : B + 2 ≤ w6.heap.size := by omega
  clear hbN hsz
  have hlp : B < w6.heap.size := blk_lt kp
  have cp0 : w6.cell? ⟨B, 0, none⟩ = some (.int .i64 W) := blk_cell kp 0
  have cp1 : w6.cell? ⟨B, 1, none⟩ = some (.int .i64 H) := blk_cell kp 1
  have cp2 : w6.cell? ⟨B, 2, none⟩ = some (.slice a n c) := blk_cell kp 2
  have hlq : B + 1 < w6.heap.size := blk_lt kq
  have cq0 : w6.cell? ⟨B + 1, 0, none⟩ = some (.int .u8 (q.r.toNat : Int)) := blk_cell kq 0
  have cq1 : w6.cell? ⟨B + 1, 1, none⟩ = some (.int .u8 (q.g.toNat : Int)) := blk_cell kq 1
  have cq2 : w6.cell? ⟨B + 1, 2, none⟩ = some (.int .u8 (q.b.toNat : Int)) := blk_cell kq 2
  have cq3 : w6.cell? ⟨B + 1, 3, none⟩ = some (.int .u8 (q.a.toNat : Int)) := blk_cell kq 3
  have hlF : bF < w6.heap.size := blk_lt kF
  have cF0 : w6.cell? ⟨bF, 0, none⟩ = some (.int .i64 0) := blk_cell kF 0
  have cF1 : w6.cell? ⟨bF, 1, none⟩ = some (.int .i64 0) := blk_cell kF 1
  have cF2 : w6.cell? ⟨bF, 2, none⟩ = some (.slice none 0 0) := blk_cell kF 2
  go_wp2_with fail
  clear cp0 cp1 cp2 cq0 cq1 cq2 cq3 cF0 cF1 cF2 hlp hlq hlF
  refine (unhide HN1 _).mono ?_
  rintro e w6 ⟨rfl, rfl⟩
  have hlp : B < w6.heap.size := blk_lt kp
  have cp0 : w6.cell? ⟨B, 0, none⟩ = some (.int .i64 W) := blk_cell kp 0
  have cp1 : w6.cell? ⟨B, 1, none⟩ = some (.int .i64 H) := blk_cell kp 1
  have cp2 : w6.cell? ⟨B, 2, none⟩ = some (.slice a n c) := blk_cell kp 2
  have hlq : B + 1 < w6.heap.size := blk_lt kq
  have cq0 : w6.cell? ⟨B + 1, 0, none⟩ = some (.int .u8 (q.r.toNat : Int)) := blk_cell kq 0
  have cq1 : w6.cell? ⟨B + 1, 1, none⟩ = some (.int .u8 (q.g.toNat : Int)) := blk_cell kq 1
  have cq2 : w6.cell? ⟨B + 1, 2, none⟩ = some (.int .u8 (q.b.toNat : Int)) := blk_cell kq 2
  have cq3 : w6.cell? ⟨B + 1, 3, none⟩ = some (.int .u8 (q.a.toNat : Int)) := blk_cell kq 3
  have hlF : bF < w6.heap.size := blk_lt kF
  have cF0 : w6.cell? ⟨bF, 0, none⟩ = some (.int .i64 0) := blk_cell kF 0
  have cF1 : w6.cell? ⟨bF, 1, none⟩ = some (.int .i64 0) := blk_cell kF 1
  have cF2 : w6.cell? ⟨bF, 2, none⟩ = some (.slice none 0 0) := blk_cell kF 2
  go_wp2_with fail
  clear cp0 cp1 cp2 cq0 cq1 cq2 cq3 cF0 cF1 cF2 hlp hlq hlF
  refine (unhide HN2 _).mono ?_
  rintro e w6 ⟨rfl, rfl⟩
  have hlp : B < w6.heap.size := blk_lt kp
  have cp0 : w6.cell? ⟨B, 0, none⟩ = some (.int .i64 W) := blk_cell kp 0
  have cp1 : w6.cell? ⟨B, 1, none⟩ = some (.int .i64 H) := blk_cell kp 1
  have cp2 : w6.cell? ⟨B, 2, none⟩ = some (.slice a n c) := blk_cell kp 2
  have hlq : B + 1 < w6.heap.size := blk_lt kq
  have cq0 : w6.cell? ⟨B + 1, 0, none⟩ = some (.int .u8 (q.r.toNat : Int)) := blk_cell kq 0
  have cq1 : w6.cell? ⟨B + 1, 1, none⟩ = some (.int .u8 (q.g.toNat : Int)) := blk_cell kq 1
  have cq2 : w6.cell? ⟨B + 1, 2, none⟩ = some (.int .u8 (q.b.toNat : Int)) := blk_cell kq 2
  have cq3 : w6.cell? ⟨B + 1, 3, none⟩ = some (.int .u8 (q.a.toNat : Int)) := blk_cell kq 3
  have hlF : bF < w6.heap.size := blk_lt kF
  have cF0 : w6.cell? ⟨bF, 0, none⟩ = some (.int .i64 0) := blk_cell kF 0
  have cF1 : w6.cell? ⟨bF, 1, none⟩ = some (.int .i64 0) := blk_cell kF 1
  have cF2 : w6.cell? ⟨bF, 2, none⟩ = some (.slice none 0 0) := blk_cell kF 2
  go_wp2_with fail
  clear cp0 cp1 cp2 cq0 cq1 cq2 cq3 cF0 cF1 cF2 hlp hlq hlF
  refine (unhide HN3 _).mono ?_
  rintro e w6 ⟨rfl, rfl⟩
  have hlp : B < w6.heap.size := blk_lt kp
  have cp0 : w6.cell? ⟨B, 0, none⟩ = some (.int .i64 W) := blk_cell kp 0
  have cp1 : w6.cell? ⟨B, 1, none⟩ = some (.int .i64 H) := blk_cell kp 1
  have cp2 : w6.cell? ⟨B, 2, none⟩ = some (.slice a n c) := blk_cell kp 2
  have hlq : B + 1 < w6.heap.size := blk_lt kq
  have cq0 : w6.cell? ⟨B + 1, 0, none⟩ = some (.int .u8 (q.r.toNat : Int)) := blk_cell kq 0
  have cq1 : w6.cell? ⟨B + 1, 1, none⟩ = some (.int .u8 (q.g.toNat : Int)) := blk_cell kq 1
  have cq2 : w6.cell? ⟨B + 1, 2, none⟩ = some (.int .u8 (q.b.toNat : Int)) := blk_cell kq 2
  have cq3 : w6.cell? ⟨B + 1, 3, none⟩ = some (.int .u8 (q.a.toNat : Int)) := blk_cell kq 3
  have hlF : bF < w6.heap.size := blk_lt kF
  have cF0 : w6.cell? ⟨bF, 0, none⟩ = some (.int .i64 0) := blk_cell kF 0
  have cF1 : w6.cell? ⟨bF, 1, none⟩ = some (.int .i64 0) := blk_cell kF 1
  have cF2 : w6.cell? ⟨bF, 2, none⟩ = some (.slice none 0 0) := blk_cell kF 2
  go_wp2_with fail
  clear cp0 cp1 cp2 cq0 cq1 cq2 cq3 cF0 cF1 cF2 hlp hlq hlF
  refine (unhide HRT _).mono ?_
  rintro e w7 ⟨rfl, hbN⟩
  have hsz := hbN.size
  have kp := blk_below kp hbN (blk_lt kp)
  have kq := blk_below kq hbN (blk_lt kq)
  have kF := blk_below kF hbN (blk_lt kF)
  have HXp := hide ((unhide HXp).below hbN)
  have HSe := hide ((unhide HSe).below hbN)
  have HB := hide ((unhide HB).trans (hbN.mono (by omega)))
  have hs : B + 2 ≤ w7.heap.size := by omega
  clear hbN hsz
  have hlp : B < w7.heap.size := blk_lt kp
  have cp0 : w7.cell? ⟨B, 0, none⟩ = some (.int .i64 W) := blk_cell kp 0
  have cp1 : w7.cell? ⟨B, 1, none⟩ = some (.int .i64 H) := blk_cell kp 1
  have cp2 : w7.cell? ⟨B, 2, none⟩ = some (.slice a n c) := blk_cell kp 2
  have hlq : B + 1 < w7.heap.size := blk_lt kq
  have cq0 : w7.cell? ⟨B + 1, 0, none⟩ = some (.int .u8 (q.r.toNat : Int)) := blk_cell kq 0
  have cq1 : w7.cell? ⟨B + 1, 1, none⟩ = some (.int .u8 (q.g.toNat : Int)) := blk_cell kq 1
  have cq2 : w7.cell? ⟨B + 1, 2, none⟩ = some (.int .u8 (q.b.toNat : Int)) := blk_cell kq 2
  have cq3 : w7.cell? ⟨B + 1, 3, none⟩ = some (.int .u8 (q.a.toNat : Int)) := blk_cell kq 3
  have hlF : bF < w7.heap.size := blk_lt kF
  have cF0 : w7.cell? ⟨bF, 0, none⟩ = some (.int .i64 0) := blk_cell kF 0
  have cF1 : w7.cell? ⟨bF, 1, none⟩ = some (.int .i64 0) := blk_cell kF 1
  have cF2 : w7.cell? ⟨bF, 2, none⟩ = some (.slice none 0 0) := blk_cell kF 2
  go_wp2_with fail
  clear cp0 cp1 cp2 cq0 cq1 cq2 cq3 cF0 cF1 cF2 hlp hlq hlF
  refine (unhide HTe w7 (unhide HSe)).mono ?_
  rintro e w8 ⟨rfl, hbN⟩
  have hsz := hbN.size
  have kp := blk_below kp hbN (blk_lt kp)
  have kq := blk_below kq hbN (blk_lt kq)
  have kF := blk_below kF hbN (blk_lt kF)
  have HXp := hide ((unhide HXp).below hbN)
  have HSe := hide ((unhide HSe).below hbN)
  have HB := hide ((unhide HB).trans (hbN.mono (by omega)))
  have hs : B + 2 ≤ w8.heap.size := by omega
  clear hbN hsz
  have hlp : B < w8.heap.size := blk_lt kp
  have cp0 : w8.cell? ⟨B, 0, none⟩ = some (.int .i64 W) := blk_cell kp 0
  have cp1 : w8.cell? ⟨B, 1, none⟩ = some (.int .i64 H) := blk_cell kp 1
  have cp2 : w8.cell? ⟨B, 2, none⟩ = some (.slice a n c) := blk_cell kp 2
  have hlq : B + 1 < w8.heap.size := blk_lt kq
  have cq0 : w8.cell? ⟨B + 1, 0, none⟩ = some (.int .u8 (q.r.toNat : Int)) := blk_cell kq 0
  have cq1 : w8.cell? ⟨B + 1, 1, none⟩ = some (.int .u8 (q.g.toNat : Int)) := blk_cell kq 1
  have cq2 : w8.cell? ⟨B + 1, 2, none⟩ = some (.int .u8 (q.b.toNat : Int)) := blk_cell kq 2
  have cq3 : w8.cell? ⟨B + 1, 3, none⟩ = some (.int .u8 (q.a.toNat : Int)) := blk_cell kq 3
  have hlF : bF < w8.heap.size := blk_lt kF
  have cF0 : w8.cell? ⟨bF, 0, none⟩ = some (.int .i64 0) := blk_cell kF 0
  have cF1 : w8.cell? ⟨bF, 1, none⟩ = some (.int .i64 0) := blk_cell kF 1
  have cF2 : w8.cell? ⟨bF, 2, none⟩ = some (.slice none 0 0) := blk_cell kF 2
  go_wp2
  clear cp0 cp1 cp2 cq0 cq1 cq2 cq3 cF0 cF1 cF2 hlp hlq hlF
  go_ret
  exact ⟨rfl, by rw [← unhide HBE]; exact unhide HB⟩
set_option maxHeartbeats 4000000 in
set_option maxRecDepth 100000 in
theorem rasterLines_shape4 (W H : Int) (a : Option Addr) (n c : Nat) (p : Nat → Px) (x0 y0 x1 y1 : Int) (q : Px) (w : World) (A : Nat → Addr) (hS : Sent w A) (hP : IsPx w a n p) (hn3 : n ≤ 3000) (hR : ¬ RightP W H n) (n1 : Nr x0) (n2 : Nr y0) (n3 : Nr x1) (n4 : ¬ Nr y1) :
    Calls Tryd.prog 8 #[.agg #[.int .i64 W, .int .i64 H, .slice a n c], .int .i64 x0, .int .i64 y0, .int .i64 x1, .int .i64 y1, q.val] w fun e w' => e = .returned (.bool true) ∧ Below w.heap.size w w' := by
  have HPL := hide plainly_any
  have HSM := hide (fun w => small_any W H a n c w)
  rw [decide_eq_true hn3] at HSM
  have HX := hide hP
  have HS0 := hide hS
  have HRT := hide (fun w => pright_any W H a n c w)
  have HO := hide (fun w (h : IsPx w a n p) => own_isPx W H a n c p w h (by omega))
  have HN1 := hide (fun w => nearP_any x0 w)
  rw [decide_eq_true n1] at HN1
  have HN2 := hide (fun w => nearP_any y0 w)
  rw [decide_eq_true n2] at HN2
  have HN3 := hide (fun w => nearP_any x1 w)
  rw [decide_eq_true n3] at HN3
  have HN4 := hide (fun w => nearP_any y1 w)
  rw [decide_eq_false n4] at HN4
  rw [decide_eq_false hR] at HRT
  have HF := hide (fun w a c (h : Sent w A) => line_shape W H a n c x0 y0 x1 y1 q w _ _ (h.cell 2 (by omega)) hR)
  have HTe := hide (fun w (h : Sent w A) => told_err 2 3 W H a n c w A h (by omega) rfl)
  clear hn3 hP hS hR n1 n2 n3 n4
  unfold Px.val at *
  have HA := hide (al2 w (.cells #[.int .i64 W, .int .i64 H, .slice a n c] 26) (.cells #[.int .u8 (q.r.toNat : Int), .int .u8 (q.g.toNat : Int), .int .u8 (q.b.toNat : Int), .int .u8 (q.a.toNat : Int)] 23))
  obtain ⟨B, hB⟩ : ∃ B, B = w.heap.size := ⟨_, rfl⟩
  go_enter Tryd.func8, Tryd.ntmps8
  go_wp2_with fail
  generalize ((w.alloc (.cells #[.int .i64 W, .int .i64 H, .slice a n c] 26)).alloc (.cells #[.int .u8 (q.r.toNat : Int), .int .u8 (q.g.toNat : Int), .int .u8 (q.b.toNat : Int), .int .u8 (q.a.toNat : Int)] 23)) = w1 at *
  rw [← hB] at HA ⊢
  obtain ⟨hs1, kp, kq, hb1⟩ := unhide HA
  have HBE := hide hB
  clear HA hB
  have hs : B + 2 ≤ w1.heap.size := by omega
  have HB := hide hb1
  clear hs1 hb1
  have HXp := hide ((unhide HX).under (unhide HB) (fun x hx h0 => by rw [unhide HBE]; exact (unhide HX).lt x hx h0))
  have HSe := hide ((unhide HS0).below (by rw [← unhide HBE]; exact unhide HB))
  clear HX HS0
  refine (unhide HPL _).mono ?_
  rintro e w2 ⟨rfl, hbN⟩
  have hsz := hbN.size
  have kp := blk_below kp hbN (blk_lt kp)
  have kq := blk_below kq hbN (blk_lt kq)
  have HXp := hide ((unhide HXp).below hbN)
  have HSe := hide ((unhide HSe).below hbN)
  have HB := hide ((unhide HB).trans (hbN.mono (by omega)))
  have hs : B + 2 ≤ w2.heap.size := by omega
  clear hbN hsz
  have hlp : B < w2.heap.size := blk_lt kp
  have cp0 : w2.cell? ⟨B, 0, none⟩ = some (.int .i64 W) := blk_cell kp 0
  have cp1 : w2.cell? ⟨B, 1, none⟩ = some (.int .i64 H) := blk_cell kp 1
  have cp2 : w2.cell? ⟨B, 2, none⟩ = some (.slice a n c) := blk_cell kp 2
  have hlq : B + 1 < w2.heap.size := blk_lt kq
  have cq0 : w2.cell? ⟨B + 1, 0, none⟩ = some (.int .u8 (q.r.toNat : Int)) := blk_cell kq 0
  have cq1 : w2.cell? ⟨B + 1, 1, none⟩ = some (.int .u8 (q.g.toNat : Int)) := blk_cell kq 1
  have cq2 : w2.cell? ⟨B + 1, 2, none⟩ = some (.int .u8 (q.b.toNat : Int)) := blk_cell kq 2
  have cq3 : w2.cell? ⟨B + 1, 3, none⟩ = some (.int .u8 (q.a.toNat : Int)) := blk_cell kq 3
  go_wp2_with fail
  clear cp0 cp1 cp2 cq0 cq1 cq2 cq3 hlp hlq
  refine (unhide HSM _).mono ?_
  rintro e w3 ⟨rfl, hbN⟩
  have hsz := hbN.size
  have kp := blk_below kp hbN (blk_lt kp)
  have kq := blk_below kq hbN (blk_lt kq)
  have HXp := hide ((unhide HXp).below hbN)
  have HSe := hide ((unhide HSe).below hbN)
  have HB := hide ((unhide HB).trans (hbN.mono (by omega)))
  have hs : B + 2 ≤ w3.heap.size := by omega
  clear hbN hsz
  have hlp : B < w3.heap.size := blk_lt kp
  have cp0 : w3.cell? ⟨B, 0, none⟩ = some (.int .i64 W) := blk_cell kp 0
  have cp1 : w3.cell? ⟨B, 1, none⟩ = some (.int .i64 H) := blk_cell kp 1
  have cp2 : w3.cell? ⟨B, 2, none⟩ = some (.slice a n c) := blk_cell kp 2
  have hlq : B + 1 < w3.heap.size := blk_lt kq
  have cq0 : w3.cell? ⟨B + 1, 0, none⟩ = some (.int .u8 (q.r.toNat : Int)) := blk_cell kq 0
  have cq1 : w3.cell? ⟨B + 1, 1, none⟩ = some (.int .u8 (q.g.toNat : Int)) := blk_cell kq 1
  have cq2 : w3.cell? ⟨B + 1, 2, none⟩ = some (.int .u8 (q.b.toNat : Int)) := blk_cell kq 2
  have cq3 : w3.cell? ⟨B + 1, 3, none⟩ = some (.int .u8 (q.a.toNat : Int)) := blk_cell kq 3
  go_wp2
  clear cp0 cp1 cp2 cq0 cq1 cq2 cq3 hlp hlq
  apply once1 (fun wf bf ao co => w3.heap.size ≤ bf ∧ wf.heap[bf]? = some (.cells #[.int .i64 0, .int .i64 0, .slice none 0 0] 26) ∧ Below w3.heap.size w3 wf)
  · intro hrest
    have hlp : B < w3.heap.size := blk_lt kp
    have cp0 : w3.cell? ⟨B, 0, none⟩ = some (.int .i64 W) := blk_cell kp 0
    have cp1 : w3.cell? ⟨B, 1, none⟩ = some (.int .i64 H) := blk_cell kp 1
    have cp2 : w3.cell? ⟨B, 2, none⟩ = some (.slice a n c) := blk_cell kp 2
    have hlq : B + 1 < w3.heap.size := blk_lt kq
    have cq0 : w3.cell? ⟨B + 1, 0, none⟩ = some (.int .u8 (q.r.toNat : Int)) := blk_cell kq 0
    have cq1 : w3.cell? ⟨B + 1, 1, none⟩ = some (.int .u8 (q.g.toNat : Int)) := blk_cell kq 1
    have cq2 : w3.cell? ⟨B + 1, 2, none⟩ = some (.int .u8 (q.b.toNat : Int)) := blk_cell kq 2
    have cq3 : w3.cell? ⟨B + 1, 3, none⟩ = some (.int .u8 (q.a.toNat : Int)) := blk_cell kq 3
    have hKS := hide (fun wx (h : Below w3.heap.size w3 wx) => (⟨bcell h hlp cp0, bcell h hlp cp1, bcell h hlp cp2, bcell h hlq cq0, bcell h hlq cq1, bcell h hlq cq2, bcell h hlq cq3⟩ : wx.cell? ⟨B, 0, none⟩ = some (.int .i64 W) ∧ wx.cell? ⟨B, 1, none⟩ = some (.int .i64 H) ∧ wx.cell? ⟨B, 2, none⟩ = some (.slice a n c) ∧ wx.cell? ⟨B + 1, 0, none⟩ = some (.int .u8 (q.r.toNat : Int)) ∧ wx.cell? ⟨B + 1, 1, none⟩ = some (.int .u8 (q.g.toNat : Int)) ∧ wx.cell? ⟨B + 1, 2, none⟩ = some (.int .u8 (q.b.toNat : Int)) ∧ wx.cell? ⟨B + 1, 3, none⟩ = some (.int .u8 (q.a.toNat : Int))))
    have hdr := (Below.refl w3.heap.size w3).drew
    go_region_held (fun w' => w'.cell? ⟨B, 0, none⟩ = some (.int .i64 W) ∧ w'.cell? ⟨B, 1, none⟩ = some (.int .i64 H) ∧ w'.cell? ⟨B, 2, none⟩ = some (.slice a n c) ∧ w'.cell? ⟨B + 1, 0, none⟩ = some (.int .u8 (q.r.toNat : Int)) ∧ w'.cell? ⟨B + 1, 1, none⟩ = some (.int .u8 (q.g.toNat : Int)) ∧ w'.cell? ⟨B + 1, 2, none⟩ = some (.int .u8 (q.b.toNat : Int)) ∧ w'.cell? ⟨B + 1, 3, none⟩ = some (.int .u8 (q.a.toNat : Int))) (exact unhide hKS _ (by (first | with_reducible exact hqw5 | with_reducible exact hqw4 | with_reducible exact hdr | with_reducible exact hqw5.alloc hqw5.size _ | with_reducible exact hqw4.alloc hqw4.size _ | with_reducible exact ((Below.refl _ _).alloc (Nat.le_refl _) _).drew | with_reducible exact set3_below hqw5 (Nat.le_refl _) _ _ _ | with_reducible exact set3_below hqw5 hqw4.size _ _ _ | with_reducible exact set3_below (hqw5.alloc hqw5.size _) hqw5.size _ _ _ | exact hqw5.alloc hqw5.size _))) (first | (go_at_call 16; refine (unhide HO _ ((unhide HXp).below (by (first | with_reducible exact hqw5 | with_reducible exact hqw4 | with_reducible exact hdr | with_reducible exact hqw5.alloc hqw5.size _ | with_reducible exact hqw4.alloc hqw4.size _ | with_reducible exact ((Below.refl _ _).alloc (Nat.le_refl _) _).drew | with_reducible exact set3_below hqw5 (Nat.le_refl _) _ _ _ | with_reducible exact set3_below hqw5 hqw4.size _ _ _ | with_reducible exact set3_below (hqw5.alloc hqw5.size _) hqw5.size _ _ _ | exact hqw5.alloc hqw5.size _)))).mono ?_; rintro e w4 ⟨ao, co, rfl, hpo, hbw4⟩; have hqw4 := bel_trans (w := w3) (by (first | with_reducible exact hqw5 | with_reducible exact hqw4 | with_reducible exact hdr | with_reducible exact hqw5.alloc hqw5.size _ | with_reducible exact hqw4.alloc hqw4.size _ | with_reducible exact ((Below.refl _ _).alloc (Nat.le_refl _) _).drew | with_reducible exact set3_below hqw5 (Nat.le_refl _) _ _ _ | with_reducible exact set3_below hqw5 hqw4.size _ _ _ | with_reducible exact set3_below (hqw5.alloc hqw5.size _) hqw5.size _ _ _ | exact hqw5.alloc hqw5.size _)) hbw4; (try (have kzw4 : w4.heap[w3.heap.size]? = some (.cells #[.int .i64 0, .int .i64 0, .slice none 0 0] 26) := blk_below (show ((w3.alloc (.cells #[.int .i64 0, .int .i64 0, .slice none 0 0] 26)).drew).heap[w3.heap.size]? = some (.cells #[.int .i64 0, .int .i64 0, .slice none 0 0] 26) from heap_alloc_new w3 _) hbw4 (by show _ < (w3.alloc _).heap.size; simp))); (try (have zw40 : w4.cell? ⟨_, 0, none⟩ = some (.int .i64 0) := blk_cell kzw4 0)); (try (have zfw40 := blk_frozen kzw4 0)); (try (have zw41 : w4.cell? ⟨_, 1, none⟩ = some (.int .i64 0) := blk_cell kzw4 1)); (try (have zfw41 := blk_frozen kzw4 1)); (try (have zw42 : w4.cell? ⟨_, 2, none⟩ = some (.slice none 0 0) := blk_cell kzw4 2)); (try (have zfw42 := blk_frozen kzw4 2))) | (go_at_call 38; refine (unhide HF _ _ _ ((unhide HSe).below (by (first | with_reducible exact hqw5 | with_reducible exact hqw4 | with_reducible exact hdr | with_reducible exact hqw5.alloc hqw5.size _ | with_reducible exact hqw4.alloc hqw4.size _ | with_reducible exact ((Below.refl _ _).alloc (Nat.le_refl _) _).drew | with_reducible exact set3_below hqw5 (Nat.le_refl _) _ _ _ | with_reducible exact set3_below hqw5 hqw4.size _ _ _ | with_reducible exact set3_below (hqw5.alloc hqw5.size _) hqw5.size _ _ _ | exact hqw5.alloc hqw5.size _)))).mono ?_; rintro e w5 ⟨rfl, hbw5⟩; have hqw5 := bel_trans (w := w3) (by (first | with_reducible exact hqw5 | with_reducible exact hqw4 | with_reducible exact hdr | with_reducible exact hqw5.alloc hqw5.size _ | with_reducible exact hqw4.alloc hqw4.size _ | with_reducible exact ((Below.refl _ _).alloc (Nat.le_refl _) _).drew | with_reducible exact set3_below hqw5 (Nat.le_refl _) _ _ _ | with_reducible exact set3_below hqw5 hqw4.size _ _ _ | with_reducible exact set3_below (hqw5.alloc hqw5.size _) hqw5.size _ _ _ | exact hqw5.alloc hqw5.size _)) hbw5; (try (have kzw5 := blk_below kzw4 hbw5 (blk_lt kzw4))); (try (have kzw5 : w5.heap[w4.heap.size]? = some (.cells #[.int .i64 0, .int .i64 0, .slice none 0 0] 26) := blk_below (heap_alloc_new w4 _) hbw5 (by simp))); (try (have zw50 : w5.cell? ⟨_, 0, none⟩ = some (.int .i64 0) := blk_cell kzw5 0)); (try (have zfw50 := blk_frozen kzw5 0)); (try (have zw51 : w5.cell? ⟨_, 1, none⟩ = some (.int .i64 0) := blk_cell kzw5 1)); (try (have zfw51 := blk_frozen kzw5 1)); (try (have zw52 : w5.cell? ⟨_, 2, none⟩ = some (.slice none 0 0) := blk_cell kzw5 2)); (try (have zfw52 := blk_frozen kzw5 2))))
    all_goals
      first
      | (have hfin := fin3 (w := w3) kzw5 hqw5 (Nat.le_refl _) (.int .i64 0) (.int .i64 0) (.slice none 0 0); have hA := hfin.blk; have hB := hfin.below; clear hfin; generalize ((w5.setCell ⟨w3.heap.size, 0, none⟩ (.int .i64 0)).setCell ⟨w3.heap.size, 1, none⟩ (.int .i64 0)).setCell ⟨w3.heap.size, 2, none⟩ (.slice none 0 0) = wf at *; obtain ⟨bf, hbf⟩ : ∃ b, b = w3.heap.size := ⟨_, rfl⟩; have hge : w3.heap.size ≤ bf := Nat.le_trans (Nat.le_refl _) (Nat.le_of_eq hbf.symm); rw [← hbf] at hA ⊢; exact hrest wf bf ao co ⟨hge, hA, hB⟩)
      | (have hfin := fin3 (w := w3) kzw5 hqw5 (hqw4.size) (.int .i64 0) (.int .i64 0) (.slice none 0 0); have hA := hfin.blk; have hB := hfin.below; clear hfin; generalize ((w5.setCell ⟨w4.heap.size, 0, none⟩ (.int .i64 0)).setCell ⟨w4.heap.size, 1, none⟩ (.int .i64 0)).setCell ⟨w4.heap.size, 2, none⟩ (.slice none 0 0) = wf at *; obtain ⟨bf, hbf⟩ : ∃ b, b = w4.heap.size := ⟨_, rfl⟩; have hge : w3.heap.size ≤ bf := Nat.le_trans (hqw4.size) (Nat.le_of_eq hbf.symm); rw [← hbf] at hA ⊢; exact hrest wf bf ao co ⟨hge, hA, hB⟩)
      | (have hA := heap_alloc_new w5 (.cells #[.int .i64 0, .int .i64 0, .slice none 0 0] 26); have hB := hqw5.alloc hqw5.size (.cells #[.int .i64 0, .int .i64 0, .slice none 0 0] 26); generalize w5.alloc (.cells #[.int .i64 0, .int .i64 0, .slice none 0 0] 26) = wf at *; obtain ⟨bf, hbf⟩ : ∃ b, b = w5.heap.size := ⟨_, rfl⟩; have hge : w3.heap.size ≤ bf := Nat.le_trans hqw5.size (Nat.le_of_eq hbf.symm); rw [← hbf] at hA ⊢; exact hrest wf bf ao co ⟨hge, hA, hB⟩)
  rintro w6 bF ao co ⟨hge, kF, hbN⟩
  have ltFp : B < bF := Nat.lt_of_lt_of_le (blk_lt kp) hge
  have ltFq : B + 1 < bF := Nat.lt_of_lt_of_le (blk_lt kq) hge
  clear hge
  have hsz := hbN.size
  have kp := blk_below kp hbN (blk_lt kp)
  have kq := blk_below kq hbN (blk_lt kq)
  have HXp := hide ((unhide HXp).below hbN)
  have HSe := hide ((unhide HSe).below hbN)
  have HB := hide ((unhide HB).trans (hbN.mono (by omega)))
  have hs : B + 2 ≤ w6.heap.size := by omega
  clear hbN hsz
  have hlp : B < w6.heap.size := blk_lt kp
  have cp0 : w6.cell? ⟨B, 0, none⟩ = some (.int .i64 W) := blk_cell kp 0
  have cp1 : w6.cell? ⟨B, 1, none⟩ = some (.int .i64 H) := blk_cell kp 1
  have cp2 : w6.cell? ⟨B, 2, none⟩ = some (.slice a n c) := blk_cell kp 2
  have hlq : B + 1 < w6.heap.size := blk_lt kq
  have cq0 : w6.cell? ⟨B + 1, 0, none⟩ = some (.int .u8 (q.r.toNat : Int)) := blk_cell kq 0
  have cq1 : w6.cell? ⟨B + 1, 1, none⟩ = some (.int .u8 (q.g.toNat : Int)) := blk_cell kq 1
  have cq2 : w6.cell? ⟨B + 1, 2, none⟩ = some (.int .u8 (q.b.toNat : Int)) := blk_cell kq 2
  have cq3 : w6.cell? ⟨B + 1, 3, none⟩ = some (.int .u8 (q.a.toNat : Int)) := blk_cell kq 3
  have hlF : bF < w6.heap.size := blk_lt kF
  have cF0 : w6.cell? ⟨bF, 0, none⟩ = some (.int .i64 0) := blk_cell kF 0
  have cF1 : w6.cell? ⟨bF, 1, none⟩ = some (.int .i64 0) := blk_cell kF 1
  have cF2 : w6.cell? ⟨bF, 2, none⟩ = some (.slice none 0 0) := blk_cell kF 2
  go_wp2_with fail
  clear cp0 cp1 cp2 cq0 cq1 cq2 cq3 cF0 cF1 cF2 hlp hlq hlF
  refine (unhide HN1 _).mono ?_
  rintro e w6 ⟨rfl, rfl⟩
  have hlp : B < w6.heap.size := blk_lt kp
  have cp0 : w6.cell? ⟨B, 0, none⟩ = some (.int .i64 W) := blk_cell kp 0
  have cp1 : w6.cell? ⟨B, 1, none⟩ = some (.int .i64 H) := blk_cell kp 1
  have cp2 : w6.cell? ⟨B, 2, none⟩ = some (.slice a n c) := blk_cell kp 2
  have hlq : B + 1 < w6.heap.size := blk_lt kq
  have cq0 : w6.cell? ⟨B + 1, 0, none⟩ = some (.int .u8 (q.r.toNat : Int)) := blk_cell kq 0
  have cq1 : w6.cell? ⟨B + 1, 1, none⟩ = some (.int .u8 (q.g.toNat : Int)) := blk_cell kq 1
  have cq2 : w6.cell? ⟨B + 1, 2, none⟩ = some (.int .u8 (q.b.toNat : Int)) := blk_cell kq 2
  have cq3 : w6.cell? ⟨B + 1, 3, none⟩ = some (.int .u8 (q.a.toNat : Int)) := blk_cell kq 3
  have hlF : bF < w6.heap.size := blk_lt kF
  have cF0 : w6.cell? ⟨bF, 0, none⟩ = some (.int .i64 0) := blk_cell kF 0
  have cF1 : w6.cell? ⟨bF, 1, none⟩ = some (.int .i64 0) := blk_cell kF 1
  have cF2 : w6.cell? ⟨bF, 2, none⟩ = some (.slice none 0 0) := blk_cell kF 2
  go_wp2_with fail
  clear cp0 cp1 cp2 cq0 cq1 cq2 cq3 cF0 cF1 cF2 hlp hlq hlF
  refine (unhide HN2 _).mono ?_
  rintro e w6 ⟨rfl, rfl⟩
  have hlp : B < w6.heap.size := blk_lt kp
  have cp0 : w6.cell? ⟨B, 0, none⟩ = some (.int .i64 W) := blk_cell kp 0
  have cp1 : w6.cell? ⟨B, 1, none⟩ = some (.int .i64 H) := blk_cell kp 1
  have cp2 : w6.cell? ⟨B, 2, none⟩ = some (.slice a n c) := blk_cell kp 2
  have hlq : B + 1 < w6.heap.size := blk_lt kq
  have cq0 : w6.cell? ⟨B + 1, 0, none⟩ = some (.int .u8 (q.r.toNat : Int)) := blk_cell kq 0
  have cq1 : w6.cell? ⟨B + 1, 1, none⟩ = some (.int .u8 (q.g.toNat : Int)) := blk_cell kq 1
  have cq2 : w6.cell? ⟨B + 1, 2, none⟩ = some (.int .u8 (q.b.toNat : Int)) := blk_cell kq 2
  have cq3 : w6.cell? ⟨B + 1, 3, none⟩ = some (.int .u8 (q.a.toNat : Int)) := blk_cell kq 3
  have hlF : bF < w6.heap.size := blk_lt kF
  have cF0 : w6.cell? ⟨bF, 0, none⟩ = some (.int .i64 0) := blk_cell kF 0
  have cF1 : w6.cell? ⟨bF, 1, none⟩ = some (.int .i64 0) := blk_cell kF 1
  have cF2 : w6.cell? ⟨bF, 2, none⟩ = some (.slice none 0 0) := blk_cell kF 2
  go_wp2_with fail
  clear cp0 cp1 cp2 cq0 cq1 cq2 cq3 cF0 cF1 cF2 hlp hlq hlF
  refine (unhide HN3 _).mono ?_
  rintro e w6 ⟨rfl, rfl⟩
  have hlp : B < w6.heap.size := blk_lt kp
  have cp0 : w6.cell? ⟨B, 0, none⟩ = some (.int .i64 W) := blk_cell kp 0
  have cp1 : w6.cell? ⟨B, 1, none⟩ = some (.int .i64 H) := blk_cell kp 1
  have cp2 : w6.cell? ⟨B, 2, none⟩ = some (.slice a n c) := blk_cell kp 2
  have hlq : B + 1 < w6.heap.size := blk_lt kq
  have cq0 : w6.cell? ⟨B + 1, 0, none⟩ = some (.int .u8 (q.r.toNat : Int)) := blk_cell kq 0
  have cq1 : w6.cell? ⟨B + 1, 1, none⟩ = some (.int .u8 (q.g.toNat : Int)) := blk_cell kq 1
  have cq2 : w6.cell? ⟨B + 1, 2, none⟩ = some (.int .u8 (q.b.toNat : Int)) := blk_cell kq 2
  have cq3 : w6.cell? ⟨B + 1, 3, none⟩ = some (.int .u8 (q.a.toNat : Int)) := blk_cell kq 3
  have hlF : bF < w6.heap.size := blk_lt kF
  have cF0 : w6.cell? ⟨bF, 0, none⟩ = some (.int .i64 0) := blk_cell kF 0
  have cF1 : w6.cell? ⟨bF, 1, none⟩ = some (.int .i64 0) := blk_cell kF 1
  have cF2 : w6.cell? ⟨bF, 2, none⟩ = some (.slice none 0 0) := blk_cell kF 2
  go_wp2_with fail
  clear cp0 cp1 cp2 cq0 cq1 cq2 cq3 cF0 cF1 cF2 hlp hlq hlF
  refine (unhide HN4 _).mono ?_
  rintro e w6 ⟨rfl, rfl⟩
  have hlp : B < w6.heap.size := blk_lt kp
  have cp0 : w6.cell? ⟨B, 0, none⟩ = some (.int .i64 W) := blk_cell kp 0
  have cp1 : w6.cell? ⟨B, 1, none⟩ = some (.int .i64 H) := blk_cell kp 1
  have cp2 : w6.cell? ⟨B, 2, none⟩ = some (.slice a n c) := blk_cell kp 2
  have hlq : B + 1 < w6.heap.size := blk_lt kq
  have cq0 : w6.cell? ⟨B + 1, 0, none⟩ = some (.int .u8 (q.r.toNat : Int)) := blk_cell kq 0
  have cq1 : w6.cell? ⟨B + 1, 1, none⟩ = some (.int .u8 (q.g.toNat : Int)) := blk_cell kq 1
  have cq2 : w6.cell? ⟨B + 1, 2, none⟩ = some (.int .u8 (q.b.toNat : Int)) := blk_cell kq 2
  have cq3 : w6.cell? ⟨B + 1, 3, none⟩ = some (.int .u8 (q.a.toNat : Int)) := blk_cell kq 3
  have hlF : bF < w6.heap.size := blk_lt kF
  have cF0 : w6.cell? ⟨bF, 0, none⟩ = some (.int .i64 0) := blk_cell kF 0
  have cF1 : w6.cell? ⟨bF, 1, none⟩ = some (.int .i64 0) := blk_cell kF 1
  have cF2 : w6.cell? ⟨bF, 2, none⟩ = some (.slice none 0 0) := blk_cell kF 2
  go_wp2_with fail
  clear cp0 cp1 cp2 cq0 cq1 cq2 cq3 cF0 cF1 cF2 hlp hlq hlF
  refine (unhide HRT _).mono ?_
  rintro e w7 ⟨rfl, hbN⟩
  have hsz := hbN.size
  have kp := blk_below kp hbN (blk_lt kp)
  have kq := blk_below kq hbN (blk_lt kq)
  have kF := blk_below kF hbN (blk_lt kF)
  have HXp := hide ((unhide HXp).below hbN)
  have HSe := hide ((unhide HSe).below hbN)
  have HB := hide ((unhide HB).trans (hbN.mono (by omega)))
  have hs : B + 2 ≤ w7.heap.size := by omega
  clear hbN hsz
  have hlp : B < w7.heap.size := blk_lt kp
  have cp0 : w7.cell? ⟨B, 0, none⟩ = some (.int .i64 W) := blk_cell kp 0
  have cp1 : w7.cell? ⟨B, 1, none⟩ = some (.int .i64 H) := blk_cell kp 1
  have cp2 : w7.cell? ⟨B, 2, none⟩ = some (.slice a n c) := blk_cell kp 2
  have hlq : B + 1 < w7.heap.size := blk_lt kq
  have cq0 : w7.cell? ⟨B + 1, 0, none⟩ = some (.int .u8 (q.r.toNat : Int)) := blk_cell kq 0
  have cq1 : w7.cell? ⟨B + 1, 1, none⟩ = some (.int .u8 (q.g.toNat : Int)) := blk_cell kq 1
  have cq2 : w7.cell? ⟨B + 1, 2, none⟩ = some (.int .u8 (q.b.toNat : Int)) := blk_cell kq 2
  have cq3 : w7.cell? ⟨B + 1, 3, none⟩ = some (.int .u8 (q.a.toNat : Int)) := blk_cell kq 3
  have hlF : bF < w7.heap.size := blk_lt kF
  have cF0 : w7.cell? ⟨bF, 0, none⟩ = some (.int .i64 0) := blk_cell kF 0
  have cF1 : w7.cell? ⟨bF, 1, none⟩ = some (.int .i64 0) := blk_cell kF 1
  have cF2 : w7.cell? ⟨bF, 2, none⟩ = some (.slice none 0 0) := blk_cell kF 2
  go_wp2_with fail
  clear cp0 cp1 cp2 cq0 cq1 cq2 cq3 cF0 cF1 cF2 hlp hlq hlF
  refine (unhide HTe w7 (unhide HSe)).mono ?_
  rintro e w8 ⟨rfl, hbN⟩
  have hsz := hbN.size
  have kp := blk_below kp hbN (blk_lt kp)
  have kq := blk_below kq hbN (blk_lt kq)
  have kF := blk_below kF hbN (blk_lt kF)
  have HXp := hide ((unhide HXp).below hbN)
  have HSe := hide ((unhide HSe).below hbN)
  have HB := hide ((unhide HB).trans (hbN.mono (by omega)))
  have hs : B + 2 ≤ w8.heap.size := by omega
  clear hbN hsz
  have hlp : B < w8.heap.size := blk_lt kp
  have cp0 : w8.cell? ⟨B, 0, none⟩ = some (.int .i64 W) := blk_cell kp 0
  have cp1 : w8.cell? ⟨B, 1, none⟩ = some (.int .i64 H) := blk_cell kp 1
  have cp2 : w8.cell? ⟨B, 2, none⟩ = some (.slice a n c) := blk_cell kp 2
  have hlq : B + 1 < w8.heap.size := blk_lt kq
  have cq0 : w8.cell? ⟨B + 1, 0, none⟩ = some (.int .u8 (q.r.toNat : Int)) := blk_cell kq 0
  have cq1 : w8.cell? ⟨B + 1, 1, none⟩ = some (.int .u8 (q.g.toNat : Int)) := blk_cell kq 1
  have cq2 : w8.cell? ⟨B + 1, 2, none⟩ = some (.int .u8 (q.b.toNat : Int)) := blk_cell kq 2
  have cq3 : w8.cell? ⟨B + 1, 3, none⟩ = some (.int .u8 (q.a.toNat : Int)) := blk_cell kq 3
  have hlF : bF < w8.heap.size := blk_lt kF
  have cF0 : w8.cell? ⟨bF, 0, none⟩ = some (.int .i64 0) := blk_cell kF 0
  have cF1 : w8.cell? ⟨bF, 1, none⟩ = some (.int .i64 0) := blk_cell kF 1
  have cF2 : w8.cell? ⟨bF, 2, none⟩ = some (.slice none 0 0) := blk_cell kF 2
  go_wp2
  clear cp0 cp1 cp2 cq0 cq1 cq2 cq3 cF0 cF1 cF2 hlp hlq hlF
  go_ret
  exact ⟨rfl, by rw [← unhide HBE]; exact unhide HB⟩
end Go.Proofs.YtjhnneplknhmkahDoor
