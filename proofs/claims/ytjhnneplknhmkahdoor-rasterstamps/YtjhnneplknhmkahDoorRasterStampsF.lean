/- The statement on pictures stamped on others: the walk, way by way. Written by genrl.py. -/
import Derived.Test.YtjhnneplknhmkahDoorSp4
import Derived.Test.YtjhnneplknhmkahDoorSp1
import Derived.Test.YtjhnneplknhmkahDoorMg6
import Derived.Test.YtjhnneplknhmkahDoorMg4
import Derived.Test.YtjhnneplknhmkahDoorOo1
namespace Go.Proofs.YtjhnneplknhmkahDoor
open Go.RowKit

set_option maxHeartbeats 4000000 in
set_option maxRecDepth 100000 in
theorem rasterStamps_bn2 (W H : Nat) (a : Option Addr) (n c : Nat) (p : Nat → Px) (QW QH : Nat) (b : Option Addr) (m d : Nat) (s : Nat → Px) (X Y : Int) (mo : Int) (w : World) (A : Nat → Addr) (hS : Sent w A) (hP : IsPx w a n p) (hQ : IsPx w b m s) (hn3 : n ≤ 3000) (hm3 : m ≤ 3000) (hW0 : 1 ≤ W) (hW : W ≤ 256) (hH0 : 1 ≤ H) (hH : H ≤ 256) (hn : n = W * H) (hQW0 : 1 ≤ QW) (hQW : QW ≤ 256) (hQH0 : 1 ≤ QH) (hQH : QH ≤ 256) (hm : m = QW * QH) (n1 : Nr X) (n2 : ¬ Nr Y) :
    Calls Tryd.prog 5 #[.agg #[.int .i64 (W : Int), .int .i64 (H : Int), .slice a n c], .agg #[.int .i64 (QW : Int), .int .i64 (QH : Int), .slice b m d], .int .i64 X, .int .i64 Y, .int .i64 mo] w fun e w' => e = .returned (.bool true) ∧ Below w.heap.size w w' := by
  have HPL := hide plainly_any
  have HSM := hide (fun w => small_any (W : Int) (H : Int) a n c w)
  rw [decide_eq_true hn3] at HSM
  have HX := hide hP
  have HY := hide hQ
  have HS0 := hide hS
  have HSQ := hide (fun w => small_any (QW : Int) (QH : Int) b m d w)
  rw [decide_eq_true hm3] at HSQ
  have HO := hide (fun w (h : IsPx w a n p) => own_isPx (W : Int) (H : Int) a n c p w h (by omega))
  have HO2 := hide (fun w (h : IsPx w b m s) => own_isPx (QW : Int) (QH : Int) b m d s w h (by omega))
  have HRT := hide (fun w => pright_any (W : Int) (H : Int) a n c w)
  have HRQ := hide (fun w => pright_any (QW : Int) (QH : Int) b m d w)
  have HN1 := hide (fun w => nearP_any X w)
  rw [decide_eq_true n1] at HN1
  have HN2 := hide (fun w => nearP_any Y w)
  rw [decide_eq_false n2] at HN2
  rw [decide_eq_true (rightN hW0 hW hH0 hH hn)] at HRT
  rw [decide_eq_true (rightN hQW0 hQW hQH0 hQH hm)] at HRQ
  have HF := hide (fun w a c b d (h : Sent w A) => stamp_near W H a n c QW QH b m d X Y mo w _ _ (h.cell 1 (by omega)) hW0 hW hH0 hH hn hQW0 hQW hQH0 hQH hm (fun k => n2 k.2))
  have HTe := hide (fun w (h : Sent w A) => told_err 1 2 (W : Int) (H : Int) a n c w A h (by omega) rfl)
  clear hn3 hP hQ hS hm3 hW0 hW hH0 hH hn hQW0 hQW hQH0 hQH hm n1 n2
  have HA := hide (al2 w (.cells #[.int .i64 (W : Int), .int .i64 (H : Int), .slice a n c] 26) (.cells #[.int .i64 (QW : Int), .int .i64 (QH : Int), .slice b m d] 26))
  obtain ⟨B, hB⟩ : ∃ B, B = w.heap.size := ⟨_, rfl⟩
  go_enter Tryd.func5, Tryd.ntmps5
  go_wp2_with fail
  generalize ((w.alloc (.cells #[.int .i64 (W : Int), .int .i64 (H : Int), .slice a n c] 26)).alloc (.cells #[.int .i64 (QW : Int), .int .i64 (QH : Int), .slice b m d] 26)) = w1 at *
  rw [← hB] at HA ⊢
  obtain ⟨hs1, kp, kq, hb1⟩ := unhide HA
  have HBE := hide hB
  clear HA hB
  have hs : B + 2 ≤ w1.heap.size := by omega
  have HB := hide hb1
  clear hs1 hb1
  have HXp := hide ((unhide HX).under (unhide HB) (fun x hx h0 => by rw [unhide HBE]; exact (unhide HX).lt x hx h0))
  have HXq := hide ((unhide HY).under (unhide HB) (fun x hx h0 => by rw [unhide HBE]; exact (unhide HY).lt x hx h0))
  have HSe := hide ((unhide HS0).below (by rw [← unhide HBE]; exact unhide HB))
  clear HX HY HS0
  refine (unhide HPL _).mono ?_
  rintro e w2 ⟨rfl, hbN⟩
  have hsz := hbN.size
  have kp := blk_below kp hbN (blk_lt kp)
  have kq := blk_below kq hbN (blk_lt kq)
  have HXp := hide ((unhide HXp).below hbN)
  have HXq := hide ((unhide HXq).below hbN)
  have HSe := hide ((unhide HSe).below hbN)
  have HB := hide ((unhide HB).trans (hbN.mono (by omega)))
  have hs : B + 2 ≤ w2.heap.size := by omega
  clear hbN hsz
  have hlp : B < w2.heap.size := blk_lt kp
  have cp0 : w2.cell? ⟨B, 0, none⟩ = some (.int .i64 (W : Int)) := blk_cell kp 0
  have cp1 : w2.cell? ⟨B, 1, none⟩ = some (.int .i64 (H : Int)) := blk_cell kp 1
  have cp2 : w2.cell? ⟨B, 2, none⟩ = some (.slice a n c) := blk_cell kp 2
  have hlq : B + 1 < w2.heap.size := blk_lt kq
  have cq0 : w2.cell? ⟨B + 1, 0, none⟩ = some (.int .i64 (QW : Int)) := blk_cell kq 0
  have cq1 : w2.cell? ⟨B + 1, 1, none⟩ = some (.int .i64 (QH : Int)) := blk_cell kq 1
  have cq2 : w2.cell? ⟨B + 1, 2, none⟩ = some (.slice b m d) := blk_cell kq 2
  go_wp2_with fail
  clear cp0 cp1 cp2 cq0 cq1 cq2 hlp hlq
  refine (unhide HSM _).mono ?_
  rintro e w3 ⟨rfl, hbN⟩
  have hsz := hbN.size
  have kp := blk_below kp hbN (blk_lt kp)
  have kq := blk_below kq hbN (blk_lt kq)
  have HXp := hide ((unhide HXp).below hbN)
  have HXq := hide ((unhide HXq).below hbN)
  have HSe := hide ((unhide HSe).below hbN)
  have HB := hide ((unhide HB).trans (hbN.mono (by omega)))
  have hs : B + 2 ≤ w3.heap.size := by omega
  clear hbN hsz
  have hlp : B < w3.heap.size := blk_lt kp
  have cp0 : w3.cell? ⟨B, 0, none⟩ = some (.int .i64 (W : Int)) := blk_cell kp 0
  have cp1 : w3.cell? ⟨B, 1, none⟩ = some (.int .i64 (H : Int)) := blk_cell kp 1
  have cp2 : w3.cell? ⟨B, 2, none⟩ = some (.slice a n c) := blk_cell kp 2
  have hlq : B + 1 < w3.heap.size := blk_lt kq
  have cq0 : w3.cell? ⟨B + 1, 0, none⟩ = some (.int .i64 (QW : Int)) := blk_cell kq 0
  have cq1 : w3.cell? ⟨B + 1, 1, none⟩ = some (.int .i64 (QH : Int)) := blk_cell kq 1
  have cq2 : w3.cell? ⟨B + 1, 2, none⟩ = some (.slice b m d) := blk_cell kq 2
  go_wp2_with fail
  clear cp0 cp1 cp2 cq0 cq1 cq2 hlp hlq
  refine (unhide HSQ _).mono ?_
  rintro e w4 ⟨rfl, hbN⟩
  have hsz := hbN.size
  have kp := blk_below kp hbN (blk_lt kp)
  have kq := blk_below kq hbN (blk_lt kq)
  have HXp := hide ((unhide HXp).below hbN)
  have HXq := hide ((unhide HXq).below hbN)
  have HSe := hide ((unhide HSe).below hbN)
  have HB := hide ((unhide HB).trans (hbN.mono (by omega)))
  have hs : B + 2 ≤ w4.heap.size := by omega
  clear hbN hsz
  have hlp : B < w4.heap.size := blk_lt kp
  have cp0 : w4.cell? ⟨B, 0, none⟩ = some (.int .i64 (W : Int)) := blk_cell kp 0
  have cp1 : w4.cell? ⟨B, 1, none⟩ = some (.int .i64 (H : Int)) := blk_cell kp 1
  have cp2 : w4.cell? ⟨B, 2, none⟩ = some (.slice a n c) := blk_cell kp 2
  have hlq : B + 1 < w4.heap.size := blk_lt kq
  have cq0 : w4.cell? ⟨B + 1, 0, none⟩ = some (.int .i64 (QW : Int)) := blk_cell kq 0
  have cq1 : w4.cell? ⟨B + 1, 1, none⟩ = some (.int .i64 (QH : Int)) := blk_cell kq 1
  have cq2 : w4.cell? ⟨B + 1, 2, none⟩ = some (.slice b m d) := blk_cell kq 2
  go_wp2
  clear cp0 cp1 cp2 cq0 cq1 cq2 hlp hlq
  apply once2 (fun wf bf ao co bo eo => w4.heap.size ≤ bf ∧ wf.heap[bf]? = some (.cells #[.int .i64 0, .int .i64 0, .slice none 0 0] 26) ∧ Below w4.heap.size w4 wf)
  · intro hrest
    have hlp : B < w4.heap.size := blk_lt kp
    have cp0 : w4.cell? ⟨B, 0, none⟩ = some (.int .i64 (W : Int)) := blk_cell kp 0
    have cp1 : w4.cell? ⟨B, 1, none⟩ = some (.int .i64 (H : Int)) := blk_cell kp 1
    have cp2 : w4.cell? ⟨B, 2, none⟩ = some (.slice a n c) := blk_cell kp 2
    have hlq : B + 1 < w4.heap.size := blk_lt kq
    have cq0 : w4.cell? ⟨B + 1, 0, none⟩ = some (.int .i64 (QW : Int)) := blk_cell kq 0
    have cq1 : w4.cell? ⟨B + 1, 1, none⟩ = some (.int .i64 (QH : Int)) := blk_cell kq 1
    have cq2 : w4.cell? ⟨B + 1, 2, none⟩ = some (.slice b m d) := blk_cell kq 2
    have hKS := hide (fun wx (h : Below w4.heap.size w4 wx) => (⟨bcell h hlp cp0, bcell h hlp cp1, bcell h hlp cp2, bcell h hlq cq0, bcell h hlq cq1, bcell h hlq cq2⟩ : wx.cell? ⟨B, 0, none⟩ = some (.int .i64 (W : Int)) ∧ wx.cell? ⟨B, 1, none⟩ = some (.int .i64 (H : Int)) ∧ wx.cell? ⟨B, 2, none⟩ = some (.slice a n c) ∧ wx.cell? ⟨B + 1, 0, none⟩ = some (.int .i64 (QW : Int)) ∧ wx.cell? ⟨B + 1, 1, none⟩ = some (.int .i64 (QH : Int)) ∧ wx.cell? ⟨B + 1, 2, none⟩ = some (.slice b m d)))
    have hdr := (Below.refl w4.heap.size w4).drew
    go_region_held (fun w' => w'.cell? ⟨B, 0, none⟩ = some (.int .i64 (W : Int)) ∧ w'.cell? ⟨B, 1, none⟩ = some (.int .i64 (H : Int)) ∧ w'.cell? ⟨B, 2, none⟩ = some (.slice a n c) ∧ w'.cell? ⟨B + 1, 0, none⟩ = some (.int .i64 (QW : Int)) ∧ w'.cell? ⟨B + 1, 1, none⟩ = some (.int .i64 (QH : Int)) ∧ w'.cell? ⟨B + 1, 2, none⟩ = some (.slice b m d)) (exact unhide hKS _ (by (first | with_reducible exact hqw7 | with_reducible exact hqw6 | with_reducible exact hqw5 | with_reducible exact hdr | with_reducible exact hqw7.alloc hqw7.size _ | with_reducible exact hqw6.alloc hqw6.size _ | with_reducible exact hqw5.alloc hqw5.size _ | with_reducible exact ((Below.refl _ _).alloc (Nat.le_refl _) _).drew | with_reducible exact set3_below hqw7 (Nat.le_refl _) _ _ _ | with_reducible exact set3_below hqw7 hqw6.size _ _ _ | with_reducible exact set3_below hqw7 hqw5.size _ _ _ | with_reducible exact set3_below (hqw7.alloc hqw7.size _) hqw7.size _ _ _ | exact hqw7.alloc hqw7.size _))) (first | (go_at_call_of 16 a; refine (unhide HO _ ((unhide HXp).below (by (first | with_reducible exact hqw7 | with_reducible exact hqw6 | with_reducible exact hqw5 | with_reducible exact hdr | with_reducible exact hqw7.alloc hqw7.size _ | with_reducible exact hqw6.alloc hqw6.size _ | with_reducible exact hqw5.alloc hqw5.size _ | with_reducible exact ((Below.refl _ _).alloc (Nat.le_refl _) _).drew | with_reducible exact set3_below hqw7 (Nat.le_refl _) _ _ _ | with_reducible exact set3_below hqw7 hqw6.size _ _ _ | with_reducible exact set3_below hqw7 hqw5.size _ _ _ | with_reducible exact set3_below (hqw7.alloc hqw7.size _) hqw7.size _ _ _ | exact hqw7.alloc hqw7.size _)))).mono ?_; rintro e w5 ⟨ao, co, rfl, hpo, hbw5⟩; have hqw5 := bel_trans (w := w4) (by (first | with_reducible exact hqw7 | with_reducible exact hqw6 | with_reducible exact hqw5 | with_reducible exact hdr | with_reducible exact hqw7.alloc hqw7.size _ | with_reducible exact hqw6.alloc hqw6.size _ | with_reducible exact hqw5.alloc hqw5.size _ | with_reducible exact ((Below.refl _ _).alloc (Nat.le_refl _) _).drew | with_reducible exact set3_below hqw7 (Nat.le_refl _) _ _ _ | with_reducible exact set3_below hqw7 hqw6.size _ _ _ | with_reducible exact set3_below hqw7 hqw5.size _ _ _ | with_reducible exact set3_below (hqw7.alloc hqw7.size _) hqw7.size _ _ _ | exact hqw7.alloc hqw7.size _)) hbw5; (try (have kzw5 : w5.heap[w4.heap.size]? = some (.cells #[.int .i64 0, .int .i64 0, .slice none 0 0] 26) := blk_below (show ((w4.alloc (.cells #[.int .i64 0, .int .i64 0, .slice none 0 0] 26)).drew).heap[w4.heap.size]? = some (.cells #[.int .i64 0, .int .i64 0, .slice none 0 0] 26) from heap_alloc_new w4 _) hbw5 (by show _ < (w4.alloc _).heap.size; simp))); (try (have kzw5 := blk_below kzw6 hbw5 (blk_lt kzw6))); (try (have kzw5 : w5.heap[w6.heap.size]? = some (.cells #[.int .i64 0, .int .i64 0, .slice none 0 0] 26) := blk_below (heap_alloc_new w6 _) hbw5 (by simp))); (try (have zw50 : w5.cell? ⟨_, 0, none⟩ = some (.int .i64 0) := blk_cell kzw5 0)); (try (have zfw50 := blk_frozen kzw5 0)); (try (have zw51 : w5.cell? ⟨_, 1, none⟩ = some (.int .i64 0) := blk_cell kzw5 1)); (try (have zfw51 := blk_frozen kzw5 1)); (try (have zw52 : w5.cell? ⟨_, 2, none⟩ = some (.slice none 0 0) := blk_cell kzw5 2)); (try (have zfw52 := blk_frozen kzw5 2))) | (go_at_call_of 16 b; refine (unhide HO2 _ ((unhide HXq).below (by (first | with_reducible exact hqw7 | with_reducible exact hqw6 | with_reducible exact hqw5 | with_reducible exact hdr | with_reducible exact hqw7.alloc hqw7.size _ | with_reducible exact hqw6.alloc hqw6.size _ | with_reducible exact hqw5.alloc hqw5.size _ | with_reducible exact ((Below.refl _ _).alloc (Nat.le_refl _) _).drew | with_reducible exact set3_below hqw7 (Nat.le_refl _) _ _ _ | with_reducible exact set3_below hqw7 hqw6.size _ _ _ | with_reducible exact set3_below hqw7 hqw5.size _ _ _ | with_reducible exact set3_below (hqw7.alloc hqw7.size _) hqw7.size _ _ _ | exact hqw7.alloc hqw7.size _)))).mono ?_; rintro e w6 ⟨bo, eo, rfl, hpo2, hbw6⟩; have hqw6 := bel_trans (w := w4) (by (first | with_reducible exact hqw7 | with_reducible exact hqw6 | with_reducible exact hqw5 | with_reducible exact hdr | with_reducible exact hqw7.alloc hqw7.size _ | with_reducible exact hqw6.alloc hqw6.size _ | with_reducible exact hqw5.alloc hqw5.size _ | with_reducible exact ((Below.refl _ _).alloc (Nat.le_refl _) _).drew | with_reducible exact set3_below hqw7 (Nat.le_refl _) _ _ _ | with_reducible exact set3_below hqw7 hqw6.size _ _ _ | with_reducible exact set3_below hqw7 hqw5.size _ _ _ | with_reducible exact set3_below (hqw7.alloc hqw7.size _) hqw7.size _ _ _ | exact hqw7.alloc hqw7.size _)) hbw6; (try (have kzw6 : w6.heap[w4.heap.size]? = some (.cells #[.int .i64 0, .int .i64 0, .slice none 0 0] 26) := blk_below (show ((w4.alloc (.cells #[.int .i64 0, .int .i64 0, .slice none 0 0] 26)).drew).heap[w4.heap.size]? = some (.cells #[.int .i64 0, .int .i64 0, .slice none 0 0] 26) from heap_alloc_new w4 _) hbw6 (by show _ < (w4.alloc _).heap.size; simp))); (try (have kzw6 := blk_below kzw5 hbw6 (blk_lt kzw5))); (try (have kzw6 : w6.heap[w5.heap.size]? = some (.cells #[.int .i64 0, .int .i64 0, .slice none 0 0] 26) := blk_below (heap_alloc_new w5 _) hbw6 (by simp))); (try (have zw60 : w6.cell? ⟨_, 0, none⟩ = some (.int .i64 0) := blk_cell kzw6 0)); (try (have zfw60 := blk_frozen kzw6 0)); (try (have zw61 : w6.cell? ⟨_, 1, none⟩ = some (.int .i64 0) := blk_cell kzw6 1)); (try (have zfw61 := blk_frozen kzw6 1)); (try (have zw62 : w6.cell? ⟨_, 2, none⟩ = some (.slice none 0 0) := blk_cell kzw6 2)); (try (have zfw62 := blk_frozen kzw6 2))) | (go_at_call 26; refine (unhide HF _ _ _ _ _ ((unhide HSe).below (by (first | with_reducible exact hqw7 | with_reducible exact hqw6 | with_reducible exact hqw5 | with_reducible exact hdr | with_reducible exact hqw7.alloc hqw7.size _ | with_reducible exact hqw6.alloc hqw6.size _ | with_reducible exact hqw5.alloc hqw5.size _ | with_reducible exact ((Below.refl _ _).alloc (Nat.le_refl _) _).drew | with_reducible exact set3_below hqw7 (Nat.le_refl _) _ _ _ | with_reducible exact set3_below hqw7 hqw6.size _ _ _ | with_reducible exact set3_below hqw7 hqw5.size _ _ _ | with_reducible exact set3_below (hqw7.alloc hqw7.size _) hqw7.size _ _ _ | exact hqw7.alloc hqw7.size _)))).mono ?_; rintro e w7 ⟨rfl, hbw7⟩; have hqw7 := bel_trans (w := w4) (by (first | with_reducible exact hqw7 | with_reducible exact hqw6 | with_reducible exact hqw5 | with_reducible exact hdr | with_reducible exact hqw7.alloc hqw7.size _ | with_reducible exact hqw6.alloc hqw6.size _ | with_reducible exact hqw5.alloc hqw5.size _ | with_reducible exact ((Below.refl _ _).alloc (Nat.le_refl _) _).drew | with_reducible exact set3_below hqw7 (Nat.le_refl _) _ _ _ | with_reducible exact set3_below hqw7 hqw6.size _ _ _ | with_reducible exact set3_below hqw7 hqw5.size _ _ _ | with_reducible exact set3_below (hqw7.alloc hqw7.size _) hqw7.size _ _ _ | exact hqw7.alloc hqw7.size _)) hbw7; (try (have kzw7 : w7.heap[w4.heap.size]? = some (.cells #[.int .i64 0, .int .i64 0, .slice none 0 0] 26) := blk_below (show ((w4.alloc (.cells #[.int .i64 0, .int .i64 0, .slice none 0 0] 26)).drew).heap[w4.heap.size]? = some (.cells #[.int .i64 0, .int .i64 0, .slice none 0 0] 26) from heap_alloc_new w4 _) hbw7 (by show _ < (w4.alloc _).heap.size; simp))); (try (have kzw7 := blk_below kzw5 hbw7 (blk_lt kzw5))); (try (have kzw7 : w7.heap[w5.heap.size]? = some (.cells #[.int .i64 0, .int .i64 0, .slice none 0 0] 26) := blk_below (heap_alloc_new w5 _) hbw7 (by simp))); (try (have kzw7 := blk_below kzw6 hbw7 (blk_lt kzw6))); (try (have kzw7 : w7.heap[w6.heap.size]? = some (.cells #[.int .i64 0, .int .i64 0, .slice none 0 0] 26) := blk_below (heap_alloc_new w6 _) hbw7 (by simp))); (try (have zw70 : w7.cell? ⟨_, 0, none⟩ = some (.int .i64 0) := blk_cell kzw7 0)); (try (have zfw70 := blk_frozen kzw7 0)); (try (have zw71 : w7.cell? ⟨_, 1, none⟩ = some (.int .i64 0) := blk_cell kzw7 1)); (try (have zfw71 := blk_frozen kzw7 1)); (try (have zw72 : w7.cell? ⟨_, 2, none⟩ = some (.slice none 0 0) := blk_cell kzw7 2)); (try (have zfw72 := blk_frozen kzw7 2))))
    all_goals
      first
      | (have hfin := fin3 (w := w4) kzw7 hqw7 (Nat.le_refl _) (.int .i64 0) (.int .i64 0) (.slice none 0 0); have hA := hfin.blk; have hB := hfin.below; clear hfin; generalize ((w7.setCell ⟨w4.heap.size, 0, none⟩ (.int .i64 0)).setCell ⟨w4.heap.size, 1, none⟩ (.int .i64 0)).setCell ⟨w4.heap.size, 2, none⟩ (.slice none 0 0) = wf at *; obtain ⟨bf, hbf⟩ : ∃ b, b = w4.heap.size := ⟨_, rfl⟩; have hge : w4.heap.size ≤ bf := Nat.le_trans (Nat.le_refl _) (Nat.le_of_eq hbf.symm); rw [← hbf] at hA ⊢; exact hrest wf bf ao co bo eo ⟨hge, hA, hB⟩)
      | (have hfin := fin3 (w := w4) kzw7 hqw7 (hqw5.size) (.int .i64 0) (.int .i64 0) (.slice none 0 0); have hA := hfin.blk; have hB := hfin.below; clear hfin; generalize ((w7.setCell ⟨w5.heap.size, 0, none⟩ (.int .i64 0)).setCell ⟨w5.heap.size, 1, none⟩ (.int .i64 0)).setCell ⟨w5.heap.size, 2, none⟩ (.slice none 0 0) = wf at *; obtain ⟨bf, hbf⟩ : ∃ b, b = w5.heap.size := ⟨_, rfl⟩; have hge : w4.heap.size ≤ bf := Nat.le_trans (hqw5.size) (Nat.le_of_eq hbf.symm); rw [← hbf] at hA ⊢; exact hrest wf bf ao co bo eo ⟨hge, hA, hB⟩)
      | (have hfin := fin3 (w := w4) kzw7 hqw7 (hqw6.size) (.int .i64 0) (.int .i64 0) (.slice none 0 0); have hA := hfin.blk; have hB := hfin.below; clear hfin; generalize ((w7.setCell ⟨w6.heap.size, 0, none⟩ (.int .i64 0)).setCell ⟨w6.heap.size, 1, none⟩ (.int .i64 0)).setCell ⟨w6.heap.size, 2, none⟩ (.slice none 0 0) = wf at *; obtain ⟨bf, hbf⟩ : ∃ b, b = w6.heap.size := ⟨_, rfl⟩; have hge : w4.heap.size ≤ bf := Nat.le_trans (hqw6.size) (Nat.le_of_eq hbf.symm); rw [← hbf] at hA ⊢; exact hrest wf bf ao co bo eo ⟨hge, hA, hB⟩)
      | (have hA := heap_alloc_new w7 (.cells #[.int .i64 0, .int .i64 0, .slice none 0 0] 26); have hB := hqw7.alloc hqw7.size (.cells #[.int .i64 0, .int .i64 0, .slice none 0 0] 26); generalize w7.alloc (.cells #[.int .i64 0, .int .i64 0, .slice none 0 0] 26) = wf at *; obtain ⟨bf, hbf⟩ : ∃ b, b = w7.heap.size := ⟨_, rfl⟩; have hge : w4.heap.size ≤ bf := Nat.le_trans hqw7.size (Nat.le_of_eq hbf.symm); rw [← hbf] at hA ⊢; exact hrest wf bf ao co bo eo ⟨hge, hA, hB⟩)
  rintro w8 bF ao co bo eo ⟨hge, kF, hbN⟩
  clear hge
  have hsz := hbN.size
  have kp := blk_below kp hbN (blk_lt kp)
  have kq := blk_below kq hbN (blk_lt kq)
  have HXp := hide ((unhide HXp).below hbN)
  have HXq := hide ((unhide HXq).below hbN)
  have HSe := hide ((unhide HSe).below hbN)
  have HB := hide ((unhide HB).trans (hbN.mono (by omega)))
  have hs : B + 2 ≤ w8.heap.size := by omega
  clear hbN hsz
  have hlp : B < w8.heap.size := blk_lt kp
  have cp0 : w8.cell? ⟨B, 0, none⟩ = some (.int .i64 (W : Int)) := blk_cell kp 0
  have cp1 : w8.cell? ⟨B, 1, none⟩ = some (.int .i64 (H : Int)) := blk_cell kp 1
  have cp2 : w8.cell? ⟨B, 2, none⟩ = some (.slice a n c) := blk_cell kp 2
  have hlq : B + 1 < w8.heap.size := blk_lt kq
  have cq0 : w8.cell? ⟨B + 1, 0, none⟩ = some (.int .i64 (QW : Int)) := blk_cell kq 0
  have cq1 : w8.cell? ⟨B + 1, 1, none⟩ = some (.int .i64 (QH : Int)) := blk_cell kq 1
  have cq2 : w8.cell? ⟨B + 1, 2, none⟩ = some (.slice b m d) := blk_cell kq 2
  have hlF : bF < w8.heap.size := blk_lt kF
  have cF0 : w8.cell? ⟨bF, 0, none⟩ = some (.int .i64 0) := blk_cell kF 0
  have cF1 : w8.cell? ⟨bF, 1, none⟩ = some (.int .i64 0) := blk_cell kF 1
  have cF2 : w8.cell? ⟨bF, 2, none⟩ = some (.slice none 0 0) := blk_cell kF 2
  go_wp2_with fail
  clear cp0 cp1 cp2 cq0 cq1 cq2 cF0 cF1 cF2 hlp hlq hlF
  refine (unhide HN1 _).mono ?_
  rintro e w8 ⟨rfl, rfl⟩
  have hlp : B < w8.heap.size := blk_lt kp
  have cp0 : w8.cell? ⟨B, 0, none⟩ = some (.int .i64 (W : Int)) := blk_cell kp 0
  have cp1 : w8.cell? ⟨B, 1, none⟩ = some (.int .i64 (H : Int)) := blk_cell kp 1
  have cp2 : w8.cell? ⟨B, 2, none⟩ = some (.slice a n c) := blk_cell kp 2
  have hlq : B + 1 < w8.heap.size := blk_lt kq
  have cq0 : w8.cell? ⟨B + 1, 0, none⟩ = some (.int .i64 (QW : Int)) := blk_cell kq 0
  have cq1 : w8.cell? ⟨B + 1, 1, none⟩ = some (.int .i64 (QH : Int)) := blk_cell kq 1
  have cq2 : w8.cell? ⟨B + 1, 2, none⟩ = some (.slice b m d) := blk_cell kq 2
  have hlF : bF < w8.heap.size := blk_lt kF
  have cF0 : w8.cell? ⟨bF, 0, none⟩ = some (.int .i64 0) := blk_cell kF 0
  have cF1 : w8.cell? ⟨bF, 1, none⟩ = some (.int .i64 0) := blk_cell kF 1
  have cF2 : w8.cell? ⟨bF, 2, none⟩ = some (.slice none 0 0) := blk_cell kF 2
  go_wp2_with fail
  clear cp0 cp1 cp2 cq0 cq1 cq2 cF0 cF1 cF2 hlp hlq hlF
  refine (unhide HN2 _).mono ?_
  rintro e w8 ⟨rfl, rfl⟩
  have hlp : B < w8.heap.size := blk_lt kp
  have cp0 : w8.cell? ⟨B, 0, none⟩ = some (.int .i64 (W : Int)) := blk_cell kp 0
  have cp1 : w8.cell? ⟨B, 1, none⟩ = some (.int .i64 (H : Int)) := blk_cell kp 1
  have cp2 : w8.cell? ⟨B, 2, none⟩ = some (.slice a n c) := blk_cell kp 2
  have hlq : B + 1 < w8.heap.size := blk_lt kq
  have cq0 : w8.cell? ⟨B + 1, 0, none⟩ = some (.int .i64 (QW : Int)) := blk_cell kq 0
  have cq1 : w8.cell? ⟨B + 1, 1, none⟩ = some (.int .i64 (QH : Int)) := blk_cell kq 1
  have cq2 : w8.cell? ⟨B + 1, 2, none⟩ = some (.slice b m d) := blk_cell kq 2
  have hlF : bF < w8.heap.size := blk_lt kF
  have cF0 : w8.cell? ⟨bF, 0, none⟩ = some (.int .i64 0) := blk_cell kF 0
  have cF1 : w8.cell? ⟨bF, 1, none⟩ = some (.int .i64 0) := blk_cell kF 1
  have cF2 : w8.cell? ⟨bF, 2, none⟩ = some (.slice none 0 0) := blk_cell kF 2
  go_wp2_with fail
  clear cp0 cp1 cp2 cq0 cq1 cq2 cF0 cF1 cF2 hlp hlq hlF
  refine (unhide HRT _).mono ?_
  rintro e w9 ⟨rfl, hbN⟩
  have hsz := hbN.size
  have kp := blk_below kp hbN (blk_lt kp)
  have kq := blk_below kq hbN (blk_lt kq)
  have kF := blk_below kF hbN (blk_lt kF)
  have HXp := hide ((unhide HXp).below hbN)
  have HXq := hide ((unhide HXq).below hbN)
  have HSe := hide ((unhide HSe).below hbN)
  have HB := hide ((unhide HB).trans (hbN.mono (by omega)))
  have hs : B + 2 ≤ w9.heap.size := by omega
  clear hbN hsz
  have hlp : B < w9.heap.size := blk_lt kp
  have cp0 : w9.cell? ⟨B, 0, none⟩ = some (.int .i64 (W : Int)) := blk_cell kp 0
  have cp1 : w9.cell? ⟨B, 1, none⟩ = some (.int .i64 (H : Int)) := blk_cell kp 1
  have cp2 : w9.cell? ⟨B, 2, none⟩ = some (.slice a n c) := blk_cell kp 2
  have hlq : B + 1 < w9.heap.size := blk_lt kq
  have cq0 : w9.cell? ⟨B + 1, 0, none⟩ = some (.int .i64 (QW : Int)) := blk_cell kq 0
  have cq1 : w9.cell? ⟨B + 1, 1, none⟩ = some (.int .i64 (QH : Int)) := blk_cell kq 1
  have cq2 : w9.cell? ⟨B + 1, 2, none⟩ = some (.slice b m d) := blk_cell kq 2
  have hlF : bF < w9.heap.size := blk_lt kF
  have cF0 : w9.cell? ⟨bF, 0, none⟩ = some (.int .i64 0) := blk_cell kF 0
  have cF1 : w9.cell? ⟨bF, 1, none⟩ = some (.int .i64 0) := blk_cell kF 1
  have cF2 : w9.cell? ⟨bF, 2, none⟩ = some (.slice none 0 0) := blk_cell kF 2
  go_wp2_with fail
  clear cp0 cp1 cp2 cq0 cq1 cq2 cF0 cF1 cF2 hlp hlq hlF
  refine (unhide HRQ _).mono ?_
  rintro e w10 ⟨rfl, hbN⟩
  have hsz := hbN.size
  have kp := blk_below kp hbN (blk_lt kp)
  have kq := blk_below kq hbN (blk_lt kq)
  have kF := blk_below kF hbN (blk_lt kF)
  have HXp := hide ((unhide HXp).below hbN)
  have HXq := hide ((unhide HXq).below hbN)
  have HSe := hide ((unhide HSe).below hbN)
  have HB := hide ((unhide HB).trans (hbN.mono (by omega)))
  have hs : B + 2 ≤ w10.heap.size := by omega
  clear hbN hsz
  have hlp : B < w10.heap.size := blk_lt kp
  have cp0 : w10.cell? ⟨B, 0, none⟩ = some (.int .i64 (W : Int)) := blk_cell kp 0
  have cp1 : w10.cell? ⟨B, 1, none⟩ = some (.int .i64 (H : Int)) := blk_cell kp 1
  have cp2 : w10.cell? ⟨B, 2, none⟩ = some (.slice a n c) := blk_cell kp 2
  have hlq : B + 1 < w10.heap.size := blk_lt kq
  have cq0 : w10.cell? ⟨B + 1, 0, none⟩ = some (.int .i64 (QW : Int)) := blk_cell kq 0
  have cq1 : w10.cell? ⟨B + 1, 1, none⟩ = some (.int .i64 (QH : Int)) := blk_cell kq 1
  have cq2 : w10.cell? ⟨B + 1, 2, none⟩ = some (.slice b m d) := blk_cell kq 2
  have hlF : bF < w10.heap.size := blk_lt kF
  have cF0 : w10.cell? ⟨bF, 0, none⟩ = some (.int .i64 0) := blk_cell kF 0
  have cF1 : w10.cell? ⟨bF, 1, none⟩ = some (.int .i64 0) := blk_cell kF 1
  have cF2 : w10.cell? ⟨bF, 2, none⟩ = some (.slice none 0 0) := blk_cell kF 2
  go_wp2_with fail
  clear cp0 cp1 cp2 cq0 cq1 cq2 cF0 cF1 cF2 hlp hlq hlF
  refine (unhide HTe w10 (unhide HSe)).mono ?_
  rintro e w11 ⟨rfl, hbN⟩
  have hsz := hbN.size
  have kp := blk_below kp hbN (blk_lt kp)
  have kq := blk_below kq hbN (blk_lt kq)
  have kF := blk_below kF hbN (blk_lt kF)
  have HXp := hide ((unhide HXp).below hbN)
  have HXq := hide ((unhide HXq).below hbN)
  have HSe := hide ((unhide HSe).below hbN)
  have HB := hide ((unhide HB).trans (hbN.mono (by omega)))
  have hs : B + 2 ≤ w11.heap.size := by omega
  clear hbN hsz
  have hlp : B < w11.heap.size := blk_lt kp
  have cp0 : w11.cell? ⟨B, 0, none⟩ = some (.int .i64 (W : Int)) := blk_cell kp 0
  have cp1 : w11.cell? ⟨B, 1, none⟩ = some (.int .i64 (H : Int)) := blk_cell kp 1
  have cp2 : w11.cell? ⟨B, 2, none⟩ = some (.slice a n c) := blk_cell kp 2
  have hlq : B + 1 < w11.heap.size := blk_lt kq
  have cq0 : w11.cell? ⟨B + 1, 0, none⟩ = some (.int .i64 (QW : Int)) := blk_cell kq 0
  have cq1 : w11.cell? ⟨B + 1, 1, none⟩ = some (.int .i64 (QH : Int)) := blk_cell kq 1
  have cq2 : w11.cell? ⟨B + 1, 2, none⟩ = some (.slice b m d) := blk_cell kq 2
  have hlF : bF < w11.heap.size := blk_lt kF
  have cF0 : w11.cell? ⟨bF, 0, none⟩ = some (.int .i64 0) := blk_cell kF 0
  have cF1 : w11.cell? ⟨bF, 1, none⟩ = some (.int .i64 0) := blk_cell kF 1
  have cF2 : w11.cell? ⟨bF, 2, none⟩ = some (.slice none 0 0) := blk_cell kF 2
  go_wp2
  clear cp0 cp1 cp2 cq0 cq1 cq2 cF0 cF1 cF2 hlp hlq hlF
  go_ret
  exact ⟨rfl, by rw [← unhide HBE]; exact unhide HB⟩
set_option maxHeartbeats 4000000 in
set_option maxRecDepth 100000 in
theorem rasterStamps_bmo (W H : Nat) (a : Option Addr) (n c : Nat) (p : Nat → Px) (QW QH : Nat) (b : Option Addr) (m d : Nat) (s : Nat → Px) (X Y : Int) (mo : Int) (w : World) (A : Nat → Addr) (hS : Sent w A) (hP : IsPx w a n p) (hQ : IsPx w b m s) (hn3 : n ≤ 3000) (hm3 : m ≤ 3000) (hW0 : 1 ≤ W) (hW : W ≤ 256) (hH0 : 1 ≤ H) (hH : H ≤ 256) (hn : n = W * H) (hQW0 : 1 ≤ QW) (hQW : QW ≤ 256) (hQH0 : 1 ≤ QH) (hQH : QH ≤ 256) (hm : m = QW * QH) (n1 : Nr X) (n2 : Nr Y) (hmo : ¬ (0 ≤ mo ∧ mo ≤ 5)) :
    Calls Tryd.prog 5 #[.agg #[.int .i64 (W : Int), .int .i64 (H : Int), .slice a n c], .agg #[.int .i64 (QW : Int), .int .i64 (QH : Int), .slice b m d], .int .i64 X, .int .i64 Y, .int .i64 mo] w fun e w' => e = .returned (.bool true) ∧ Below w.heap.size w w' := by
  have HPL := hide plainly_any
  have HSM := hide (fun w => small_any (W : Int) (H : Int) a n c w)
  rw [decide_eq_true hn3] at HSM
  have HX := hide hP
  have HY := hide hQ
  have HS0 := hide hS
  have HSQ := hide (fun w => small_any (QW : Int) (QH : Int) b m d w)
  rw [decide_eq_true hm3] at HSQ
  have HO := hide (fun w (h : IsPx w a n p) => own_isPx (W : Int) (H : Int) a n c p w h (by omega))
  have HO2 := hide (fun w (h : IsPx w b m s) => own_isPx (QW : Int) (QH : Int) b m d s w h (by omega))
  have HRT := hide (fun w => pright_any (W : Int) (H : Int) a n c w)
  have HRQ := hide (fun w => pright_any (QW : Int) (QH : Int) b m d w)
  have HN1 := hide (fun w => nearP_any X w)
  rw [decide_eq_true n1] at HN1
  have HN2 := hide (fun w => nearP_any Y w)
  rw [decide_eq_true n2] at HN2
  have HMo := hide (fun w => isMode_any mo w)
  rw [decide_eq_false hmo] at HMo
  rw [decide_eq_true (rightN hW0 hW hH0 hH hn)] at HRT
  rw [decide_eq_true (rightN hQW0 hQW hQH0 hQH hm)] at HRQ
  have HF := hide (fun w a c b d (h : Sent w A) => stamp_mode W H QW QH X Y mo a b n c m d w A h hW0 hW hH0 hH hn hQW0 hQW hQH0 hQH hm (by omega) ⟨n1, n2⟩)
  unfold sentV at HF
  have HTe := hide (fun w (h : Sent w A) => told_err 1 2 (W : Int) (H : Int) a n c w A h (by omega) rfl)
  clear hn3 hP hQ hS hm3 hW0 hW hH0 hH hn hQW0 hQW hQH0 hQH hm n1 n2 hmo
  have HA := hide (al2 w (.cells #[.int .i64 (W : Int), .int .i64 (H : Int), .slice a n c] 26) (.cells #[.int .i64 (QW : Int), .int .i64 (QH : Int), .slice b m d] 26))
  obtain ⟨B, hB⟩ : ∃ B, B = w.heap.size := ⟨_, rfl⟩
  go_enter Tryd.func5, Tryd.ntmps5
  go_wp2_with fail
  generalize ((w.alloc (.cells #[.int .i64 (W : Int), .int .i64 (H : Int), .slice a n c] 26)).alloc (.cells #[.int .i64 (QW : Int), .int .i64 (QH : Int), .slice b m d] 26)) = w1 at *
  rw [← hB] at HA ⊢
  obtain ⟨hs1, kp, kq, hb1⟩ := unhide HA
  have HBE := hide hB
  clear HA hB
  have hs : B + 2 ≤ w1.heap.size := by omega
  have HB := hide hb1
  clear hs1 hb1
  have HXp := hide ((unhide HX).under (unhide HB) (fun x hx h0 => by rw [unhide HBE]; exact (unhide HX).lt x hx h0))
  have HXq := hide ((unhide HY).under (unhide HB) (fun x hx h0 => by rw [unhide HBE]; exact (unhide HY).lt x hx h0))
  have HSe := hide ((unhide HS0).below (by rw [← unhide HBE]; exact unhide HB))
  clear HX HY HS0
  refine (unhide HPL _).mono ?_
  rintro e w2 ⟨rfl, hbN⟩
  have hsz := hbN.size
  have kp := blk_below kp hbN (blk_lt kp)
  have kq := blk_below kq hbN (blk_lt kq)
  have HXp := hide ((unhide HXp).below hbN)
  have HXq := hide ((unhide HXq).below hbN)
  have HSe := hide ((unhide HSe).below hbN)
  have HB := hide ((unhide HB).trans (hbN.mono (by omega)))
  have hs : B + 2 ≤ w2.heap.size := by omega
  clear hbN hsz
  have hlp : B < w2.heap.size := blk_lt kp
  have cp0 : w2.cell? ⟨B, 0, none⟩ = some (.int .i64 (W : Int)) := blk_cell kp 0
  have cp1 : w2.cell? ⟨B, 1, none⟩ = some (.int .i64 (H : Int)) := blk_cell kp 1
  have cp2 : w2.cell? ⟨B, 2, none⟩ = some (.slice a n c) := blk_cell kp 2
  have hlq : B + 1 < w2.heap.size := blk_lt kq
  have cq0 : w2.cell? ⟨B + 1, 0, none⟩ = some (.int .i64 (QW : Int)) := blk_cell kq 0
  have cq1 : w2.cell? ⟨B + 1, 1, none⟩ = some (.int .i64 (QH : Int)) := blk_cell kq 1
  have cq2 : w2.cell? ⟨B + 1, 2, none⟩ = some (.slice b m d) := blk_cell kq 2
  go_wp2_with fail
  clear cp0 cp1 cp2 cq0 cq1 cq2 hlp hlq
  refine (unhide HSM _).mono ?_
  rintro e w3 ⟨rfl, hbN⟩
  have hsz := hbN.size
  have kp := blk_below kp hbN (blk_lt kp)
  have kq := blk_below kq hbN (blk_lt kq)
  have HXp := hide ((unhide HXp).below hbN)
  have HXq := hide ((unhide HXq).below hbN)
  have HSe := hide ((unhide HSe).below hbN)
  have HB := hide ((unhide HB).trans (hbN.mono (by omega)))
  have hs : B + 2 ≤ w3.heap.size := by omega
  clear hbN hsz
  have hlp : B < w3.heap.size := blk_lt kp
  have cp0 : w3.cell? ⟨B, 0, none⟩ = some (.int .i64 (W : Int)) := blk_cell kp 0
  have cp1 : w3.cell? ⟨B, 1, none⟩ = some (.int .i64 (H : Int)) := blk_cell kp 1
  have cp2 : w3.cell? ⟨B, 2, none⟩ = some (.slice a n c) := blk_cell kp 2
  have hlq : B + 1 < w3.heap.size := blk_lt kq
  have cq0 : w3.cell? ⟨B + 1, 0, none⟩ = some (.int .i64 (QW : Int)) := blk_cell kq 0
  have cq1 : w3.cell? ⟨B + 1, 1, none⟩ = some (.int .i64 (QH : Int)) := blk_cell kq 1
  have cq2 : w3.cell? ⟨B + 1, 2, none⟩ = some (.slice b m d) := blk_cell kq 2
  go_wp2_with fail
  clear cp0 cp1 cp2 cq0 cq1 cq2 hlp hlq
  refine (unhide HSQ _).mono ?_
  rintro e w4 ⟨rfl, hbN⟩
  have hsz := hbN.size
  have kp := blk_below kp hbN (blk_lt kp)
  have kq := blk_below kq hbN (blk_lt kq)
  have HXp := hide ((unhide HXp).below hbN)
  have HXq := hide ((unhide HXq).below hbN)
  have HSe := hide ((unhide HSe).below hbN)
  have HB := hide ((unhide HB).trans (hbN.mono (by omega)))
  have hs : B + 2 ≤ w4.heap.size := by omega
  clear hbN hsz
  have hlp : B < w4.heap.size := blk_lt kp
  have cp0 : w4.cell? ⟨B, 0, none⟩ = some (.int .i64 (W : Int)) := blk_cell kp 0
  have cp1 : w4.cell? ⟨B, 1, none⟩ = some (.int .i64 (H : Int)) := blk_cell kp 1
  have cp2 : w4.cell? ⟨B, 2, none⟩ = some (.slice a n c) := blk_cell kp 2
  have hlq : B + 1 < w4.heap.size := blk_lt kq
  have cq0 : w4.cell? ⟨B + 1, 0, none⟩ = some (.int .i64 (QW : Int)) := blk_cell kq 0
  have cq1 : w4.cell? ⟨B + 1, 1, none⟩ = some (.int .i64 (QH : Int)) := blk_cell kq 1
  have cq2 : w4.cell? ⟨B + 1, 2, none⟩ = some (.slice b m d) := blk_cell kq 2
  go_wp2
  clear cp0 cp1 cp2 cq0 cq1 cq2 hlp hlq
  apply once2 (fun wf bf ao co bo eo => w4.heap.size ≤ bf ∧ wf.heap[bf]? = some (.cells #[.int .i64 0, .int .i64 0, .slice none 0 0] 26) ∧ Below w4.heap.size w4 wf)
  · intro hrest
    have hlp : B < w4.heap.size := blk_lt kp
    have cp0 : w4.cell? ⟨B, 0, none⟩ = some (.int .i64 (W : Int)) := blk_cell kp 0
    have cp1 : w4.cell? ⟨B, 1, none⟩ = some (.int .i64 (H : Int)) := blk_cell kp 1
    have cp2 : w4.cell? ⟨B, 2, none⟩ = some (.slice a n c) := blk_cell kp 2
    have hlq : B + 1 < w4.heap.size := blk_lt kq
    have cq0 : w4.cell? ⟨B + 1, 0, none⟩ = some (.int .i64 (QW : Int)) := blk_cell kq 0
    have cq1 : w4.cell? ⟨B + 1, 1, none⟩ = some (.int .i64 (QH : Int)) := blk_cell kq 1
    have cq2 : w4.cell? ⟨B + 1, 2, none⟩ = some (.slice b m d) := blk_cell kq 2
    have hKS := hide (fun wx (h : Below w4.heap.size w4 wx) => (⟨bcell h hlp cp0, bcell h hlp cp1, bcell h hlp cp2, bcell h hlq cq0, bcell h hlq cq1, bcell h hlq cq2⟩ : wx.cell? ⟨B, 0, none⟩ = some (.int .i64 (W : Int)) ∧ wx.cell? ⟨B, 1, none⟩ = some (.int .i64 (H : Int)) ∧ wx.cell? ⟨B, 2, none⟩ = some (.slice a n c) ∧ wx.cell? ⟨B + 1, 0, none⟩ = some (.int .i64 (QW : Int)) ∧ wx.cell? ⟨B + 1, 1, none⟩ = some (.int .i64 (QH : Int)) ∧ wx.cell? ⟨B + 1, 2, none⟩ = some (.slice b m d)))
    have hdr := (Below.refl w4.heap.size w4).drew
    go_region_held (fun w' => w'.cell? ⟨B, 0, none⟩ = some (.int .i64 (W : Int)) ∧ w'.cell? ⟨B, 1, none⟩ = some (.int .i64 (H : Int)) ∧ w'.cell? ⟨B, 2, none⟩ = some (.slice a n c) ∧ w'.cell? ⟨B + 1, 0, none⟩ = some (.int .i64 (QW : Int)) ∧ w'.cell? ⟨B + 1, 1, none⟩ = some (.int .i64 (QH : Int)) ∧ w'.cell? ⟨B + 1, 2, none⟩ = some (.slice b m d)) (exact unhide hKS _ (by (first | with_reducible exact hqw7 | with_reducible exact hqw6 | with_reducible exact hqw5 | with_reducible exact hdr | with_reducible exact hqw7.alloc hqw7.size _ | with_reducible exact hqw6.alloc hqw6.size _ | with_reducible exact hqw5.alloc hqw5.size _ | with_reducible exact ((Below.refl _ _).alloc (Nat.le_refl _) _).drew | with_reducible exact set3_below hqw7 (Nat.le_refl _) _ _ _ | with_reducible exact set3_below hqw7 hqw6.size _ _ _ | with_reducible exact set3_below hqw7 hqw5.size _ _ _ | with_reducible exact set3_below (hqw7.alloc hqw7.size _) hqw7.size _ _ _ | exact hqw7.alloc hqw7.size _))) (first | (go_at_call_of 16 a; refine (unhide HO _ ((unhide HXp).below (by (first | with_reducible exact hqw7 | with_reducible exact hqw6 | with_reducible exact hqw5 | with_reducible exact hdr | with_reducible exact hqw7.alloc hqw7.size _ | with_reducible exact hqw6.alloc hqw6.size _ | with_reducible exact hqw5.alloc hqw5.size _ | with_reducible exact ((Below.refl _ _).alloc (Nat.le_refl _) _).drew | with_reducible exact set3_below hqw7 (Nat.le_refl _) _ _ _ | with_reducible exact set3_below hqw7 hqw6.size _ _ _ | with_reducible exact set3_below hqw7 hqw5.size _ _ _ | with_reducible exact set3_below (hqw7.alloc hqw7.size _) hqw7.size _ _ _ | exact hqw7.alloc hqw7.size _)))).mono ?_; rintro e w5 ⟨ao, co, rfl, hpo, hbw5⟩; have hqw5 := bel_trans (w := w4) (by (first | with_reducible exact hqw7 | with_reducible exact hqw6 | with_reducible exact hqw5 | with_reducible exact hdr | with_reducible exact hqw7.alloc hqw7.size _ | with_reducible exact hqw6.alloc hqw6.size _ | with_reducible exact hqw5.alloc hqw5.size _ | with_reducible exact ((Below.refl _ _).alloc (Nat.le_refl _) _).drew | with_reducible exact set3_below hqw7 (Nat.le_refl _) _ _ _ | with_reducible exact set3_below hqw7 hqw6.size _ _ _ | with_reducible exact set3_below hqw7 hqw5.size _ _ _ | with_reducible exact set3_below (hqw7.alloc hqw7.size _) hqw7.size _ _ _ | exact hqw7.alloc hqw7.size _)) hbw5; (try (have kzw5 : w5.heap[w4.heap.size]? = some (.cells #[.int .i64 0, .int .i64 0, .slice none 0 0] 26) := blk_below (show ((w4.alloc (.cells #[.int .i64 0, .int .i64 0, .slice none 0 0] 26)).drew).heap[w4.heap.size]? = some (.cells #[.int .i64 0, .int .i64 0, .slice none 0 0] 26) from heap_alloc_new w4 _) hbw5 (by show _ < (w4.alloc _).heap.size; simp))); (try (have kzw5 := blk_below kzw6 hbw5 (blk_lt kzw6))); (try (have kzw5 : w5.heap[w6.heap.size]? = some (.cells #[.int .i64 0, .int .i64 0, .slice none 0 0] 26) := blk_below (heap_alloc_new w6 _) hbw5 (by simp))); (try (have zw50 : w5.cell? ⟨_, 0, none⟩ = some (.int .i64 0) := blk_cell kzw5 0)); (try (have zfw50 := blk_frozen kzw5 0)); (try (have zw51 : w5.cell? ⟨_, 1, none⟩ = some (.int .i64 0) := blk_cell kzw5 1)); (try (have zfw51 := blk_frozen kzw5 1)); (try (have zw52 : w5.cell? ⟨_, 2, none⟩ = some (.slice none 0 0) := blk_cell kzw5 2)); (try (have zfw52 := blk_frozen kzw5 2))) | (go_at_call_of 16 b; refine (unhide HO2 _ ((unhide HXq).below (by (first | with_reducible exact hqw7 | with_reducible exact hqw6 | with_reducible exact hqw5 | with_reducible exact hdr | with_reducible exact hqw7.alloc hqw7.size _ | with_reducible exact hqw6.alloc hqw6.size _ | with_reducible exact hqw5.alloc hqw5.size _ | with_reducible exact ((Below.refl _ _).alloc (Nat.le_refl _) _).drew | with_reducible exact set3_below hqw7 (Nat.le_refl _) _ _ _ | with_reducible exact set3_below hqw7 hqw6.size _ _ _ | with_reducible exact set3_below hqw7 hqw5.size _ _ _ | with_reducible exact set3_below (hqw7.alloc hqw7.size _) hqw7.size _ _ _ | exact hqw7.alloc hqw7.size _)))).mono ?_; rintro e w6 ⟨bo, eo, rfl, hpo2, hbw6⟩; have hqw6 := bel_trans (w := w4) (by (first | with_reducible exact hqw7 | with_reducible exact hqw6 | with_reducible exact hqw5 | with_reducible exact hdr | with_reducible exact hqw7.alloc hqw7.size _ | with_reducible exact hqw6.alloc hqw6.size _ | with_reducible exact hqw5.alloc hqw5.size _ | with_reducible exact ((Below.refl _ _).alloc (Nat.le_refl _) _).drew | with_reducible exact set3_below hqw7 (Nat.le_refl _) _ _ _ | with_reducible exact set3_below hqw7 hqw6.size _ _ _ | with_reducible exact set3_below hqw7 hqw5.size _ _ _ | with_reducible exact set3_below (hqw7.alloc hqw7.size _) hqw7.size _ _ _ | exact hqw7.alloc hqw7.size _)) hbw6; (try (have kzw6 : w6.heap[w4.heap.size]? = some (.cells #[.int .i64 0, .int .i64 0, .slice none 0 0] 26) := blk_below (show ((w4.alloc (.cells #[.int .i64 0, .int .i64 0, .slice none 0 0] 26)).drew).heap[w4.heap.size]? = some (.cells #[.int .i64 0, .int .i64 0, .slice none 0 0] 26) from heap_alloc_new w4 _) hbw6 (by show _ < (w4.alloc _).heap.size; simp))); (try (have kzw6 := blk_below kzw5 hbw6 (blk_lt kzw5))); (try (have kzw6 : w6.heap[w5.heap.size]? = some (.cells #[.int .i64 0, .int .i64 0, .slice none 0 0] 26) := blk_below (heap_alloc_new w5 _) hbw6 (by simp))); (try (have zw60 : w6.cell? ⟨_, 0, none⟩ = some (.int .i64 0) := blk_cell kzw6 0)); (try (have zfw60 := blk_frozen kzw6 0)); (try (have zw61 : w6.cell? ⟨_, 1, none⟩ = some (.int .i64 0) := blk_cell kzw6 1)); (try (have zfw61 := blk_frozen kzw6 1)); (try (have zw62 : w6.cell? ⟨_, 2, none⟩ = some (.slice none 0 0) := blk_cell kzw6 2)); (try (have zfw62 := blk_frozen kzw6 2))) | (go_at_call 26; refine (unhide HF _ _ _ _ _ ((unhide HSe).below (by (first | with_reducible exact hqw7 | with_reducible exact hqw6 | with_reducible exact hqw5 | with_reducible exact hdr | with_reducible exact hqw7.alloc hqw7.size _ | with_reducible exact hqw6.alloc hqw6.size _ | with_reducible exact hqw5.alloc hqw5.size _ | with_reducible exact ((Below.refl _ _).alloc (Nat.le_refl _) _).drew | with_reducible exact set3_below hqw7 (Nat.le_refl _) _ _ _ | with_reducible exact set3_below hqw7 hqw6.size _ _ _ | with_reducible exact set3_below hqw7 hqw5.size _ _ _ | with_reducible exact set3_below (hqw7.alloc hqw7.size _) hqw7.size _ _ _ | exact hqw7.alloc hqw7.size _)))).mono ?_; rintro e w7 ⟨rfl, hbw7⟩; have hqw7 := bel_trans (w := w4) (by (first | with_reducible exact hqw7 | with_reducible exact hqw6 | with_reducible exact hqw5 | with_reducible exact hdr | with_reducible exact hqw7.alloc hqw7.size _ | with_reducible exact hqw6.alloc hqw6.size _ | with_reducible exact hqw5.alloc hqw5.size _ | with_reducible exact ((Below.refl _ _).alloc (Nat.le_refl _) _).drew | with_reducible exact set3_below hqw7 (Nat.le_refl _) _ _ _ | with_reducible exact set3_below hqw7 hqw6.size _ _ _ | with_reducible exact set3_below hqw7 hqw5.size _ _ _ | with_reducible exact set3_below (hqw7.alloc hqw7.size _) hqw7.size _ _ _ | exact hqw7.alloc hqw7.size _)) hbw7; (try (have kzw7 : w7.heap[w4.heap.size]? = some (.cells #[.int .i64 0, .int .i64 0, .slice none 0 0] 26) := blk_below (show ((w4.alloc (.cells #[.int .i64 0, .int .i64 0, .slice none 0 0] 26)).drew).heap[w4.heap.size]? = some (.cells #[.int .i64 0, .int .i64 0, .slice none 0 0] 26) from heap_alloc_new w4 _) hbw7 (by show _ < (w4.alloc _).heap.size; simp))); (try (have kzw7 := blk_below kzw5 hbw7 (blk_lt kzw5))); (try (have kzw7 : w7.heap[w5.heap.size]? = some (.cells #[.int .i64 0, .int .i64 0, .slice none 0 0] 26) := blk_below (heap_alloc_new w5 _) hbw7 (by simp))); (try (have kzw7 := blk_below kzw6 hbw7 (blk_lt kzw6))); (try (have kzw7 : w7.heap[w6.heap.size]? = some (.cells #[.int .i64 0, .int .i64 0, .slice none 0 0] 26) := blk_below (heap_alloc_new w6 _) hbw7 (by simp))); (try (have zw70 : w7.cell? ⟨_, 0, none⟩ = some (.int .i64 0) := blk_cell kzw7 0)); (try (have zfw70 := blk_frozen kzw7 0)); (try (have zw71 : w7.cell? ⟨_, 1, none⟩ = some (.int .i64 0) := blk_cell kzw7 1)); (try (have zfw71 := blk_frozen kzw7 1)); (try (have zw72 : w7.cell? ⟨_, 2, none⟩ = some (.slice none 0 0) := blk_cell kzw7 2)); (try (have zfw72 := blk_frozen kzw7 2))))
    all_goals
      first
      | (have hfin := fin3 (w := w4) kzw7 hqw7 (Nat.le_refl _) (.int .i64 0) (.int .i64 0) (.slice none 0 0); have hA := hfin.blk; have hB := hfin.below; clear hfin; generalize ((w7.setCell ⟨w4.heap.size, 0, none⟩ (.int .i64 0)).setCell ⟨w4.heap.size, 1, none⟩ (.int .i64 0)).setCell ⟨w4.heap.size, 2, none⟩ (.slice none 0 0) = wf at *; obtain ⟨bf, hbf⟩ : ∃ b, b = w4.heap.size := ⟨_, rfl⟩; have hge : w4.heap.size ≤ bf := Nat.le_trans (Nat.le_refl _) (Nat.le_of_eq hbf.symm); rw [← hbf] at hA ⊢; exact hrest wf bf ao co bo eo ⟨hge, hA, hB⟩)
      | (have hfin := fin3 (w := w4) kzw7 hqw7 (hqw5.size) (.int .i64 0) (.int .i64 0) (.slice none 0 0); have hA := hfin.blk; have hB := hfin.below; clear hfin; generalize ((w7.setCell ⟨w5.heap.size, 0, none⟩ (.int .i64 0)).setCell ⟨w5.heap.size, 1, none⟩ (.int .i64 0)).setCell ⟨w5.heap.size, 2, none⟩ (.slice none 0 0) = wf at *; obtain ⟨bf, hbf⟩ : ∃ b, b = w5.heap.size := ⟨_, rfl⟩; have hge : w4.heap.size ≤ bf := Nat.le_trans (hqw5.size) (Nat.le_of_eq hbf.symm); rw [← hbf] at hA ⊢; exact hrest wf bf ao co bo eo ⟨hge, hA, hB⟩)
      | (have hfin := fin3 (w := w4) kzw7 hqw7 (hqw6.size) (.int .i64 0) (.int .i64 0) (.slice none 0 0); have hA := hfin.blk; have hB := hfin.below; clear hfin; generalize ((w7.setCell ⟨w6.heap.size, 0, none⟩ (.int .i64 0)).setCell ⟨w6.heap.size, 1, none⟩ (.int .i64 0)).setCell ⟨w6.heap.size, 2, none⟩ (.slice none 0 0) = wf at *; obtain ⟨bf, hbf⟩ : ∃ b, b = w6.heap.size := ⟨_, rfl⟩; have hge : w4.heap.size ≤ bf := Nat.le_trans (hqw6.size) (Nat.le_of_eq hbf.symm); rw [← hbf] at hA ⊢; exact hrest wf bf ao co bo eo ⟨hge, hA, hB⟩)
      | (have hA := heap_alloc_new w7 (.cells #[.int .i64 0, .int .i64 0, .slice none 0 0] 26); have hB := hqw7.alloc hqw7.size (.cells #[.int .i64 0, .int .i64 0, .slice none 0 0] 26); generalize w7.alloc (.cells #[.int .i64 0, .int .i64 0, .slice none 0 0] 26) = wf at *; obtain ⟨bf, hbf⟩ : ∃ b, b = w7.heap.size := ⟨_, rfl⟩; have hge : w4.heap.size ≤ bf := Nat.le_trans hqw7.size (Nat.le_of_eq hbf.symm); rw [← hbf] at hA ⊢; exact hrest wf bf ao co bo eo ⟨hge, hA, hB⟩)
  rintro w8 bF ao co bo eo ⟨hge, kF, hbN⟩
  clear hge
  have hsz := hbN.size
  have kp := blk_below kp hbN (blk_lt kp)
  have kq := blk_below kq hbN (blk_lt kq)
  have HXp := hide ((unhide HXp).below hbN)
  have HXq := hide ((unhide HXq).below hbN)
  have HSe := hide ((unhide HSe).below hbN)
  have HB := hide ((unhide HB).trans (hbN.mono (by omega)))
  have hs : B + 2 ≤ w8.heap.size := by omega
  clear hbN hsz
  have hlp : B < w8.heap.size := blk_lt kp
  have cp0 : w8.cell? ⟨B, 0, none⟩ = some (.int .i64 (W : Int)) := blk_cell kp 0
  have cp1 : w8.cell? ⟨B, 1, none⟩ = some (.int .i64 (H : Int)) := blk_cell kp 1
  have cp2 : w8.cell? ⟨B, 2, none⟩ = some (.slice a n c) := blk_cell kp 2
  have hlq : B + 1 < w8.heap.size := blk_lt kq
  have cq0 : w8.cell? ⟨B + 1, 0, none⟩ = some (.int .i64 (QW : Int)) := blk_cell kq 0
  have cq1 : w8.cell? ⟨B + 1, 1, none⟩ = some (.int .i64 (QH : Int)) := blk_cell kq 1
  have cq2 : w8.cell? ⟨B + 1, 2, none⟩ = some (.slice b m d) := blk_cell kq 2
  have hlF : bF < w8.heap.size := blk_lt kF
  have cF0 : w8.cell? ⟨bF, 0, none⟩ = some (.int .i64 0) := blk_cell kF 0
  have cF1 : w8.cell? ⟨bF, 1, none⟩ = some (.int .i64 0) := blk_cell kF 1
  have cF2 : w8.cell? ⟨bF, 2, none⟩ = some (.slice none 0 0) := blk_cell kF 2
  go_wp2_with fail
  clear cp0 cp1 cp2 cq0 cq1 cq2 cF0 cF1 cF2 hlp hlq hlF
  refine (unhide HN1 _).mono ?_
  rintro e w8 ⟨rfl, rfl⟩
  have hlp : B < w8.heap.size := blk_lt kp
  have cp0 : w8.cell? ⟨B, 0, none⟩ = some (.int .i64 (W : Int)) := blk_cell kp 0
  have cp1 : w8.cell? ⟨B, 1, none⟩ = some (.int .i64 (H : Int)) := blk_cell kp 1
  have cp2 : w8.cell? ⟨B, 2, none⟩ = some (.slice a n c) := blk_cell kp 2
  have hlq : B + 1 < w8.heap.size := blk_lt kq
  have cq0 : w8.cell? ⟨B + 1, 0, none⟩ = some (.int .i64 (QW : Int)) := blk_cell kq 0
  have cq1 : w8.cell? ⟨B + 1, 1, none⟩ = some (.int .i64 (QH : Int)) := blk_cell kq 1
  have cq2 : w8.cell? ⟨B + 1, 2, none⟩ = some (.slice b m d) := blk_cell kq 2
  have hlF : bF < w8.heap.size := blk_lt kF
  have cF0 : w8.cell? ⟨bF, 0, none⟩ = some (.int .i64 0) := blk_cell kF 0
  have cF1 : w8.cell? ⟨bF, 1, none⟩ = some (.int .i64 0) := blk_cell kF 1
  have cF2 : w8.cell? ⟨bF, 2, none⟩ = some (.slice none 0 0) := blk_cell kF 2
  go_wp2_with fail
  clear cp0 cp1 cp2 cq0 cq1 cq2 cF0 cF1 cF2 hlp hlq hlF
  refine (unhide HN2 _).mono ?_
  rintro e w8 ⟨rfl, rfl⟩
  have hlp : B < w8.heap.size := blk_lt kp
  have cp0 : w8.cell? ⟨B, 0, none⟩ = some (.int .i64 (W : Int)) := blk_cell kp 0
  have cp1 : w8.cell? ⟨B, 1, none⟩ = some (.int .i64 (H : Int)) := blk_cell kp 1
  have cp2 : w8.cell? ⟨B, 2, none⟩ = some (.slice a n c) := blk_cell kp 2
  have hlq : B + 1 < w8.heap.size := blk_lt kq
  have cq0 : w8.cell? ⟨B + 1, 0, none⟩ = some (.int .i64 (QW : Int)) := blk_cell kq 0
  have cq1 : w8.cell? ⟨B + 1, 1, none⟩ = some (.int .i64 (QH : Int)) := blk_cell kq 1
  have cq2 : w8.cell? ⟨B + 1, 2, none⟩ = some (.slice b m d) := blk_cell kq 2
  have hlF : bF < w8.heap.size := blk_lt kF
  have cF0 : w8.cell? ⟨bF, 0, none⟩ = some (.int .i64 0) := blk_cell kF 0
  have cF1 : w8.cell? ⟨bF, 1, none⟩ = some (.int .i64 0) := blk_cell kF 1
  have cF2 : w8.cell? ⟨bF, 2, none⟩ = some (.slice none 0 0) := blk_cell kF 2
  go_wp2_with fail
  clear cp0 cp1 cp2 cq0 cq1 cq2 cF0 cF1 cF2 hlp hlq hlF
  refine (unhide HMo _).mono ?_
  rintro e w8 ⟨rfl, rfl⟩
  have hlp : B < w8.heap.size := blk_lt kp
  have cp0 : w8.cell? ⟨B, 0, none⟩ = some (.int .i64 (W : Int)) := blk_cell kp 0
  have cp1 : w8.cell? ⟨B, 1, none⟩ = some (.int .i64 (H : Int)) := blk_cell kp 1
  have cp2 : w8.cell? ⟨B, 2, none⟩ = some (.slice a n c) := blk_cell kp 2
  have hlq : B + 1 < w8.heap.size := blk_lt kq
  have cq0 : w8.cell? ⟨B + 1, 0, none⟩ = some (.int .i64 (QW : Int)) := blk_cell kq 0
  have cq1 : w8.cell? ⟨B + 1, 1, none⟩ = some (.int .i64 (QH : Int)) := blk_cell kq 1
  have cq2 : w8.cell? ⟨B + 1, 2, none⟩ = some (.slice b m d) := blk_cell kq 2
  have hlF : bF < w8.heap.size := blk_lt kF
  have cF0 : w8.cell? ⟨bF, 0, none⟩ = some (.int .i64 0) := blk_cell kF 0
  have cF1 : w8.cell? ⟨bF, 1, none⟩ = some (.int .i64 0) := blk_cell kF 1
  have cF2 : w8.cell? ⟨bF, 2, none⟩ = some (.slice none 0 0) := blk_cell kF 2
  go_wp2_with fail
  clear cp0 cp1 cp2 cq0 cq1 cq2 cF0 cF1 cF2 hlp hlq hlF
  refine (unhide HRT _).mono ?_
  rintro e w9 ⟨rfl, hbN⟩
  have hsz := hbN.size
  have kp := blk_below kp hbN (blk_lt kp)
  have kq := blk_below kq hbN (blk_lt kq)
  have kF := blk_below kF hbN (blk_lt kF)
  have HXp := hide ((unhide HXp).below hbN)
  have HXq := hide ((unhide HXq).below hbN)
  have HSe := hide ((unhide HSe).below hbN)
  have HB := hide ((unhide HB).trans (hbN.mono (by omega)))
  have hs : B + 2 ≤ w9.heap.size := by omega
  clear hbN hsz
  have hlp : B < w9.heap.size := blk_lt kp
  have cp0 : w9.cell? ⟨B, 0, none⟩ = some (.int .i64 (W : Int)) := blk_cell kp 0
  have cp1 : w9.cell? ⟨B, 1, none⟩ = some (.int .i64 (H : Int)) := blk_cell kp 1
  have cp2 : w9.cell? ⟨B, 2, none⟩ = some (.slice a n c) := blk_cell kp 2
  have hlq : B + 1 < w9.heap.size := blk_lt kq
  have cq0 : w9.cell? ⟨B + 1, 0, none⟩ = some (.int .i64 (QW : Int)) := blk_cell kq 0
  have cq1 : w9.cell? ⟨B + 1, 1, none⟩ = some (.int .i64 (QH : Int)) := blk_cell kq 1
  have cq2 : w9.cell? ⟨B + 1, 2, none⟩ = some (.slice b m d) := blk_cell kq 2
  have hlF : bF < w9.heap.size := blk_lt kF
  have cF0 : w9.cell? ⟨bF, 0, none⟩ = some (.int .i64 0) := blk_cell kF 0
  have cF1 : w9.cell? ⟨bF, 1, none⟩ = some (.int .i64 0) := blk_cell kF 1
  have cF2 : w9.cell? ⟨bF, 2, none⟩ = some (.slice none 0 0) := blk_cell kF 2
  go_wp2_with fail
  clear cp0 cp1 cp2 cq0 cq1 cq2 cF0 cF1 cF2 hlp hlq hlF
  refine (unhide HRQ _).mono ?_
  rintro e w10 ⟨rfl, hbN⟩
  have hsz := hbN.size
  have kp := blk_below kp hbN (blk_lt kp)
  have kq := blk_below kq hbN (blk_lt kq)
  have kF := blk_below kF hbN (blk_lt kF)
  have HXp := hide ((unhide HXp).below hbN)
  have HXq := hide ((unhide HXq).below hbN)
  have HSe := hide ((unhide HSe).below hbN)
  have HB := hide ((unhide HB).trans (hbN.mono (by omega)))
  have hs : B + 2 ≤ w10.heap.size := by omega
  clear hbN hsz
  have hlp : B < w10.heap.size := blk_lt kp
  have cp0 : w10.cell? ⟨B, 0, none⟩ = some (.int .i64 (W : Int)) := blk_cell kp 0
  have cp1 : w10.cell? ⟨B, 1, none⟩ = some (.int .i64 (H : Int)) := blk_cell kp 1
  have cp2 : w10.cell? ⟨B, 2, none⟩ = some (.slice a n c) := blk_cell kp 2
  have hlq : B + 1 < w10.heap.size := blk_lt kq
  have cq0 : w10.cell? ⟨B + 1, 0, none⟩ = some (.int .i64 (QW : Int)) := blk_cell kq 0
  have cq1 : w10.cell? ⟨B + 1, 1, none⟩ = some (.int .i64 (QH : Int)) := blk_cell kq 1
  have cq2 : w10.cell? ⟨B + 1, 2, none⟩ = some (.slice b m d) := blk_cell kq 2
  have hlF : bF < w10.heap.size := blk_lt kF
  have cF0 : w10.cell? ⟨bF, 0, none⟩ = some (.int .i64 0) := blk_cell kF 0
  have cF1 : w10.cell? ⟨bF, 1, none⟩ = some (.int .i64 0) := blk_cell kF 1
  have cF2 : w10.cell? ⟨bF, 2, none⟩ = some (.slice none 0 0) := blk_cell kF 2
  go_wp2_with fail
  clear cp0 cp1 cp2 cq0 cq1 cq2 cF0 cF1 cF2 hlp hlq hlF
  refine (unhide HTe w10 (unhide HSe)).mono ?_
  rintro e w11 ⟨rfl, hbN⟩
  have hsz := hbN.size
  have kp := blk_below kp hbN (blk_lt kp)
  have kq := blk_below kq hbN (blk_lt kq)
  have kF := blk_below kF hbN (blk_lt kF)
  have HXp := hide ((unhide HXp).below hbN)
  have HXq := hide ((unhide HXq).below hbN)
  have HSe := hide ((unhide HSe).below hbN)
  have HB := hide ((unhide HB).trans (hbN.mono (by omega)))
  have hs : B + 2 ≤ w11.heap.size := by omega
  clear hbN hsz
  have hlp : B < w11.heap.size := blk_lt kp
  have cp0 : w11.cell? ⟨B, 0, none⟩ = some (.int .i64 (W : Int)) := blk_cell kp 0
  have cp1 : w11.cell? ⟨B, 1, none⟩ = some (.int .i64 (H : Int)) := blk_cell kp 1
  have cp2 : w11.cell? ⟨B, 2, none⟩ = some (.slice a n c) := blk_cell kp 2
  have hlq : B + 1 < w11.heap.size := blk_lt kq
  have cq0 : w11.cell? ⟨B + 1, 0, none⟩ = some (.int .i64 (QW : Int)) := blk_cell kq 0
  have cq1 : w11.cell? ⟨B + 1, 1, none⟩ = some (.int .i64 (QH : Int)) := blk_cell kq 1
  have cq2 : w11.cell? ⟨B + 1, 2, none⟩ = some (.slice b m d) := blk_cell kq 2
  have hlF : bF < w11.heap.size := blk_lt kF
  have cF0 : w11.cell? ⟨bF, 0, none⟩ = some (.int .i64 0) := blk_cell kF 0
  have cF1 : w11.cell? ⟨bF, 1, none⟩ = some (.int .i64 0) := blk_cell kF 1
  have cF2 : w11.cell? ⟨bF, 2, none⟩ = some (.slice none 0 0) := blk_cell kF 2
  go_wp2
  clear cp0 cp1 cp2 cq0 cq1 cq2 cF0 cF1 cF2 hlp hlq hlF
  go_ret
  exact ⟨rfl, by rw [← unhide HBE]; exact unhide HB⟩
end Go.Proofs.YtjhnneplknhmkahDoor
