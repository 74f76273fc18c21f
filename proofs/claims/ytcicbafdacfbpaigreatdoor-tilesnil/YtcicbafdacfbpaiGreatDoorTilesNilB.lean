/- The statement on grids that are nil: the walk, way by way. Written by gentn.py. -/
import Derived.Test.YtcicbafdacfbpaiGreatDoorMg11
namespace Go.Proofs.YtcicbafdacfbpaiGreatDoor
open Go.RowKit

set_option maxHeartbeats 4000000 in
set_option maxRecDepth 100000 in
theorem tilesNil_other (W H : Nat) (a : Option Addr) (n c : Nat) (p : Nat → Px) (V U : Nat) (b : Option Addr) (m d : Nat) (s : Nat → Px) (w : World) (A : Nat → Addr) (hS : Sent w A) (hP : IsPx w a n p) (hQ : IsPx w b m s) (hn3 : n ≤ 3000) (hm3 : m ≤ 3000) (hW0 : 1 ≤ W) (hW : W ≤ 256) (hH0 : 1 ≤ H) (hH : H ≤ 256) (hn : n = W * H) (hV0 : 1 ≤ V) (hV : V ≤ 256) (hU0 : 1 ≤ U) (hU : U ≤ 256) (hm : m = V * U) (hne : ¬ (W = V ∧ H = U)) :
    Calls Tryz.prog 6 #[.agg #[.int .i64 (W : Int), .int .i64 (H : Int), .slice a n c], .agg #[.int .i64 (V : Int), .int .i64 (U : Int), .slice b m d]] w fun e w' => e = .returned (.bool true) ∧ Below w.heap.size w w' := by
  have HOn := hide one3_any
  have HSM := hide (fun w => small3_any (W : Int) (H : Int) a n c w)
  rw [decide_eq_true hn3] at HSM
  have HX := hide hP
  have HY := hide hQ
  have HS0 := hide hS
  have HSQ := hide (fun w => small3_any (V : Int) (U : Int) b m d w)
  rw [decide_eq_true hm3] at HSQ
  have HO := hide (fun w (h : IsPx w a n p) => ownC_any (W : Int) (H : Int) a n c p w h (by omega))
  have HO2 := hide (fun w (h : IsPx w b m s) => ownC_any (V : Int) (U : Int) b m d s w h (by omega))
  have HF := hide (fun w a c (h : IsPxC w a n c p) => ofP_any W H a n c p w h hW0 hW hH0 hH hn)
  have HF2 := hide (fun w a c (h : IsPxC w a m c s) => ofP_any V U a m c s w h hV0 hV hU0 hU hm)
  have HTF := hide (fun w (h : Sent w A) => tfill_nil 0 0 0 0 px0 w _ _ (h.cell 2 (by omega)))
  rw [show px0.val = .agg #[.int .u8 0, .int .u8 0, .int .u8 0, .int .u8 0] from rfl] at HTF
  have HTS := hide (fun w a c (h : Sent w A) => tstamp_nil (W : Int) (H : Int) a n c 0 0 0 w _ _ (h.cell 2 (by omega)))
  have HTA := hide (fun w (h : Sent w A) => at_nil 0 0 w _ _ (h.cell 2 (by omega)))
  have HTZ := hide size_nil
  have HTP := hide plain_nil
  have HPk := hide pack_nil
  have HPi := hide picture_nil
  have HCN := hide (fun w g (hg : GridOf w g W H p) (h : Sent w A) => changed_nil g W H _ _ w hg (grid_pos hW0 hH0) _ _ (h.cell 2 (by omega)))
  have HCo := hide (fun w (h : Sent w A) => coded3_sent 2 3 w A h (by omega) rfl)
  have HSP := hide (fun w => samePicture_any 0 0 none none 0 0 0 (fun _ => px0) w (.inl rfl) (.inl rfl) (by omega))
  have HCh := hide (fun w g h (hg : GridOf w g W H p) (hh : GridOf w h V U s) (hs : Sent w A) => changed_other g h W H V U _ _ _ _ w hg hh (grid_pos hW0 hH0) (grid_pos hV0 hU0) hne _ _ (hs.cell 2 (by omega)))
  have hdW : ¬ ((W : Int) = (V : Int) ∧ (H : Int) = (U : Int)) := fun e => hne (by omega)
  have hdd : ¬ (W : Int) = (V : Int) ∨ ((W : Int) = (V : Int) ∧ ¬ (H : Int) = (U : Int)) := by omega
  clear hn3 hP hQ hS hm3 hne hdW hV0 hV hU0 hU hm hW0 hW hH0 hH hn
  have HA := hide (al2 w (.cells #[.int .i64 (W : Int), .int .i64 (H : Int), .slice a n c] 24) (.cells #[.int .i64 (V : Int), .int .i64 (U : Int), .slice b m d] 24))
  obtain ⟨B, hB⟩ : ∃ B, B = w.heap.size := ⟨_, rfl⟩
  go_enter Tryz.func6, Tryz.ntmps6
  go_wp2_with fail
  generalize ((w.alloc (.cells #[.int .i64 (W : Int), .int .i64 (H : Int), .slice a n c] 24)).alloc (.cells #[.int .i64 (V : Int), .int .i64 (U : Int), .slice b m d] 24)) = w1 at *
  rw [← hB] at HA ⊢
  obtain ⟨hs1, kp, kq, hb1⟩ := unhide HA
  have HBE := hide hB
  clear HA hB
  have hs : B + 2 ≤ w1.heap.size := by omega
  have HB := hide hb1
  clear hs1 hb1
  have HXp := hide ((unhide HX).under (unhide HB) (fun x hx h0 => by rw [unhide HBE]; exact (unhide HX).lt x hx h0))
  have HXq := hide ((unhide HY).under (unhide HB) (fun x hx h0 => by rw [unhide HBE]; exact (unhide HY).lt x hx h0))
  have HSe := hide ((unhide HS0).below (by rw [← unhide HBE]; exact unhide HB))
  clear HX HY HS0
  refine (unhide HOn _).mono ?_
  rintro e w2 ⟨rfl, hbN⟩
  have hsz := hbN.size
  have kp := blk_below kp hbN (blk_lt kp)
  have kq := blk_below kq hbN (blk_lt kq)
  have HXp := hide ((unhide HXp).below hbN)
  have HXq := hide ((unhide HXq).below hbN)
  have HSe := hide ((unhide HSe).below hbN)
  have HB := hide ((unhide HB).trans (hbN.mono (by omega)))
  have hs : B + 2 ≤ w2.heap.size := by omega
  clear hbN hsz
  have hlp : B < w2.heap.size := blk_lt kp
  have cp0 : w2.cell? ⟨B, 0, none⟩ = some (.int .i64 (W : Int)) := blk_cell kp 0
  have cp1 : w2.cell? ⟨B, 1, none⟩ = some (.int .i64 (H : Int)) := blk_cell kp 1
  have cp2 : w2.cell? ⟨B, 2, none⟩ = some (.slice a n c) := blk_cell kp 2
  have hlq : B + 1 < w2.heap.size := blk_lt kq
  have cq0 : w2.cell? ⟨B + 1, 0, none⟩ = some (.int .i64 (V : Int)) := blk_cell kq 0
  have cq1 : w2.cell? ⟨B + 1, 1, none⟩ = some (.int .i64 (U : Int)) := blk_cell kq 1
  have cq2 : w2.cell? ⟨B + 1, 2, none⟩ = some (.slice b m d) := blk_cell kq 2
  go_wp2_with fail
  clear cp0 cp1 cp2 cq0 cq1 cq2 hlp hlq
  refine (unhide HSM _).mono ?_
  rintro e w3 ⟨rfl, hbN⟩
  have hsz := hbN.size
  have kp := blk_below kp hbN (blk_lt kp)
  have kq := blk_below kq hbN (blk_lt kq)
  have HXp := hide ((unhide HXp).below hbN)
  have HXq := hide ((unhide HXq).below hbN)
  have HSe := hide ((unhide HSe).below hbN)
  have HB := hide ((unhide HB).trans (hbN.mono (by omega)))
  have hs : B + 2 ≤ w3.heap.size := by omega
  clear hbN hsz
  have hlp : B < w3.heap.size := blk_lt kp
  have cp0 : w3.cell? ⟨B, 0, none⟩ = some (.int .i64 (W : Int)) := blk_cell kp 0
  have cp1 : w3.cell? ⟨B, 1, none⟩ = some (.int .i64 (H : Int)) := blk_cell kp 1
  have cp2 : w3.cell? ⟨B, 2, none⟩ = some (.slice a n c) := blk_cell kp 2
  have hlq : B + 1 < w3.heap.size := blk_lt kq
  have cq0 : w3.cell? ⟨B + 1, 0, none⟩ = some (.int .i64 (V : Int)) := blk_cell kq 0
  have cq1 : w3.cell? ⟨B + 1, 1, none⟩ = some (.int .i64 (U : Int)) := blk_cell kq 1
  have cq2 : w3.cell? ⟨B + 1, 2, none⟩ = some (.slice b m d) := blk_cell kq 2
  go_wp2_with fail
  clear cp0 cp1 cp2 cq0 cq1 cq2 hlp hlq
  refine (unhide HSQ _).mono ?_
  rintro e w4 ⟨rfl, hbN⟩
  have hsz := hbN.size
  have kp := blk_below kp hbN (blk_lt kp)
  have kq := blk_below kq hbN (blk_lt kq)
  have HXp := hide ((unhide HXp).below hbN)
  have HXq := hide ((unhide HXq).below hbN)
  have HSe := hide ((unhide HSe).below hbN)
  have HB := hide ((unhide HB).trans (hbN.mono (by omega)))
  have hs : B + 2 ≤ w4.heap.size := by omega
  clear hbN hsz
  have hlp : B < w4.heap.size := blk_lt kp
  have cp0 : w4.cell? ⟨B, 0, none⟩ = some (.int .i64 (W : Int)) := blk_cell kp 0
  have cp1 : w4.cell? ⟨B, 1, none⟩ = some (.int .i64 (H : Int)) := blk_cell kp 1
  have cp2 : w4.cell? ⟨B, 2, none⟩ = some (.slice a n c) := blk_cell kp 2
  have hlq : B + 1 < w4.heap.size := blk_lt kq
  have cq0 : w4.cell? ⟨B + 1, 0, none⟩ = some (.int .i64 (V : Int)) := blk_cell kq 0
  have cq1 : w4.cell? ⟨B + 1, 1, none⟩ = some (.int .i64 (U : Int)) := blk_cell kq 1
  have cq2 : w4.cell? ⟨B + 1, 2, none⟩ = some (.slice b m d) := blk_cell kq 2
  go_wp2_with fail
  clear cp0 cp1 cp2 cq0 cq1 cq2 hlp hlq
  refine (unhide HO w4 (unhide HXp)).mono ?_
  rintro e w5 ⟨a1, c1, rfl, hpx, hbN⟩
  have hsz := hbN.size
  have kp := blk_below kp hbN (blk_lt kp)
  have kq := blk_below kq hbN (blk_lt kq)
  have HXp := hide ((unhide HXp).below hbN)
  have HXq := hide ((unhide HXq).below hbN)
  have HSe := hide ((unhide HSe).below hbN)
  have HB := hide ((unhide HB).trans (hbN.mono (by omega)))
  have hs : B + 2 ≤ w5.heap.size := by omega
  clear hbN hsz
  have HXo := hide hpx
  clear hpx
  have hlp : B < w5.heap.size := blk_lt kp
  have cp0 : w5.cell? ⟨B, 0, none⟩ = some (.int .i64 (W : Int)) := blk_cell kp 0
  have cp1 : w5.cell? ⟨B, 1, none⟩ = some (.int .i64 (H : Int)) := blk_cell kp 1
  have cp2 : w5.cell? ⟨B, 2, none⟩ = some (.slice a n c) := blk_cell kp 2
  have hlq : B + 1 < w5.heap.size := blk_lt kq
  have cq0 : w5.cell? ⟨B + 1, 0, none⟩ = some (.int .i64 (V : Int)) := blk_cell kq 0
  have cq1 : w5.cell? ⟨B + 1, 1, none⟩ = some (.int .i64 (U : Int)) := blk_cell kq 1
  have cq2 : w5.cell? ⟨B + 1, 2, none⟩ = some (.slice b m d) := blk_cell kq 2
  go_wp2_with fail
  clear cp0 cp1 cp2 cq0 cq1 cq2 hlp hlq
  refine (unhide HF w5 _ _ (unhide HXo)).mono ?_
  rintro e w6 ⟨g, rfl, hpx, hbN⟩
  have hsz := hbN.size
  have kp := blk_below kp hbN (blk_lt kp)
  have kq := blk_below kq hbN (blk_lt kq)
  have HXp := hide ((unhide HXp).below hbN)
  have HXq := hide ((unhide HXq).below hbN)
  have HXo := hide ((unhide HXo).below hbN)
  have HSe := hide ((unhide HSe).below hbN)
  have HB := hide ((unhide HB).trans (hbN.mono (by omega)))
  have hs : B + 2 ≤ w6.heap.size := by omega
  clear hbN hsz
  have HXg := hide hpx
  clear hpx
  clear HXo
  have hlp : B < w6.heap.size := blk_lt kp
  have cp0 : w6.cell? ⟨B, 0, none⟩ = some (.int .i64 (W : Int)) := blk_cell kp 0
  have cp1 : w6.cell? ⟨B, 1, none⟩ = some (.int .i64 (H : Int)) := blk_cell kp 1
  have cp2 : w6.cell? ⟨B, 2, none⟩ = some (.slice a n c) := blk_cell kp 2
  have hlq : B + 1 < w6.heap.size := blk_lt kq
  have cq0 : w6.cell? ⟨B + 1, 0, none⟩ = some (.int .i64 (V : Int)) := blk_cell kq 0
  have cq1 : w6.cell? ⟨B + 1, 1, none⟩ = some (.int .i64 (U : Int)) := blk_cell kq 1
  have cq2 : w6.cell? ⟨B + 1, 2, none⟩ = some (.slice b m d) := blk_cell kq 2
  go_wp2_with fail
  clear cp0 cp1 cp2 cq0 cq1 cq2 hlp hlq
  refine (unhide HO2 w6 (unhide HXq)).mono ?_
  rintro e w7 ⟨a2, c2, rfl, hpx, hbN⟩
  have hsz := hbN.size
  have kp := blk_below kp hbN (blk_lt kp)
  have kq := blk_below kq hbN (blk_lt kq)
  have HXp := hide ((unhide HXp).below hbN)
  have HXq := hide ((unhide HXq).below hbN)
  have HXg := hide ((unhide HXg).below hbN)
  have HSe := hide ((unhide HSe).below hbN)
  have HB := hide ((unhide HB).trans (hbN.mono (by omega)))
  have hs : B + 2 ≤ w7.heap.size := by omega
  clear hbN hsz
  have HXo := hide hpx
  clear hpx
  have hlp : B < w7.heap.size := blk_lt kp
  have cp0 : w7.cell? ⟨B, 0, none⟩ = some (.int .i64 (W : Int)) := blk_cell kp 0
  have cp1 : w7.cell? ⟨B, 1, none⟩ = some (.int .i64 (H : Int)) := blk_cell kp 1
  have cp2 : w7.cell? ⟨B, 2, none⟩ = some (.slice a n c) := blk_cell kp 2
  have hlq : B + 1 < w7.heap.size := blk_lt kq
  have cq0 : w7.cell? ⟨B + 1, 0, none⟩ = some (.int .i64 (V : Int)) := blk_cell kq 0
  have cq1 : w7.cell? ⟨B + 1, 1, none⟩ = some (.int .i64 (U : Int)) := blk_cell kq 1
  have cq2 : w7.cell? ⟨B + 1, 2, none⟩ = some (.slice b m d) := blk_cell kq 2
  go_wp2_with fail
  clear cp0 cp1 cp2 cq0 cq1 cq2 hlp hlq
  refine (unhide HF2 w7 _ _ (unhide HXo)).mono ?_
  rintro e w8 ⟨h, rfl, hpx, hbN⟩
  have hsz := hbN.size
  have kp := blk_below kp hbN (blk_lt kp)
  have kq := blk_below kq hbN (blk_lt kq)
  have HXp := hide ((unhide HXp).below hbN)
  have HXq := hide ((unhide HXq).below hbN)
  have HXg := hide ((unhide HXg).below hbN)
  have HXo := hide ((unhide HXo).below hbN)
  have HSe := hide ((unhide HSe).below hbN)
  have HB := hide ((unhide HB).trans (hbN.mono (by omega)))
  have hs : B + 2 ≤ w8.heap.size := by omega
  clear hbN hsz
  have HXh := hide hpx
  clear hpx
  clear HXo
  have hlp : B < w8.heap.size := blk_lt kp
  have cp0 : w8.cell? ⟨B, 0, none⟩ = some (.int .i64 (W : Int)) := blk_cell kp 0
  have cp1 : w8.cell? ⟨B, 1, none⟩ = some (.int .i64 (H : Int)) := blk_cell kp 1
  have cp2 : w8.cell? ⟨B, 2, none⟩ = some (.slice a n c) := blk_cell kp 2
  have hlq : B + 1 < w8.heap.size := blk_lt kq
  have cq0 : w8.cell? ⟨B + 1, 0, none⟩ = some (.int .i64 (V : Int)) := blk_cell kq 0
  have cq1 : w8.cell? ⟨B + 1, 1, none⟩ = some (.int .i64 (U : Int)) := blk_cell kq 1
  have cq2 : w8.cell? ⟨B + 1, 2, none⟩ = some (.slice b m d) := blk_cell kq 2
  go_wp2_with fail
  clear cp0 cp1 cp2 cq0 cq1 cq2 hlp hlq
  refine (unhide HTF w8 (unhide HSe)).mono ?_
  rintro e w9 ⟨rfl, hbN⟩
  have hsz := hbN.size
  have kp := blk_below kp hbN (blk_lt kp)
  have kq := blk_below kq hbN (blk_lt kq)
  have HXp := hide ((unhide HXp).below hbN)
  have HXq := hide ((unhide HXq).below hbN)
  have HXg := hide ((unhide HXg).below hbN)
  have HXh := hide ((unhide HXh).below hbN)
  have HSe := hide ((unhide HSe).below hbN)
  have HB := hide ((unhide HB).trans (hbN.mono (by omega)))
  have hs : B + 2 ≤ w9.heap.size := by omega
  clear hbN hsz
  have hlp : B < w9.heap.size := blk_lt kp
  have cp0 : w9.cell? ⟨B, 0, none⟩ = some (.int .i64 (W : Int)) := blk_cell kp 0
  have cp1 : w9.cell? ⟨B, 1, none⟩ = some (.int .i64 (H : Int)) := blk_cell kp 1
  have cp2 : w9.cell? ⟨B, 2, none⟩ = some (.slice a n c) := blk_cell kp 2
  have hlq : B + 1 < w9.heap.size := blk_lt kq
  have cq0 : w9.cell? ⟨B + 1, 0, none⟩ = some (.int .i64 (V : Int)) := blk_cell kq 0
  have cq1 : w9.cell? ⟨B + 1, 1, none⟩ = some (.int .i64 (U : Int)) := blk_cell kq 1
  have cq2 : w9.cell? ⟨B + 1, 2, none⟩ = some (.slice b m d) := blk_cell kq 2
  go_wp2_with fail
  clear cp0 cp1 cp2 cq0 cq1 cq2 hlp hlq
  refine (unhide HO w9 (unhide HXp)).mono ?_
  rintro e w10 ⟨a3, c3, rfl, hpx, hbN⟩
  have hsz := hbN.size
  have kp := blk_below kp hbN (blk_lt kp)
  have kq := blk_below kq hbN (blk_lt kq)
  have HXp := hide ((unhide HXp).below hbN)
  have HXq := hide ((unhide HXq).below hbN)
  have HXg := hide ((unhide HXg).below hbN)
  have HXh := hide ((unhide HXh).below hbN)
  have HSe := hide ((unhide HSe).below hbN)
  have HB := hide ((unhide HB).trans (hbN.mono (by omega)))
  have hs : B + 2 ≤ w10.heap.size := by omega
  clear hbN hsz
  have HXo := hide hpx
  clear hpx
  clear HXo
  have hlp : B < w10.heap.size := blk_lt kp
  have cp0 : w10.cell? ⟨B, 0, none⟩ = some (.int .i64 (W : Int)) := blk_cell kp 0
  have cp1 : w10.cell? ⟨B, 1, none⟩ = some (.int .i64 (H : Int)) := blk_cell kp 1
  have cp2 : w10.cell? ⟨B, 2, none⟩ = some (.slice a n c) := blk_cell kp 2
  have hlq : B + 1 < w10.heap.size := blk_lt kq
  have cq0 : w10.cell? ⟨B + 1, 0, none⟩ = some (.int .i64 (V : Int)) := blk_cell kq 0
  have cq1 : w10.cell? ⟨B + 1, 1, none⟩ = some (.int .i64 (U : Int)) := blk_cell kq 1
  have cq2 : w10.cell? ⟨B + 1, 2, none⟩ = some (.slice b m d) := blk_cell kq 2
  go_wp2_with fail
  clear cp0 cp1 cp2 cq0 cq1 cq2 hlp hlq
  refine (unhide HTS w10 _ _ (unhide HSe)).mono ?_
  rintro e w11 ⟨rfl, hbN⟩
  have hsz := hbN.size
  have kp := blk_below kp hbN (blk_lt kp)
  have kq := blk_below kq hbN (blk_lt kq)
  have HXp := hide ((unhide HXp).below hbN)
  have HXq := hide ((unhide HXq).below hbN)
  have HXg := hide ((unhide HXg).below hbN)
  have HXh := hide ((unhide HXh).below hbN)
  have HSe := hide ((unhide HSe).below hbN)
  have HB := hide ((unhide HB).trans (hbN.mono (by omega)))
  have hs : B + 2 ≤ w11.heap.size := by omega
  clear hbN hsz
  have hlp : B < w11.heap.size := blk_lt kp
  have cp0 : w11.cell? ⟨B, 0, none⟩ = some (.int .i64 (W : Int)) := blk_cell kp 0
  have cp1 : w11.cell? ⟨B, 1, none⟩ = some (.int .i64 (H : Int)) := blk_cell kp 1
  have cp2 : w11.cell? ⟨B, 2, none⟩ = some (.slice a n c) := blk_cell kp 2
  have hlq : B + 1 < w11.heap.size := blk_lt kq
  have cq0 : w11.cell? ⟨B + 1, 0, none⟩ = some (.int .i64 (V : Int)) := blk_cell kq 0
  have cq1 : w11.cell? ⟨B + 1, 1, none⟩ = some (.int .i64 (U : Int)) := blk_cell kq 1
  have cq2 : w11.cell? ⟨B + 1, 2, none⟩ = some (.slice b m d) := blk_cell kq 2
  go_wp2_with fail
  clear cp0 cp1 cp2 cq0 cq1 cq2 hlp hlq
  refine (unhide HTA w11 (unhide HSe)).mono ?_
  rintro e w12 ⟨rfl, hbN⟩
  have hsz := hbN.size
  have kp := blk_below kp hbN (blk_lt kp)
  have kq := blk_below kq hbN (blk_lt kq)
  have HXp := hide ((unhide HXp).below hbN)
  have HXq := hide ((unhide HXq).below hbN)
  have HXg := hide ((unhide HXg).below hbN)
  have HXh := hide ((unhide HXh).below hbN)
  have HSe := hide ((unhide HSe).below hbN)
  have HB := hide ((unhide HB).trans (hbN.mono (by omega)))
  have hs : B + 2 ≤ w12.heap.size := by omega
  clear hbN hsz
  have hlp : B < w12.heap.size := blk_lt kp
  have cp0 : w12.cell? ⟨B, 0, none⟩ = some (.int .i64 (W : Int)) := blk_cell kp 0
  have cp1 : w12.cell? ⟨B, 1, none⟩ = some (.int .i64 (H : Int)) := blk_cell kp 1
  have cp2 : w12.cell? ⟨B, 2, none⟩ = some (.slice a n c) := blk_cell kp 2
  have hlq : B + 1 < w12.heap.size := blk_lt kq
  have cq0 : w12.cell? ⟨B + 1, 0, none⟩ = some (.int .i64 (V : Int)) := blk_cell kq 0
  have cq1 : w12.cell? ⟨B + 1, 1, none⟩ = some (.int .i64 (U : Int)) := blk_cell kq 1
  have cq2 : w12.cell? ⟨B + 1, 2, none⟩ = some (.slice b m d) := blk_cell kq 2
  have HA := hide (al1 w12 (.cells #[.int .u8 0, .int .u8 0, .int .u8 0, .int .u8 0] 39))
  obtain ⟨bZ, heqZ⟩ : ∃ b, b = w12.heap.size := ⟨_, rfl⟩
  go_wp2_with fail
  clear cp0 cp1 cp2 cq0 cq1 cq2 hlp hlq
  generalize w12.alloc (.cells #[.int .u8 0, .int .u8 0, .int .u8 0, .int .u8 0] 39) = w13 at *
  rw [← heqZ] at HA ⊢
  obtain ⟨hsA, kZ, hbA⟩ := unhide HA
  rw [heqZ] at hbA
  have ltZp : B < bZ := by rw [heqZ]; exact blk_lt kp
  have ltZq : B + 1 < bZ := by rw [heqZ]; exact blk_lt kq
  have hgB : B ≤ bZ := by rw [heqZ]; omega
  clear HA
  have hsz := hbA.size
  have kp := blk_below kp hbA (blk_lt kp)
  have kq := blk_below kq hbA (blk_lt kq)
  have HXp := hide ((unhide HXp).below hbA)
  have HXq := hide ((unhide HXq).below hbA)
  have HXg := hide ((unhide HXg).below hbA)
  have HXh := hide ((unhide HXh).below hbA)
  have HSe := hide ((unhide HSe).below hbA)
  have HB := hide ((unhide HB).trans (hbA.mono (by omega)))
  have hs : B + 2 ≤ w13.heap.size := by omega
  clear hbA hsz
  clear heqZ hsA
  refine (unhide HTZ _).mono ?_
  rintro e w13 ⟨rfl, rfl⟩
  have hlp : B < w13.heap.size := blk_lt kp
  have cp0 : w13.cell? ⟨B, 0, none⟩ = some (.int .i64 (W : Int)) := blk_cell kp 0
  have cp1 : w13.cell? ⟨B, 1, none⟩ = some (.int .i64 (H : Int)) := blk_cell kp 1
  have cp2 : w13.cell? ⟨B, 2, none⟩ = some (.slice a n c) := blk_cell kp 2
  have hlq : B + 1 < w13.heap.size := blk_lt kq
  have cq0 : w13.cell? ⟨B + 1, 0, none⟩ = some (.int .i64 (V : Int)) := blk_cell kq 0
  have cq1 : w13.cell? ⟨B + 1, 1, none⟩ = some (.int .i64 (U : Int)) := blk_cell kq 1
  have cq2 : w13.cell? ⟨B + 1, 2, none⟩ = some (.slice b m d) := blk_cell kq 2
  have hlZ : bZ < w13.heap.size := blk_lt kZ
  have cZ0 : w13.cell? ⟨bZ, 0, none⟩ = some (.int .u8 0) := blk_cell kZ 0
  have cZ1 : w13.cell? ⟨bZ, 1, none⟩ = some (.int .u8 0) := blk_cell kZ 1
  have cZ2 : w13.cell? ⟨bZ, 2, none⟩ = some (.int .u8 0) := blk_cell kZ 2
  have cZ3 : w13.cell? ⟨bZ, 3, none⟩ = some (.int .u8 0) := blk_cell kZ 3
  go_wp2_with fail
  clear cp0 cp1 cp2 cq0 cq1 cq2 cZ0 cZ1 cZ2 cZ3 hlp hlq hlZ
  refine (unhide HCN w13 g (unhide HXg) (unhide HSe)).mono ?_
  rintro e w14 ⟨rfl, hbN⟩
  have hsz := hbN.size
  have kp := blk_below kp hbN (blk_lt kp)
  have kq := blk_below kq hbN (blk_lt kq)
  have kZ := blk_below kZ hbN (blk_lt kZ)
  have HXp := hide ((unhide HXp).below hbN)
  have HXq := hide ((unhide HXq).below hbN)
  have HXg := hide ((unhide HXg).below hbN)
  have HXh := hide ((unhide HXh).below hbN)
  have HSe := hide ((unhide HSe).below hbN)
  have HB := hide ((unhide HB).trans (hbN.mono (by omega)))
  have hs : B + 2 ≤ w14.heap.size := by omega
  clear hbN hsz
  have hlp : B < w14.heap.size := blk_lt kp
  have cp0 : w14.cell? ⟨B, 0, none⟩ = some (.int .i64 (W : Int)) := blk_cell kp 0
  have cp1 : w14.cell? ⟨B, 1, none⟩ = some (.int .i64 (H : Int)) := blk_cell kp 1
  have cp2 : w14.cell? ⟨B, 2, none⟩ = some (.slice a n c) := blk_cell kp 2
  have hlq : B + 1 < w14.heap.size := blk_lt kq
  have cq0 : w14.cell? ⟨B + 1, 0, none⟩ = some (.int .i64 (V : Int)) := blk_cell kq 0
  have cq1 : w14.cell? ⟨B + 1, 1, none⟩ = some (.int .i64 (U : Int)) := blk_cell kq 1
  have cq2 : w14.cell? ⟨B + 1, 2, none⟩ = some (.slice b m d) := blk_cell kq 2
  have hlZ : bZ < w14.heap.size := blk_lt kZ
  have cZ0 : w14.cell? ⟨bZ, 0, none⟩ = some (.int .u8 0) := blk_cell kZ 0
  have cZ1 : w14.cell? ⟨bZ, 1, none⟩ = some (.int .u8 0) := blk_cell kZ 1
  have cZ2 : w14.cell? ⟨bZ, 2, none⟩ = some (.int .u8 0) := blk_cell kZ 2
  have cZ3 : w14.cell? ⟨bZ, 3, none⟩ = some (.int .u8 0) := blk_cell kZ 3
  go_wp2_with fail
  clear cp0 cp1 cp2 cq0 cq1 cq2 cZ0 cZ1 cZ2 cZ3 hlp hlq hlZ
  refine (unhide HCo w14 (unhide HSe)).mono ?_
  rintro e w15 ⟨rfl, hbN⟩
  have hsz := hbN.size
  have kp := blk_below kp hbN (blk_lt kp)
  have kq := blk_below kq hbN (blk_lt kq)
  have kZ := blk_below kZ hbN (blk_lt kZ)
  have HXp := hide ((unhide HXp).below hbN)
  have HXq := hide ((unhide HXq).below hbN)
  have HXg := hide ((unhide HXg).below hbN)
  have HXh := hide ((unhide HXh).below hbN)
  have HSe := hide ((unhide HSe).below hbN)
  have HB := hide ((unhide HB).trans (hbN.mono (by omega)))
  have hs : B + 2 ≤ w15.heap.size := by omega
  clear hbN hsz
  have hlp : B < w15.heap.size := blk_lt kp
  have cp0 : w15.cell? ⟨B, 0, none⟩ = some (.int .i64 (W : Int)) := blk_cell kp 0
  have cp1 : w15.cell? ⟨B, 1, none⟩ = some (.int .i64 (H : Int)) := blk_cell kp 1
  have cp2 : w15.cell? ⟨B, 2, none⟩ = some (.slice a n c) := blk_cell kp 2
  have hlq : B + 1 < w15.heap.size := blk_lt kq
  have cq0 : w15.cell? ⟨B + 1, 0, none⟩ = some (.int .i64 (V : Int)) := blk_cell kq 0
  have cq1 : w15.cell? ⟨B + 1, 1, none⟩ = some (.int .i64 (U : Int)) := blk_cell kq 1
  have cq2 : w15.cell? ⟨B + 1, 2, none⟩ = some (.slice b m d) := blk_cell kq 2
  have hlZ : bZ < w15.heap.size := blk_lt kZ
  have cZ0 : w15.cell? ⟨bZ, 0, none⟩ = some (.int .u8 0) := blk_cell kZ 0
  have cZ1 : w15.cell? ⟨bZ, 1, none⟩ = some (.int .u8 0) := blk_cell kZ 1
  have cZ2 : w15.cell? ⟨bZ, 2, none⟩ = some (.int .u8 0) := blk_cell kZ 2
  have cZ3 : w15.cell? ⟨bZ, 3, none⟩ = some (.int .u8 0) := blk_cell kZ 3
  go_wp2_with fail
  clear cp0 cp1 cp2 cq0 cq1 cq2 cZ0 cZ1 cZ2 cZ3 hlp hlq hlZ
  refine (unhide HCo w15 (unhide HSe)).mono ?_
  rintro e w16 ⟨rfl, hbN⟩
  have hsz := hbN.size
  have kp := blk_below kp hbN (blk_lt kp)
  have kq := blk_below kq hbN (blk_lt kq)
  have kZ := blk_below kZ hbN (blk_lt kZ)
  have HXp := hide ((unhide HXp).below hbN)
  have HXq := hide ((unhide HXq).below hbN)
  have HXg := hide ((unhide HXg).below hbN)
  have HXh := hide ((unhide HXh).below hbN)
  have HSe := hide ((unhide HSe).below hbN)
  have HB := hide ((unhide HB).trans (hbN.mono (by omega)))
  have hs : B + 2 ≤ w16.heap.size := by omega
  clear hbN hsz
  have hlp : B < w16.heap.size := blk_lt kp
  have cp0 : w16.cell? ⟨B, 0, none⟩ = some (.int .i64 (W : Int)) := blk_cell kp 0
  have cp1 : w16.cell? ⟨B, 1, none⟩ = some (.int .i64 (H : Int)) := blk_cell kp 1
  have cp2 : w16.cell? ⟨B, 2, none⟩ = some (.slice a n c) := blk_cell kp 2
  have hlq : B + 1 < w16.heap.size := blk_lt kq
  have cq0 : w16.cell? ⟨B + 1, 0, none⟩ = some (.int .i64 (V : Int)) := blk_cell kq 0
  have cq1 : w16.cell? ⟨B + 1, 1, none⟩ = some (.int .i64 (U : Int)) := blk_cell kq 1
  have cq2 : w16.cell? ⟨B + 1, 2, none⟩ = some (.slice b m d) := blk_cell kq 2
  have hlZ : bZ < w16.heap.size := blk_lt kZ
  have cZ0 : w16.cell? ⟨bZ, 0, none⟩ = some (.int .u8 0) := blk_cell kZ 0
  have cZ1 : w16.cell? ⟨bZ, 1, none⟩ = some (.int .u8 0) := blk_cell kZ 1
  have cZ2 : w16.cell? ⟨bZ, 2, none⟩ = some (.int .u8 0) := blk_cell kZ 2
  have cZ3 : w16.cell? ⟨bZ, 3, none⟩ = some (.int .u8 0) := blk_cell kZ 3
  go_wp2_with fail
  clear cp0 cp1 cp2 cq0 cq1 cq2 cZ0 cZ1 cZ2 cZ3 hlp hlq hlZ
  refine (unhide HCo w16 (unhide HSe)).mono ?_
  rintro e w17 ⟨rfl, hbN⟩
  have hsz := hbN.size
  have kp := blk_below kp hbN (blk_lt kp)
  have kq := blk_below kq hbN (blk_lt kq)
  have kZ := blk_below kZ hbN (blk_lt kZ)
  have HXp := hide ((unhide HXp).below hbN)
  have HXq := hide ((unhide HXq).below hbN)
  have HXg := hide ((unhide HXg).below hbN)
  have HXh := hide ((unhide HXh).below hbN)
  have HSe := hide ((unhide HSe).below hbN)
  have HB := hide ((unhide HB).trans (hbN.mono (by omega)))
  have hs : B + 2 ≤ w17.heap.size := by omega
  clear hbN hsz
  have hlp : B < w17.heap.size := blk_lt kp
  have cp0 : w17.cell? ⟨B, 0, none⟩ = some (.int .i64 (W : Int)) := blk_cell kp 0
  have cp1 : w17.cell? ⟨B, 1, none⟩ = some (.int .i64 (H : Int)) := blk_cell kp 1
  have cp2 : w17.cell? ⟨B, 2, none⟩ = some (.slice a n c) := blk_cell kp 2
  have hlq : B + 1 < w17.heap.size := blk_lt kq
  have cq0 : w17.cell? ⟨B + 1, 0, none⟩ = some (.int .i64 (V : Int)) := blk_cell kq 0
  have cq1 : w17.cell? ⟨B + 1, 1, none⟩ = some (.int .i64 (U : Int)) := blk_cell kq 1
  have cq2 : w17.cell? ⟨B + 1, 2, none⟩ = some (.slice b m d) := blk_cell kq 2
  have hlZ : bZ < w17.heap.size := blk_lt kZ
  have cZ0 : w17.cell? ⟨bZ, 0, none⟩ = some (.int .u8 0) := blk_cell kZ 0
  have cZ1 : w17.cell? ⟨bZ, 1, none⟩ = some (.int .u8 0) := blk_cell kZ 1
  have cZ2 : w17.cell? ⟨bZ, 2, none⟩ = some (.int .u8 0) := blk_cell kZ 2
  have cZ3 : w17.cell? ⟨bZ, 3, none⟩ = some (.int .u8 0) := blk_cell kZ 3
  go_wp2_with fail
  clear cp0 cp1 cp2 cq0 cq1 cq2 cZ0 cZ1 cZ2 cZ3 hlp hlq hlZ
  refine (unhide HCo w17 (unhide HSe)).mono ?_
  rintro e w18 ⟨rfl, hbN⟩
  have hsz := hbN.size
  have kp := blk_below kp hbN (blk_lt kp)
  have kq := blk_below kq hbN (blk_lt kq)
  have kZ := blk_below kZ hbN (blk_lt kZ)
  have HXp := hide ((unhide HXp).below hbN)
  have HXq := hide ((unhide HXq).below hbN)
  have HXg := hide ((unhide HXg).below hbN)
  have HXh := hide ((unhide HXh).below hbN)
  have HSe := hide ((unhide HSe).below hbN)
  have HB := hide ((unhide HB).trans (hbN.mono (by omega)))
  have hs : B + 2 ≤ w18.heap.size := by omega
  clear hbN hsz
  have hlp : B < w18.heap.size := blk_lt kp
  have cp0 : w18.cell? ⟨B, 0, none⟩ = some (.int .i64 (W : Int)) := blk_cell kp 0
  have cp1 : w18.cell? ⟨B, 1, none⟩ = some (.int .i64 (H : Int)) := blk_cell kp 1
  have cp2 : w18.cell? ⟨B, 2, none⟩ = some (.slice a n c) := blk_cell kp 2
  have hlq : B + 1 < w18.heap.size := blk_lt kq
  have cq0 : w18.cell? ⟨B + 1, 0, none⟩ = some (.int .i64 (V : Int)) := blk_cell kq 0
  have cq1 : w18.cell? ⟨B + 1, 1, none⟩ = some (.int .i64 (U : Int)) := blk_cell kq 1
  have cq2 : w18.cell? ⟨B + 1, 2, none⟩ = some (.slice b m d) := blk_cell kq 2
  have hlZ : bZ < w18.heap.size := blk_lt kZ
  have cZ0 : w18.cell? ⟨bZ, 0, none⟩ = some (.int .u8 0) := blk_cell kZ 0
  have cZ1 : w18.cell? ⟨bZ, 1, none⟩ = some (.int .u8 0) := blk_cell kZ 1
  have cZ2 : w18.cell? ⟨bZ, 2, none⟩ = some (.int .u8 0) := blk_cell kZ 2
  have cZ3 : w18.cell? ⟨bZ, 3, none⟩ = some (.int .u8 0) := blk_cell kZ 3
  go_wp2_with fail
  clear cp0 cp1 cp2 cq0 cq1 cq2 cZ0 cZ1 cZ2 cZ3 hlp hlq hlZ
  refine (unhide HTP w18).mono ?_
  rintro e w19 ⟨rfl, hbN⟩
  have hsz := hbN.size
  have kp := blk_below kp hbN (blk_lt kp)
  have kq := blk_below kq hbN (blk_lt kq)
  have kZ := blk_below kZ hbN (blk_lt kZ)
  have HXp := hide ((unhide HXp).below hbN)
  have HXq := hide ((unhide HXq).below hbN)
  have HXg := hide ((unhide HXg).below hbN)
  have HXh := hide ((unhide HXh).below hbN)
  have HSe := hide ((unhide HSe).below hbN)
  have HB := hide ((unhide HB).trans (hbN.mono (by omega)))
  have hs : B + 2 ≤ w19.heap.size := by omega
  clear hbN hsz
  have hlp : B < w19.heap.size := blk_lt kp
  have cp0 : w19.cell? ⟨B, 0, none⟩ = some (.int .i64 (W : Int)) := blk_cell kp 0
  have cp1 : w19.cell? ⟨B, 1, none⟩ = some (.int .i64 (H : Int)) := blk_cell kp 1
  have cp2 : w19.cell? ⟨B, 2, none⟩ = some (.slice a n c) := blk_cell kp 2
  have hlq : B + 1 < w19.heap.size := blk_lt kq
  have cq0 : w19.cell? ⟨B + 1, 0, none⟩ = some (.int .i64 (V : Int)) := blk_cell kq 0
  have cq1 : w19.cell? ⟨B + 1, 1, none⟩ = some (.int .i64 (U : Int)) := blk_cell kq 1
  have cq2 : w19.cell? ⟨B + 1, 2, none⟩ = some (.slice b m d) := blk_cell kq 2
  have hlZ : bZ < w19.heap.size := blk_lt kZ
  have cZ0 : w19.cell? ⟨bZ, 0, none⟩ = some (.int .u8 0) := blk_cell kZ 0
  have cZ1 : w19.cell? ⟨bZ, 1, none⟩ = some (.int .u8 0) := blk_cell kZ 1
  have cZ2 : w19.cell? ⟨bZ, 2, none⟩ = some (.int .u8 0) := blk_cell kZ 2
  have cZ3 : w19.cell? ⟨bZ, 3, none⟩ = some (.int .u8 0) := blk_cell kZ 3
  go_wp2_with fail
  clear cp0 cp1 cp2 cq0 cq1 cq2 cZ0 cZ1 cZ2 cZ3 hlp hlq hlZ
  refine (unhide HPk _).mono ?_
  rintro e w19 ⟨rfl, rfl⟩
  have hlp : B < w19.heap.size := blk_lt kp
  have cp0 : w19.cell? ⟨B, 0, none⟩ = some (.int .i64 (W : Int)) := blk_cell kp 0
  have cp1 : w19.cell? ⟨B, 1, none⟩ = some (.int .i64 (H : Int)) := blk_cell kp 1
  have cp2 : w19.cell? ⟨B, 2, none⟩ = some (.slice a n c) := blk_cell kp 2
  have hlq : B + 1 < w19.heap.size := blk_lt kq
  have cq0 : w19.cell? ⟨B + 1, 0, none⟩ = some (.int .i64 (V : Int)) := blk_cell kq 0
  have cq1 : w19.cell? ⟨B + 1, 1, none⟩ = some (.int .i64 (U : Int)) := blk_cell kq 1
  have cq2 : w19.cell? ⟨B + 1, 2, none⟩ = some (.slice b m d) := blk_cell kq 2
  have hlZ : bZ < w19.heap.size := blk_lt kZ
  have cZ0 : w19.cell? ⟨bZ, 0, none⟩ = some (.int .u8 0) := blk_cell kZ 0
  have cZ1 : w19.cell? ⟨bZ, 1, none⟩ = some (.int .u8 0) := blk_cell kZ 1
  have cZ2 : w19.cell? ⟨bZ, 2, none⟩ = some (.int .u8 0) := blk_cell kZ 2
  have cZ3 : w19.cell? ⟨bZ, 3, none⟩ = some (.int .u8 0) := blk_cell kZ 3
  go_wp2_with fail
  clear cp0 cp1 cp2 cq0 cq1 cq2 cZ0 cZ1 cZ2 cZ3 hlp hlq hlZ
  refine (unhide HPi w19).mono ?_
  rintro e w20 ⟨rfl, hbN⟩
  have hsz := hbN.size
  have kp := blk_below kp hbN (blk_lt kp)
  have kq := blk_below kq hbN (blk_lt kq)
  have kZ := blk_below kZ hbN (blk_lt kZ)
  have HXp := hide ((unhide HXp).below hbN)
  have HXq := hide ((unhide HXq).below hbN)
  have HXg := hide ((unhide HXg).below hbN)
  have HXh := hide ((unhide HXh).below hbN)
  have HSe := hide ((unhide HSe).below hbN)
  have HB := hide ((unhide HB).trans (hbN.mono (by omega)))
  have hs : B + 2 ≤ w20.heap.size := by omega
  clear hbN hsz
  have hlp : B < w20.heap.size := blk_lt kp
  have cp0 : w20.cell? ⟨B, 0, none⟩ = some (.int .i64 (W : Int)) := blk_cell kp 0
  have cp1 : w20.cell? ⟨B, 1, none⟩ = some (.int .i64 (H : Int)) := blk_cell kp 1
  have cp2 : w20.cell? ⟨B, 2, none⟩ = some (.slice a n c) := blk_cell kp 2
  have hlq : B + 1 < w20.heap.size := blk_lt kq
  have cq0 : w20.cell? ⟨B + 1, 0, none⟩ = some (.int .i64 (V : Int)) := blk_cell kq 0
  have cq1 : w20.cell? ⟨B + 1, 1, none⟩ = some (.int .i64 (U : Int)) := blk_cell kq 1
  have cq2 : w20.cell? ⟨B + 1, 2, none⟩ = some (.slice b m d) := blk_cell kq 2
  have hlZ : bZ < w20.heap.size := blk_lt kZ
  have cZ0 : w20.cell? ⟨bZ, 0, none⟩ = some (.int .u8 0) := blk_cell kZ 0
  have cZ1 : w20.cell? ⟨bZ, 1, none⟩ = some (.int .u8 0) := blk_cell kZ 1
  have cZ2 : w20.cell? ⟨bZ, 2, none⟩ = some (.int .u8 0) := blk_cell kZ 2
  have cZ3 : w20.cell? ⟨bZ, 3, none⟩ = some (.int .u8 0) := blk_cell kZ 3
  go_wp2_with fail
  clear cp0 cp1 cp2 cq0 cq1 cq2 cZ0 cZ1 cZ2 cZ3 hlp hlq hlZ
  refine (unhide HSP w20).mono ?_
  rintro e w21 ⟨rfl, hbN⟩
  have hsz := hbN.size
  have kp := blk_below kp hbN (blk_lt kp)
  have kq := blk_below kq hbN (blk_lt kq)
  have kZ := blk_below kZ hbN (blk_lt kZ)
  have HXp := hide ((unhide HXp).below hbN)
  have HXq := hide ((unhide HXq).below hbN)
  have HXg := hide ((unhide HXg).below hbN)
  have HXh := hide ((unhide HXh).below hbN)
  have HSe := hide ((unhide HSe).below hbN)
  have HB := hide ((unhide HB).trans (hbN.mono (by omega)))
  have hs : B + 2 ≤ w21.heap.size := by omega
  clear hbN hsz
  have hlp : B < w21.heap.size := blk_lt kp
  have cp0 : w21.cell? ⟨B, 0, none⟩ = some (.int .i64 (W : Int)) := blk_cell kp 0
  have cp1 : w21.cell? ⟨B, 1, none⟩ = some (.int .i64 (H : Int)) := blk_cell kp 1
  have cp2 : w21.cell? ⟨B, 2, none⟩ = some (.slice a n c) := blk_cell kp 2
  have hlq : B + 1 < w21.heap.size := blk_lt kq
  have cq0 : w21.cell? ⟨B + 1, 0, none⟩ = some (.int .i64 (V : Int)) := blk_cell kq 0
  have cq1 : w21.cell? ⟨B + 1, 1, none⟩ = some (.int .i64 (U : Int)) := blk_cell kq 1
  have cq2 : w21.cell? ⟨B + 1, 2, none⟩ = some (.slice b m d) := blk_cell kq 2
  have hlZ : bZ < w21.heap.size := blk_lt kZ
  have cZ0 : w21.cell? ⟨bZ, 0, none⟩ = some (.int .u8 0) := blk_cell kZ 0
  have cZ1 : w21.cell? ⟨bZ, 1, none⟩ = some (.int .u8 0) := blk_cell kZ 1
  have cZ2 : w21.cell? ⟨bZ, 2, none⟩ = some (.int .u8 0) := blk_cell kZ 2
  have cZ3 : w21.cell? ⟨bZ, 3, none⟩ = some (.int .u8 0) := blk_cell kZ 3
  go_wp2_with fail
  clear cp0 cp1 cp2 cq0 cq1 cq2 cZ0 cZ1 cZ2 cZ3 hlp hlq hlZ
  refine (unhide HCh w21 g h (unhide HXg) (unhide HXh) (unhide HSe)).mono ?_
  rintro e w22 ⟨rfl, hbN⟩
  have hsz := hbN.size
  have kp := blk_below kp hbN (blk_lt kp)
  have kq := blk_below kq hbN (blk_lt kq)
  have kZ := blk_below kZ hbN (blk_lt kZ)
  have HXp := hide ((unhide HXp).below hbN)
  have HXq := hide ((unhide HXq).below hbN)
  have HXg := hide ((unhide HXg).below hbN)
  have HXh := hide ((unhide HXh).below hbN)
  have HSe := hide ((unhide HSe).below hbN)
  have HB := hide ((unhide HB).trans (hbN.mono (by omega)))
  have hs : B + 2 ≤ w22.heap.size := by omega
  clear hbN hsz
  have hlp : B < w22.heap.size := blk_lt kp
  have cp0 : w22.cell? ⟨B, 0, none⟩ = some (.int .i64 (W : Int)) := blk_cell kp 0
  have cp1 : w22.cell? ⟨B, 1, none⟩ = some (.int .i64 (H : Int)) := blk_cell kp 1
  have cp2 : w22.cell? ⟨B, 2, none⟩ = some (.slice a n c) := blk_cell kp 2
  have hlq : B + 1 < w22.heap.size := blk_lt kq
  have cq0 : w22.cell? ⟨B + 1, 0, none⟩ = some (.int .i64 (V : Int)) := blk_cell kq 0
  have cq1 : w22.cell? ⟨B + 1, 1, none⟩ = some (.int .i64 (U : Int)) := blk_cell kq 1
  have cq2 : w22.cell? ⟨B + 1, 2, none⟩ = some (.slice b m d) := blk_cell kq 2
  have hlZ : bZ < w22.heap.size := blk_lt kZ
  have cZ0 : w22.cell? ⟨bZ, 0, none⟩ = some (.int .u8 0) := blk_cell kZ 0
  have cZ1 : w22.cell? ⟨bZ, 1, none⟩ = some (.int .u8 0) := blk_cell kZ 1
  have cZ2 : w22.cell? ⟨bZ, 2, none⟩ = some (.int .u8 0) := blk_cell kZ 2
  have cZ3 : w22.cell? ⟨bZ, 3, none⟩ = some (.int .u8 0) := blk_cell kZ 3
  rcases hdd with hd1 | ⟨hd1, hd2⟩
  · have hd1d := decide_eq_false hd1
    go_wp2_with fail
    refine (unhide HCo _ (unhide HSe)).mono ?_
    rintro e wz ⟨rfl, hbN⟩
    have HBz := hide ((unhide HB).trans (hbN.mono (by omega)))
    clear hbN
    go_wp2
    go_ret
    exact ⟨rfl, by rw [← unhide HBE]; exact unhide HBz⟩
  · have hd1d := decide_eq_true hd1
    have hd2d := decide_eq_false hd2
    go_wp2_with fail
    refine (unhide HCo _ (unhide HSe)).mono ?_
    rintro e wz ⟨rfl, hbN⟩
    have HBz := hide ((unhide HB).trans (hbN.mono (by omega)))
    clear hbN
    go_wp2
    go_ret
    exact ⟨rfl, by rw [← unhide HBE]; exact unhide HBz⟩
end Go.Proofs.YtcicbafdacfbpaiGreatDoor
