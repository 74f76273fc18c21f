/- The statement on pictures in tiles: the walk, way by way. Written by gento.py. -/
import Derived.Test.YtcicbafdacfbpaiDoorTk0
import Derived.Test.YtcicbafdacfbpaiDoorTk2
import Derived.Test.YtcicbafdacfbpaiDoorMg9
namespace Go.Proofs.YtcicbafdacfbpaiDoor
open Go.RowKit

theorem rightT {W H n : Nat} (hW0 : 1 ≤ W) (hW : W ≤ 256) (hH0 : 1 ≤ H) (hH : H ≤ 256) (hn : n = W * H) : RightP (W : Int) (H : Int) n := by
  unfold RightP
  rw [hn]
  exact ⟨⟨by omega, by omega⟩, ⟨by omega, by omega⟩, by simp⟩

set_option maxHeartbeats 4000000 in
set_option maxRecDepth 100000 in
theorem tilesOf_many (W H : Int) (a : Option Addr) (n c : Nat) (p : Nat → Px) (x y : Int) (w : World) (A : Nat → Addr) (hS : Sent w A) (hP : IsPx w a n p) (hn3 : ¬ n ≤ 3000) :
    Calls Tryd.prog 4 #[.agg #[.int .i64 W, .int .i64 H, .slice a n c], .int .i64 x, .int .i64 y] w fun e w' => e = .returned (.bool true) ∧ Below w.heap.size w w' := by
  have HOn := hide one3_any
  have HSM := hide (fun w => small3_any W H a n c w)
  rw [decide_eq_false hn3] at HSM
  have HX := hide hP
  have HS0 := hide hS
  clear hP hS hn3
  have HA := hide (al1 w (.cells #[.int .i64 W, .int .i64 H, .slice a n c] 24))
  obtain ⟨B, hB⟩ : ∃ B, B = w.heap.size := ⟨_, rfl⟩
  go_enter Tryd.func4, Tryd.ntmps4
  go_wp2_with fail
  generalize (w.alloc (.cells #[.int .i64 W, .int .i64 H, .slice a n c] 24)) = w1 at *
  rw [← hB] at HA ⊢
  obtain ⟨hs1, kp, hb1⟩ := unhide HA
  have HBE := hide hB
  clear HA hB
  have hs : B + 1 ≤ w1.heap.size := by omega
  have HB := hide hb1
  clear hs1 hb1
  have HXp := hide ((unhide HX).under (unhide HB) (fun x hx h0 => by rw [unhide HBE]; exact (unhide HX).lt x hx h0))
  have HSe := hide ((unhide HS0).below (by rw [← unhide HBE]; exact unhide HB))
  clear HX HS0
  refine (unhide HOn _).mono ?_
  rintro e w2 ⟨rfl, hbN⟩
  have hsz := hbN.size
  have kp := blk_below kp hbN (blk_lt kp)
  have HXp := hide ((unhide HXp).below hbN)
  have HSe := hide ((unhide HSe).below hbN)
  have HB := hide ((unhide HB).trans (hbN.mono (by omega)))
  have hs : B + 1 ≤ w2.heap.size := by omega
  clear hbN hsz
  have hlp : B < w2.heap.size := blk_lt kp
  have cp0 : w2.cell? ⟨B, 0, none⟩ = some (.int .i64 W) := blk_cell kp 0
  have cp1 : w2.cell? ⟨B, 1, none⟩ = some (.int .i64 H) := blk_cell kp 1
  have cp2 : w2.cell? ⟨B, 2, none⟩ = some (.slice a n c) := blk_cell kp 2
  go_wp2_with fail
  clear cp0 cp1 cp2 hlp
  refine (unhide HSM _).mono ?_
  rintro e w3 ⟨rfl, hbN⟩
  have hsz := hbN.size
  have kp := blk_below kp hbN (blk_lt kp)
  have HXp := hide ((unhide HXp).below hbN)
  have HSe := hide ((unhide HSe).below hbN)
  have HB := hide ((unhide HB).trans (hbN.mono (by omega)))
  have hs : B + 1 ≤ w3.heap.size := by omega
  clear hbN hsz
  have hlp : B < w3.heap.size := blk_lt kp
  have cp0 : w3.cell? ⟨B, 0, none⟩ = some (.int .i64 W) := blk_cell kp 0
  have cp1 : w3.cell? ⟨B, 1, none⟩ = some (.int .i64 H) := blk_cell kp 1
  have cp2 : w3.cell? ⟨B, 2, none⟩ = some (.slice a n c) := blk_cell kp 2
  go_wp2
  clear cp0 cp1 cp2 hlp
  go_ret
  exact ⟨rfl, by rw [← unhide HBE]; exact unhide HB⟩
set_option maxHeartbeats 4000000 in
set_option maxRecDepth 100000 in
theorem tilesOf_shape (W H : Int) (a : Option Addr) (n c : Nat) (p : Nat → Px) (x y : Int) (w : World) (A : Nat → Addr) (hS : Sent w A) (hP : IsPx w a n p) (hn3 : n ≤ 3000) (hR : ¬ RightP W H n) :
    Calls Tryd.prog 4 #[.agg #[.int .i64 W, .int .i64 H, .slice a n c], .int .i64 x, .int .i64 y] w fun e w' => e = .returned (.bool true) ∧ Below w.heap.size w w' := by
  have HOn := hide one3_any
  have HSM := hide (fun w => small3_any W H a n c w)
  rw [decide_eq_true hn3] at HSM
  have HX := hide hP
  have HS0 := hide hS
  have HO := hide (fun w (h : IsPx w a n p) => ownC_any W H a n c p w h (by omega))
  have HRT := hide (fun w => pright_any W H a n c w)
  rw [decide_eq_false hR] at HRT
  have HF := hide (fun w a c (h : Sent w A) => of_shape W H a n c w _ _ (h.cell 2 (by omega)) hR)
  have HCo := hide (fun w (h : Sent w A) => coded3_sent 2 3 w A h (by omega) rfl)
  clear hP hS hR hn3
  have HA := hide (al1 w (.cells #[.int .i64 W, .int .i64 H, .slice a n c] 24))
  obtain ⟨B, hB⟩ : ∃ B, B = w.heap.size := ⟨_, rfl⟩
  go_enter Tryd.func4, Tryd.ntmps4
  go_wp2_with fail
  generalize (w.alloc (.cells #[.int .i64 W, .int .i64 H, .slice a n c] 24)) = w1 at *
  rw [← hB] at HA ⊢
  obtain ⟨hs1, kp, hb1⟩ := unhide HA
  have HBE := hide hB
  clear HA hB
  have hs : B + 1 ≤ w1.heap.size := by omega
  have HB := hide hb1
  clear hs1 hb1
  have HXp := hide ((unhide HX).under (unhide HB) (fun x hx h0 => by rw [unhide HBE]; exact (unhide HX).lt x hx h0))
  have HSe := hide ((unhide HS0).below (by rw [← unhide HBE]; exact unhide HB))
  clear HX HS0
  refine (unhide HOn _).mono ?_
  rintro e w2 ⟨rfl, hbN⟩
  have hsz := hbN.size
  have kp := blk_below kp hbN (blk_lt kp)
  have HXp := hide ((unhide HXp).below hbN)
  have HSe := hide ((unhide HSe).below hbN)
  have HB := hide ((unhide HB).trans (hbN.mono (by omega)))
  have hs : B + 1 ≤ w2.heap.size := by omega
  clear hbN hsz
  have hlp : B < w2.heap.size := blk_lt kp
  have cp0 : w2.cell? ⟨B, 0, none⟩ = some (.int .i64 W) := blk_cell kp 0
  have cp1 : w2.cell? ⟨B, 1, none⟩ = some (.int .i64 H) := blk_cell kp 1
  have cp2 : w2.cell? ⟨B, 2, none⟩ = some (.slice a n c) := blk_cell kp 2
  go_wp2_with fail
  clear cp0 cp1 cp2 hlp
  refine (unhide HSM _).mono ?_
  rintro e w3 ⟨rfl, hbN⟩
  have hsz := hbN.size
  have kp := blk_below kp hbN (blk_lt kp)
  have HXp := hide ((unhide HXp).below hbN)
  have HSe := hide ((unhide HSe).below hbN)
  have HB := hide ((unhide HB).trans (hbN.mono (by omega)))
  have hs : B + 1 ≤ w3.heap.size := by omega
  clear hbN hsz
  have hlp : B < w3.heap.size := blk_lt kp
  have cp0 : w3.cell? ⟨B, 0, none⟩ = some (.int .i64 W) := blk_cell kp 0
  have cp1 : w3.cell? ⟨B, 1, none⟩ = some (.int .i64 H) := blk_cell kp 1
  have cp2 : w3.cell? ⟨B, 2, none⟩ = some (.slice a n c) := blk_cell kp 2
  go_wp2_with fail
  clear cp0 cp1 cp2 hlp
  refine (unhide HO w3 (unhide HXp)).mono ?_
  rintro e w4 ⟨a1, c1, rfl, hpx, hbN⟩
  have hsz := hbN.size
  have kp := blk_below kp hbN (blk_lt kp)
  have HXp := hide ((unhide HXp).below hbN)
  have HSe := hide ((unhide HSe).below hbN)
  have HB := hide ((unhide HB).trans (hbN.mono (by omega)))
  have hs : B + 1 ≤ w4.heap.size := by omega
  clear hbN hsz
  have HXo := hide hpx
  clear hpx
  have hlp : B < w4.heap.size := blk_lt kp
  have cp0 : w4.cell? ⟨B, 0, none⟩ = some (.int .i64 W) := blk_cell kp 0
  have cp1 : w4.cell? ⟨B, 1, none⟩ = some (.int .i64 H) := blk_cell kp 1
  have cp2 : w4.cell? ⟨B, 2, none⟩ = some (.slice a n c) := blk_cell kp 2
  go_wp2_with fail
  clear cp0 cp1 cp2 hlp
  refine (unhide HF w4 _ _ (unhide HSe)).mono ?_
  rintro e w5 ⟨rfl, hbN⟩
  have hsz := hbN.size
  have kp := blk_below kp hbN (blk_lt kp)
  have HXp := hide ((unhide HXp).below hbN)
  have HXo := hide ((unhide HXo).below hbN)
  have HSe := hide ((unhide HSe).below hbN)
  have HB := hide ((unhide HB).trans (hbN.mono (by omega)))
  have hs : B + 1 ≤ w5.heap.size := by omega
  clear hbN hsz
  clear HXo
  have hlp : B < w5.heap.size := blk_lt kp
  have cp0 : w5.cell? ⟨B, 0, none⟩ = some (.int .i64 W) := blk_cell kp 0
  have cp1 : w5.cell? ⟨B, 1, none⟩ = some (.int .i64 H) := blk_cell kp 1
  have cp2 : w5.cell? ⟨B, 2, none⟩ = some (.slice a n c) := blk_cell kp 2
  go_wp2_with fail
  clear cp0 cp1 cp2 hlp
  refine (unhide HRT w5).mono ?_
  rintro e w6 ⟨rfl, hbN⟩
  have hsz := hbN.size
  have kp := blk_below kp hbN (blk_lt kp)
  have HXp := hide ((unhide HXp).below hbN)
  have HSe := hide ((unhide HSe).below hbN)
  have HB := hide ((unhide HB).trans (hbN.mono (by omega)))
  have hs : B + 1 ≤ w6.heap.size := by omega
  clear hbN hsz
  have hlp : B < w6.heap.size := blk_lt kp
  have cp0 : w6.cell? ⟨B, 0, none⟩ = some (.int .i64 W) := blk_cell kp 0
  have cp1 : w6.cell? ⟨B, 1, none⟩ = some (.int .i64 H) := blk_cell kp 1
  have cp2 : w6.cell? ⟨B, 2, none⟩ = some (.slice a n c) := blk_cell kp 2
  go_wp2_with fail
  clear cp0 cp1 cp2 hlp
  refine (unhide HCo w6 (unhide HSe)).mono ?_
  rintro e w7 ⟨rfl, hbN⟩
  have hsz := hbN.size
  have kp := blk_below kp hbN (blk_lt kp)
  have HXp := hide ((unhide HXp).below hbN)
  have HSe := hide ((unhide HSe).below hbN)
  have HB := hide ((unhide HB).trans (hbN.mono (by omega)))
  have hs : B + 1 ≤ w7.heap.size := by omega
  clear hbN hsz
  have hlp : B < w7.heap.size := blk_lt kp
  have cp0 : w7.cell? ⟨B, 0, none⟩ = some (.int .i64 W) := blk_cell kp 0
  have cp1 : w7.cell? ⟨B, 1, none⟩ = some (.int .i64 H) := blk_cell kp 1
  have cp2 : w7.cell? ⟨B, 2, none⟩ = some (.slice a n c) := blk_cell kp 2
  go_wp2
  clear cp0 cp1 cp2 hlp
  go_ret
  exact ⟨rfl, by rw [← unhide HBE]; exact unhide HB⟩
set_option maxHeartbeats 4000000 in
set_option maxRecDepth 100000 in
theorem tilesOf_bound (W H : Nat) (a : Option Addr) (n c : Nat) (p : Nat → Px) (x y : Int) (w : World) (A : Nat → Addr) (hS : Sent w A) (hP : IsPx w a n p) (hn3 : n ≤ 3000) (hW0 : 1 ≤ W) (hW : W ≤ 256) (hH0 : 1 ≤ H) (hH : H ≤ 256) (hn : n = W * H) (hin : ¬ (0 ≤ x ∧ 0 ≤ y ∧ x < (W : Int) ∧ y < (H : Int))) :
    Calls Tryd.prog 4 #[.agg #[.int .i64 (W : Int), .int .i64 (H : Int), .slice a n c], .int .i64 x, .int .i64 y] w fun e w' => e = .returned (.bool true) ∧ Below w.heap.size w w' := by
  have HOn := hide one3_any
  have HSM := hide (fun w => small3_any (W : Int) (H : Int) a n c w)
  rw [decide_eq_true hn3] at HSM
  have HX := hide hP
  have HS0 := hide hS
  have HO := hide (fun w (h : IsPx w a n p) => ownC_any (W : Int) (H : Int) a n c p w h (by omega))
  have HRT := hide (fun w => pright_any (W : Int) (H : Int) a n c w)
  rw [decide_eq_true (rightT hW0 hW hH0 hH hn)] at HRT
  have HF := hide (fun w a c (h : IsPxC w a n c p) => ofP_any W H a n c p w h hW0 hW hH0 hH hn)
  have hM3 : W * H ≤ 100000 := by omega
  have HPi := hide (fun w g (h : GridOf w g W H p) => picP_any g W H p w h hW0 hW hH0 hH)
  have HSP := hide (fun w b (h1 : IsPx w b n p) (h2 : IsPx w a n p) => samePicture_any (W : Int) (H : Int) b a n n c p w h1 h2 (by omega))
  have HPl := hide (fun w g (h : GridOf w g W H p) => plain_of g W H p w h hW0 hW hH0 hH)
  have HPO := hide (fun w (h : IsPx w a n p) => plainOf_any W H a n c p w h hW0 hW hH hn)
  have HSz := hide (fun w g (h : GridOf w g W H p) => size_some g W H _ _ w h (grid_pos hW0 hH0))
  have HIN := hide (fun w => inP_any (W : Int) (H : Int) x y a n c w)
  generalize (fnd (fun i => decide (Alk (tpx W p i) (tpn W H i))) (tn W H)).length = pl at *
  rw [← hn] at HPi
  rw [decide_eq_false hin] at HIN
  have HAt := hide (fun w g (h : GridOf w g W H p) (hs : Sent w A) => tAt_bound g W H _ _ x y w h (grid_pos hW0 hH0) _ _ (hs.cell 1 (by omega)) (fun k => hin ⟨k.1, k.2.2.1, k.2.1, k.2.2.2⟩))
  have HCo := hide (fun w (h : Sent w A) => coded3_sent 1 2 w A h (by omega) rfl)
  clear hP hS hin hn3 hW0 hW hH0 hH hn hM3
  have HA := hide (al1 w (.cells #[.int .i64 (W : Int), .int .i64 (H : Int), .slice a n c] 24))
  obtain ⟨B, hB⟩ : ∃ B, B = w.heap.size := ⟨_, rfl⟩
  go_enter Tryd.func4, Tryd.ntmps4
  go_wp2_with fail
  generalize (w.alloc (.cells #[.int .i64 (W : Int), .int .i64 (H : Int), .slice a n c] 24)) = w1 at *
  rw [← hB] at HA ⊢
  obtain ⟨hs1, kp, hb1⟩ := unhide HA
  have HBE := hide hB
  clear HA hB
  have hs : B + 1 ≤ w1.heap.size := by omega
  have HB := hide hb1
  clear hs1 hb1
  have HXp := hide ((unhide HX).under (unhide HB) (fun x hx h0 => by rw [unhide HBE]; exact (unhide HX).lt x hx h0))
  have HSe := hide ((unhide HS0).below (by rw [← unhide HBE]; exact unhide HB))
  clear HX HS0
  refine (unhide HOn _).mono ?_
  rintro e w2 ⟨rfl, hbN⟩
  have hsz := hbN.size
  have kp := blk_below kp hbN (blk_lt kp)
  have HXp := hide ((unhide HXp).below hbN)
  have HSe := hide ((unhide HSe).below hbN)
  have HB := hide ((unhide HB).trans (hbN.mono (by omega)))
  have hs : B + 1 ≤ w2.heap.size := by omega
  clear hbN hsz
  have hlp : B < w2.heap.size := blk_lt kp
  have cp0 : w2.cell? ⟨B, 0, none⟩ = some (.int .i64 (W : Int)) := blk_cell kp 0
  have cp1 : w2.cell? ⟨B, 1, none⟩ = some (.int .i64 (H : Int)) := blk_cell kp 1
  have cp2 : w2.cell? ⟨B, 2, none⟩ = some (.slice a n c) := blk_cell kp 2
  go_wp2_with fail
  clear cp0 cp1 cp2 hlp
  refine (unhide HSM _).mono ?_
  rintro e w3 ⟨rfl, hbN⟩
  have hsz := hbN.size
  have kp := blk_below kp hbN (blk_lt kp)
  have HXp := hide ((unhide HXp).below hbN)
  have HSe := hide ((unhide HSe).below hbN)
  have HB := hide ((unhide HB).trans (hbN.mono (by omega)))
  have hs : B + 1 ≤ w3.heap.size := by omega
  clear hbN hsz
  have hlp : B < w3.heap.size := blk_lt kp
  have cp0 : w3.cell? ⟨B, 0, none⟩ = some (.int .i64 (W : Int)) := blk_cell kp 0
  have cp1 : w3.cell? ⟨B, 1, none⟩ = some (.int .i64 (H : Int)) := blk_cell kp 1
  have cp2 : w3.cell? ⟨B, 2, none⟩ = some (.slice a n c) := blk_cell kp 2
  go_wp2_with fail
  clear cp0 cp1 cp2 hlp
  refine (unhide HO w3 (unhide HXp)).mono ?_
  rintro e w4 ⟨a1, c1, rfl, hpx, hbN⟩
  have hsz := hbN.size
  have kp := blk_below kp hbN (blk_lt kp)
  have HXp := hide ((unhide HXp).below hbN)
  have HSe := hide ((unhide HSe).below hbN)
  have HB := hide ((unhide HB).trans (hbN.mono (by omega)))
  have hs : B + 1 ≤ w4.heap.size := by omega
  clear hbN hsz
  have HXo := hide hpx
  clear hpx
  have hlp : B < w4.heap.size := blk_lt kp
  have cp0 : w4.cell? ⟨B, 0, none⟩ = some (.int .i64 (W : Int)) := blk_cell kp 0
  have cp1 : w4.cell? ⟨B, 1, none⟩ = some (.int .i64 (H : Int)) := blk_cell kp 1
  have cp2 : w4.cell? ⟨B, 2, none⟩ = some (.slice a n c) := blk_cell kp 2
  go_wp2_with fail
  clear cp0 cp1 cp2 hlp
  refine (unhide HF w4 _ _ (unhide HXo)).mono ?_
  rintro e w5 ⟨g, rfl, hpx, hbN⟩
  have hsz := hbN.size
  have kp := blk_below kp hbN (blk_lt kp)
  have HXp := hide ((unhide HXp).below hbN)
  have HXo := hide ((unhide HXo).below hbN)
  have HSe := hide ((unhide HSe).below hbN)
  have HB := hide ((unhide HB).trans (hbN.mono (by omega)))
  have hs : B + 1 ≤ w5.heap.size := by omega
  clear hbN hsz
  have HXg := hide hpx
  clear hpx
  clear HXo
  have hlp : B < w5.heap.size := blk_lt kp
  have cp0 : w5.cell? ⟨B, 0, none⟩ = some (.int .i64 (W : Int)) := blk_cell kp 0
  have cp1 : w5.cell? ⟨B, 1, none⟩ = some (.int .i64 (H : Int)) := blk_cell kp 1
  have cp2 : w5.cell? ⟨B, 2, none⟩ = some (.slice a n c) := blk_cell kp 2
  go_wp2_with fail
  clear cp0 cp1 cp2 hlp
  refine (unhide HRT w5).mono ?_
  rintro e w6 ⟨rfl, hbN⟩
  have hsz := hbN.size
  have kp := blk_below kp hbN (blk_lt kp)
  have HXp := hide ((unhide HXp).below hbN)
  have HXg := hide ((unhide HXg).below hbN)
  have HSe := hide ((unhide HSe).below hbN)
  have HB := hide ((unhide HB).trans (hbN.mono (by omega)))
  have hs : B + 1 ≤ w6.heap.size := by omega
  clear hbN hsz
  have hlp : B < w6.heap.size := blk_lt kp
  have cp0 : w6.cell? ⟨B, 0, none⟩ = some (.int .i64 (W : Int)) := blk_cell kp 0
  have cp1 : w6.cell? ⟨B, 1, none⟩ = some (.int .i64 (H : Int)) := blk_cell kp 1
  have cp2 : w6.cell? ⟨B, 2, none⟩ = some (.slice a n c) := blk_cell kp 2
  go_wp2
  clear cp0 cp1 cp2 hlp
  have hlp : B < w6.heap.size := blk_lt kp
  have cp0 : w6.cell? ⟨B, 0, none⟩ = some (.int .i64 (W : Int)) := blk_cell kp 0
  have cp1 : w6.cell? ⟨B, 1, none⟩ = some (.int .i64 (H : Int)) := blk_cell kp 1
  have cp2 : w6.cell? ⟨B, 2, none⟩ = some (.slice a n c) := blk_cell kp 2
  have hdr := (Below.refl w6.heap.size w6).drew
  go_region_held (fun w' => w'.cell? ⟨B, 0, none⟩ = some (.int .i64 (W : Int)) ∧ w'.cell? ⟨B, 1, none⟩ = some (.int .i64 (H : Int)) ∧ w'.cell? ⟨B, 2, none⟩ = some (.slice a n c)) (first | with_reducible exact ⟨(unhide hkw10 _ _ hlp).trans cp0, (unhide hkw10 _ _ hlp).trans cp1, (unhide hkw10 _ _ hlp).trans cp2⟩ | with_reducible exact ⟨(unhide hkw9 _ _ hlp).trans cp0, (unhide hkw9 _ _ hlp).trans cp1, (unhide hkw9 _ _ hlp).trans cp2⟩ | with_reducible exact ⟨(unhide hkw8 _ _ hlp).trans cp0, (unhide hkw8 _ _ hlp).trans cp1, (unhide hkw8 _ _ hlp).trans cp2⟩ | with_reducible exact ⟨(unhide hkw7 _ _ hlp).trans cp0, (unhide hkw7 _ _ hlp).trans cp1, (unhide hkw7 _ _ hlp).trans cp2⟩ | exact ⟨cp0, cp1, cp2⟩) (first | (go_at_call 18; refine (unhide HPi w6.drew g ((unhide HXg).below hdr)).mono ?_; rintro e w7 ⟨ai, rfl, hpi, hbw7⟩; have hqw7 := hdr.trans (hbw7.mono (by exact Nat.le_refl _)); have hkw7 := hide (fun (k o : Nat) (h : k < w6.heap.size) => hqw7.cell (p := ⟨k, o, none⟩) h)) | (go_at_call 13; refine (unhide HSP w7 ai hpi ((unhide HXp).below hqw7)).mono ?_; rintro e w8 ⟨rfl, hbw8⟩; have hqw8 := hqw7.trans (hbw8.mono (by exact hqw7.size)); have hkw8 := hide (fun (k o : Nat) (h : k < w6.heap.size) => hqw8.cell (p := ⟨k, o, none⟩) h)) | (go_at_call 19; refine (unhide HPl w8 g ((unhide HXg).below hqw8)).mono ?_; rintro e w9 ⟨rfl, hbw9⟩; have hqw9 := hqw8.trans (hbw9.mono (by exact hqw8.size)); have hkw9 := hide (fun (k o : Nat) (h : k < w6.heap.size) => hqw9.cell (p := ⟨k, o, none⟩) h)) | (go_at_call 20; refine (unhide HPO w9 ((unhide HXp).below hqw9)).mono ?_; rintro e w10 ⟨rfl, hbw10⟩; have hqw10 := hqw9.trans (hbw10.mono (by exact hqw9.size)); have hkw10 := hide (fun (k o : Nat) (h : k < w6.heap.size) => hqw10.cell (p := ⟨k, o, none⟩) h)))
  clear cp0 cp1 cp2 hlp
  have hbN := hqw10
  clear hdr hkw7 hkw8 hkw9 hkw10
  have hsz := hbN.size
  have kp := blk_below kp hbN (blk_lt kp)
  have HXp := hide ((unhide HXp).below hbN)
  have HXg := hide ((unhide HXg).below hbN)
  have HSe := hide ((unhide HSe).below hbN)
  have HB := hide ((unhide HB).trans (hbN.mono (by omega)))
  have hs : B + 1 ≤ w10.heap.size := by omega
  clear hbN hsz
  clear hpi
  have hlp : B < w10.heap.size := blk_lt kp
  have cp0 : w10.cell? ⟨B, 0, none⟩ = some (.int .i64 (W : Int)) := blk_cell kp 0
  have cp1 : w10.cell? ⟨B, 1, none⟩ = some (.int .i64 (H : Int)) := blk_cell kp 1
  have cp2 : w10.cell? ⟨B, 2, none⟩ = some (.slice a n c) := blk_cell kp 2
  go_wp2_with fail
  clear cp0 cp1 cp2 hlp
  refine (unhide HSz w10 g (unhide HXg)).mono ?_
  rintro e w11 ⟨rfl, hbN⟩
  have hsz := hbN.size
  have kp := blk_below kp hbN (blk_lt kp)
  have HXp := hide ((unhide HXp).below hbN)
  have HXg := hide ((unhide HXg).below hbN)
  have HSe := hide ((unhide HSe).below hbN)
  have HB := hide ((unhide HB).trans (hbN.mono (by omega)))
  have hs : B + 1 ≤ w11.heap.size := by omega
  clear hbN hsz
  have hlp : B < w11.heap.size := blk_lt kp
  have cp0 : w11.cell? ⟨B, 0, none⟩ = some (.int .i64 (W : Int)) := blk_cell kp 0
  have cp1 : w11.cell? ⟨B, 1, none⟩ = some (.int .i64 (H : Int)) := blk_cell kp 1
  have cp2 : w11.cell? ⟨B, 2, none⟩ = some (.slice a n c) := blk_cell kp 2
  go_wp2_with fail
  clear cp0 cp1 cp2 hlp
  refine (unhide HAt w11 g (unhide HXg) (unhide HSe)).mono ?_
  rintro e w12 ⟨rfl, hbN⟩
  have hsz := hbN.size
  have kp := blk_below kp hbN (blk_lt kp)
  have HXp := hide ((unhide HXp).below hbN)
  have HXg := hide ((unhide HXg).below hbN)
  have HSe := hide ((unhide HSe).below hbN)
  have HB := hide ((unhide HB).trans (hbN.mono (by omega)))
  have hs : B + 1 ≤ w12.heap.size := by omega
  clear hbN hsz
  have hlp : B < w12.heap.size := blk_lt kp
  have cp0 : w12.cell? ⟨B, 0, none⟩ = some (.int .i64 (W : Int)) := blk_cell kp 0
  have cp1 : w12.cell? ⟨B, 1, none⟩ = some (.int .i64 (H : Int)) := blk_cell kp 1
  have cp2 : w12.cell? ⟨B, 2, none⟩ = some (.slice a n c) := blk_cell kp 2
  have HA := hide (al1 w12 (.cells #[.int .u8 0, .int .u8 0, .int .u8 0, .int .u8 0] 26))
  obtain ⟨bZ, heqZ⟩ : ∃ b, b = w12.heap.size := ⟨_, rfl⟩
  go_wp2_with fail
  clear cp0 cp1 cp2 hlp
  generalize w12.alloc (.cells #[.int .u8 0, .int .u8 0, .int .u8 0, .int .u8 0] 26) = w13 at *
  rw [← heqZ] at HA ⊢
  obtain ⟨hsA, kZ, hbA⟩ := unhide HA
  rw [heqZ] at hbA
  have ltZp : B < bZ := by rw [heqZ]; exact blk_lt kp
  have hgB : B ≤ bZ := by rw [heqZ]; omega
  clear HA
  have hsz := hbA.size
  have kp := blk_below kp hbA (blk_lt kp)
  have HXp := hide ((unhide HXp).below hbA)
  have HXg := hide ((unhide HXg).below hbA)
  have HSe := hide ((unhide HSe).below hbA)
  have HB := hide ((unhide HB).trans (hbA.mono (by omega)))
  have hs : B + 1 ≤ w13.heap.size := by omega
  clear hbA hsz
  clear heqZ hsA
  refine (unhide HIN _).mono ?_
  rintro e w14 ⟨rfl, hbN⟩
  have hsz := hbN.size
  have kp := blk_below kp hbN (blk_lt kp)
  have kZ := blk_below kZ hbN (blk_lt kZ)
  have HXp := hide ((unhide HXp).below hbN)
  have HXg := hide ((unhide HXg).below hbN)
  have HSe := hide ((unhide HSe).below hbN)
  have HB := hide ((unhide HB).trans (hbN.mono (by omega)))
  have hs : B + 1 ≤ w14.heap.size := by omega
  clear hbN hsz
  have hlp : B < w14.heap.size := blk_lt kp
  have cp0 : w14.cell? ⟨B, 0, none⟩ = some (.int .i64 (W : Int)) := blk_cell kp 0
  have cp1 : w14.cell? ⟨B, 1, none⟩ = some (.int .i64 (H : Int)) := blk_cell kp 1
  have cp2 : w14.cell? ⟨B, 2, none⟩ = some (.slice a n c) := blk_cell kp 2
  have hlZ : bZ < w14.heap.size := blk_lt kZ
  have cZ0 : w14.cell? ⟨bZ, 0, none⟩ = some (.int .u8 0) := blk_cell kZ 0
  have cZ1 : w14.cell? ⟨bZ, 1, none⟩ = some (.int .u8 0) := blk_cell kZ 1
  have cZ2 : w14.cell? ⟨bZ, 2, none⟩ = some (.int .u8 0) := blk_cell kZ 2
  have cZ3 : w14.cell? ⟨bZ, 3, none⟩ = some (.int .u8 0) := blk_cell kZ 3
  go_wp2_with fail
  clear cp0 cp1 cp2 cZ0 cZ1 cZ2 cZ3 hlp hlZ
  refine (unhide HCo w14 (unhide HSe)).mono ?_
  rintro e w15 ⟨rfl, hbN⟩
  have hsz := hbN.size
  have kp := blk_below kp hbN (blk_lt kp)
  have kZ := blk_below kZ hbN (blk_lt kZ)
  have HXp := hide ((unhide HXp).below hbN)
  have HXg := hide ((unhide HXg).below hbN)
  have HSe := hide ((unhide HSe).below hbN)
  have HB := hide ((unhide HB).trans (hbN.mono (by omega)))
  have hs : B + 1 ≤ w15.heap.size := by omega
  clear hbN hsz
  have hlp : B < w15.heap.size := blk_lt kp
  have cp0 : w15.cell? ⟨B, 0, none⟩ = some (.int .i64 (W : Int)) := blk_cell kp 0
  have cp1 : w15.cell? ⟨B, 1, none⟩ = some (.int .i64 (H : Int)) := blk_cell kp 1
  have cp2 : w15.cell? ⟨B, 2, none⟩ = some (.slice a n c) := blk_cell kp 2
  have hlZ : bZ < w15.heap.size := blk_lt kZ
  have cZ0 : w15.cell? ⟨bZ, 0, none⟩ = some (.int .u8 0) := blk_cell kZ 0
  have cZ1 : w15.cell? ⟨bZ, 1, none⟩ = some (.int .u8 0) := blk_cell kZ 1
  have cZ2 : w15.cell? ⟨bZ, 2, none⟩ = some (.int .u8 0) := blk_cell kZ 2
  have cZ3 : w15.cell? ⟨bZ, 3, none⟩ = some (.int .u8 0) := blk_cell kZ 3
  go_wp2
  clear cp0 cp1 cp2 cZ0 cZ1 cZ2 cZ3 hlp hlZ
  go_ret
  exact ⟨rfl, by rw [← unhide HBE]; exact unhide HB⟩
set_option maxHeartbeats 4000000 in
set_option maxRecDepth 100000 in
theorem tilesOf_ok (W H : Nat) (a : Option Addr) (n c : Nat) (p : Nat → Px) (x y : Nat) (w : World) (A : Nat → Addr) (hS : Sent w A) (hP : IsPx w a n p) (hn3 : n ≤ 3000) (hW0 : 1 ≤ W) (hW : W ≤ 256) (hH0 : 1 ≤ H) (hH : H ≤ 256) (hn : n = W * H) (hx : x < W) (hy : y < H) :
    Calls Tryd.prog 4 #[.agg #[.int .i64 (W : Int), .int .i64 (H : Int), .slice a n c], .int .i64 (x : Int), .int .i64 (y : Int)] w fun e w' => e = .returned (.bool true) ∧ Below w.heap.size w w' := by
  have HOn := hide one3_any
  have HSM := hide (fun w => small3_any (W : Int) (H : Int) a n c w)
  rw [decide_eq_true hn3] at HSM
  have HX := hide hP
  have HS0 := hide hS
  have HO := hide (fun w (h : IsPx w a n p) => ownC_any (W : Int) (H : Int) a n c p w h (by omega))
  have HRT := hide (fun w => pright_any (W : Int) (H : Int) a n c w)
  rw [decide_eq_true (rightT hW0 hW hH0 hH hn)] at HRT
  have HF := hide (fun w a c (h : IsPxC w a n c p) => ofP_any W H a n c p w h hW0 hW hH0 hH hn)
  have hM3 : W * H ≤ 100000 := by omega
  have HPi := hide (fun w g (h : GridOf w g W H p) => picP_any g W H p w h hW0 hW hH0 hH)
  have HSP := hide (fun w b (h1 : IsPx w b n p) (h2 : IsPx w a n p) => samePicture_any (W : Int) (H : Int) b a n n c p w h1 h2 (by omega))
  have HPl := hide (fun w g (h : GridOf w g W H p) => plain_of g W H p w h hW0 hW hH0 hH)
  have HPO := hide (fun w (h : IsPx w a n p) => plainOf_any W H a n c p w h hW0 hW hH hn)
  have HSz := hide (fun w g (h : GridOf w g W H p) => size_some g W H _ _ w h (grid_pos hW0 hH0))
  have HIN := hide (fun w => inP_any (W : Int) (H : Int) (x : Int) (y : Int) a n c w)
  generalize (fnd (fun i => decide (Alk (tpx W p i) (tpn W H i))) (tn W H)).length = pl at *
  rw [← hn] at HPi
  rw [decide_eq_true (show (0 : Int) ≤ x ∧ (0 : Int) ≤ y ∧ (x : Int) < W ∧ (y : Int) < H by omega)] at HIN
  have HAt := hide (fun w g (h : GridOf w g W H p) => tAt_ok g W H x y p w h hW0 hW hH0 hH hx hy)
  have hlt : y * W + x < n := by
    rw [hn, Nat.mul_comm W H]
    have := Nat.mul_le_mul_right W (show y + 1 ≤ H by omega)
    rw [Nat.succ_mul] at this
    omega
  have hyW : y * W ≤ 65536 := Nat.mul_le_mul (show y ≤ 256 by omega) hW
  obtain ⟨t, ht⟩ : ∃ t, t = y * W := ⟨_, rfl⟩
  have zt : (y : Int) * (W : Int) = (t : Int) := by rw [ht]; simp
  rw [← ht] at hlt hyW HAt
  have wt : IntKind.i64.wrap (t : Int) = (t : Int) := by rw [IntKind.wrap_i64]; omega
  obtain ⟨k, hk⟩ : ∃ k, k = t + x := ⟨_, rfl⟩
  have e0 : (t : Int) + (x : Int) = (k : Int) := by rw [hk]; simp
  rw [← hk] at hlt HAt
  have wk : IntKind.i64.wrap (k : Int) = (k : Int) := by rw [IntKind.wrap_i64]; omega
  have hkn : (k : Int) < (n : Int) := by omega
  unfold Px.val at HAt
  clear hP hS hx hy ht hk hW0 hW hH0 hH hn hM3
  have HA := hide (al1 w (.cells #[.int .i64 (W : Int), .int .i64 (H : Int), .slice a n c] 24))
  obtain ⟨B, hB⟩ : ∃ B, B = w.heap.size := ⟨_, rfl⟩
  go_enter Tryd.func4, Tryd.ntmps4
  go_wp2_with fail
  generalize (w.alloc (.cells #[.int .i64 (W : Int), .int .i64 (H : Int), .slice a n c] 24)) = w1 at *
  rw [← hB] at HA ⊢
  obtain ⟨hs1, kp, hb1⟩ := unhide HA
  have HBE := hide hB
  clear HA hB
  have hs : B + 1 ≤ w1.heap.size := by omega
  have HB := hide hb1
  clear hs1 hb1
  have HXp := hide ((unhide HX).under (unhide HB) (fun x hx h0 => by rw [unhide HBE]; exact (unhide HX).lt x hx h0))
  have HSe := hide ((unhide HS0).below (by rw [← unhide HBE]; exact unhide HB))
  clear HX HS0
  refine (unhide HOn _).mono ?_
  rintro e w2 ⟨rfl, hbN⟩
  have hsz := hbN.size
  have kp := blk_below kp hbN (blk_lt kp)
  have HXp := hide ((unhide HXp).below hbN)
  have HSe := hide ((unhide HSe).below hbN)
  have HB := hide ((unhide HB).trans (hbN.mono (by omega)))
  have hs : B + 1 ≤ w2.heap.size := by omega
  clear hbN hsz
  have hlp : B < w2.heap.size := blk_lt kp
  have cp0 : w2.cell? ⟨B, 0, none⟩ = some (.int .i64 (W : Int)) := blk_cell kp 0
  have cp1 : w2.cell? ⟨B, 1, none⟩ = some (.int .i64 (H : Int)) := blk_cell kp 1
  have cp2 : w2.cell? ⟨B, 2, none⟩ = some (.slice a n c) := blk_cell kp 2
  go_wp2_with fail
  clear cp0 cp1 cp2 hlp
  refine (unhide HSM _).mono ?_
  rintro e w3 ⟨rfl, hbN⟩
  have hsz := hbN.size
  have kp := blk_below kp hbN (blk_lt kp)
  have HXp := hide ((unhide HXp).below hbN)
  have HSe := hide ((unhide HSe).below hbN)
  have HB := hide ((unhide HB).trans (hbN.mono (by omega)))
  have hs : B + 1 ≤ w3.heap.size := by omega
  clear hbN hsz
  have hlp : B < w3.heap.size := blk_lt kp
  have cp0 : w3.cell? ⟨B, 0, none⟩ = some (.int .i64 (W : Int)) := blk_cell kp 0
  have cp1 : w3.cell? ⟨B, 1, none⟩ = some (.int .i64 (H : Int)) := blk_cell kp 1
  have cp2 : w3.cell? ⟨B, 2, none⟩ = some (.slice a n c) := blk_cell kp 2
  go_wp2_with fail
  clear cp0 cp1 cp2 hlp
  refine (unhide HO w3 (unhide HXp)).mono ?_
  rintro e w4 ⟨a1, c1, rfl, hpx, hbN⟩
  have hsz := hbN.size
  have kp := blk_below kp hbN (blk_lt kp)
  have HXp := hide ((unhide HXp).below hbN)
  have HSe := hide ((unhide HSe).below hbN)
  have HB := hide ((unhide HB).trans (hbN.mono (by omega)))
  have hs : B + 1 ≤ w4.heap.size := by omega
  clear hbN hsz
  have HXo := hide hpx
  clear hpx
  have hlp : B < w4.heap.size := blk_lt kp
  have cp0 : w4.cell? ⟨B, 0, none⟩ = some (.int .i64 (W : Int)) := blk_cell kp 0
  have cp1 : w4.cell? ⟨B, 1, none⟩ = some (.int .i64 (H : Int)) := blk_cell kp 1
  have cp2 : w4.cell? ⟨B, 2, none⟩ = some (.slice a n c) := blk_cell kp 2
  go_wp2_with fail
  clear cp0 cp1 cp2 hlp
  refine (unhide HF w4 _ _ (unhide HXo)).mono ?_
  rintro e w5 ⟨g, rfl, hpx, hbN⟩
  have hsz := hbN.size
  have kp := blk_below kp hbN (blk_lt kp)
  have HXp := hide ((unhide HXp).below hbN)
  have HXo := hide ((unhide HXo).below hbN)
  have HSe := hide ((unhide HSe).below hbN)
  have HB := hide ((unhide HB).trans (hbN.mono (by omega)))
  have hs : B + 1 ≤ w5.heap.size := by omega
  clear hbN hsz
  have HXg := hide hpx
  clear hpx
  clear HXo
  have hlp : B < w5.heap.size := blk_lt kp
  have cp0 : w5.cell? ⟨B, 0, none⟩ = some (.int .i64 (W : Int)) := blk_cell kp 0
  have cp1 : w5.cell? ⟨B, 1, none⟩ = some (.int .i64 (H : Int)) := blk_cell kp 1
  have cp2 : w5.cell? ⟨B, 2, none⟩ = some (.slice a n c) := blk_cell kp 2
  go_wp2_with fail
  clear cp0 cp1 cp2 hlp
  refine (unhide HRT w5).mono ?_
  rintro e w6 ⟨rfl, hbN⟩
  have hsz := hbN.size
  have kp := blk_below kp hbN (blk_lt kp)
  have HXp := hide ((unhide HXp).below hbN)
  have HXg := hide ((unhide HXg).below hbN)
  have HSe := hide ((unhide HSe).below hbN)
  have HB := hide ((unhide HB).trans (hbN.mono (by omega)))
  have hs : B + 1 ≤ w6.heap.size := by omega
  clear hbN hsz
  have hlp : B < w6.heap.size := blk_lt kp
  have cp0 : w6.cell? ⟨B, 0, none⟩ = some (.int .i64 (W : Int)) := blk_cell kp 0
  have cp1 : w6.cell? ⟨B, 1, none⟩ = some (.int .i64 (H : Int)) := blk_cell kp 1
  have cp2 : w6.cell? ⟨B, 2, none⟩ = some (.slice a n c) := blk_cell kp 2
  go_wp2
  clear cp0 cp1 cp2 hlp
  have hlp : B < w6.heap.size := blk_lt kp
  have cp0 : w6.cell? ⟨B, 0, none⟩ = some (.int .i64 (W : Int)) := blk_cell kp 0
  have cp1 : w6.cell? ⟨B, 1, none⟩ = some (.int .i64 (H : Int)) := blk_cell kp 1
  have cp2 : w6.cell? ⟨B, 2, none⟩ = some (.slice a n c) := blk_cell kp 2
  have hdr := (Below.refl w6.heap.size w6).drew
  go_region_held (fun w' => w'.cell? ⟨B, 0, none⟩ = some (.int .i64 (W : Int)) ∧ w'.cell? ⟨B, 1, none⟩ = some (.int .i64 (H : Int)) ∧ w'.cell? ⟨B, 2, none⟩ = some (.slice a n c)) (first | with_reducible exact ⟨(unhide hkw10 _ _ hlp).trans cp0, (unhide hkw10 _ _ hlp).trans cp1, (unhide hkw10 _ _ hlp).trans cp2⟩ | with_reducible exact ⟨(unhide hkw9 _ _ hlp).trans cp0, (unhide hkw9 _ _ hlp).trans cp1, (unhide hkw9 _ _ hlp).trans cp2⟩ | with_reducible exact ⟨(unhide hkw8 _ _ hlp).trans cp0, (unhide hkw8 _ _ hlp).trans cp1, (unhide hkw8 _ _ hlp).trans cp2⟩ | with_reducible exact ⟨(unhide hkw7 _ _ hlp).trans cp0, (unhide hkw7 _ _ hlp).trans cp1, (unhide hkw7 _ _ hlp).trans cp2⟩ | exact ⟨cp0, cp1, cp2⟩) (first | (go_at_call 18; refine (unhide HPi w6.drew g ((unhide HXg).below hdr)).mono ?_; rintro e w7 ⟨ai, rfl, hpi, hbw7⟩; have hqw7 := hdr.trans (hbw7.mono (by exact Nat.le_refl _)); have hkw7 := hide (fun (k o : Nat) (h : k < w6.heap.size) => hqw7.cell (p := ⟨k, o, none⟩) h)) | (go_at_call 13; refine (unhide HSP w7 ai hpi ((unhide HXp).below hqw7)).mono ?_; rintro e w8 ⟨rfl, hbw8⟩; have hqw8 := hqw7.trans (hbw8.mono (by exact hqw7.size)); have hkw8 := hide (fun (k o : Nat) (h : k < w6.heap.size) => hqw8.cell (p := ⟨k, o, none⟩) h)) | (go_at_call 19; refine (unhide HPl w8 g ((unhide HXg).below hqw8)).mono ?_; rintro e w9 ⟨rfl, hbw9⟩; have hqw9 := hqw8.trans (hbw9.mono (by exact hqw8.size)); have hkw9 := hide (fun (k o : Nat) (h : k < w6.heap.size) => hqw9.cell (p := ⟨k, o, none⟩) h)) | (go_at_call 20; refine (unhide HPO w9 ((unhide HXp).below hqw9)).mono ?_; rintro e w10 ⟨rfl, hbw10⟩; have hqw10 := hqw9.trans (hbw10.mono (by exact hqw9.size)); have hkw10 := hide (fun (k o : Nat) (h : k < w6.heap.size) => hqw10.cell (p := ⟨k, o, none⟩) h)))
  clear cp0 cp1 cp2 hlp
  have hbN := hqw10
  clear hdr hkw7 hkw8 hkw9 hkw10
  have hsz := hbN.size
  have kp := blk_below kp hbN (blk_lt kp)
  have HXp := hide ((unhide HXp).below hbN)
  have HXg := hide ((unhide HXg).below hbN)
  have HSe := hide ((unhide HSe).below hbN)
  have HB := hide ((unhide HB).trans (hbN.mono (by omega)))
  have hs : B + 1 ≤ w10.heap.size := by omega
  clear hbN hsz
  clear hpi
  have hlp : B < w10.heap.size := blk_lt kp
  have cp0 : w10.cell? ⟨B, 0, none⟩ = some (.int .i64 (W : Int)) := blk_cell kp 0
  have cp1 : w10.cell? ⟨B, 1, none⟩ = some (.int .i64 (H : Int)) := blk_cell kp 1
  have cp2 : w10.cell? ⟨B, 2, none⟩ = some (.slice a n c) := blk_cell kp 2
  go_wp2_with fail
  clear cp0 cp1 cp2 hlp
  refine (unhide HSz w10 g (unhide HXg)).mono ?_
  rintro e w11 ⟨rfl, hbN⟩
  have hsz := hbN.size
  have kp := blk_below kp hbN (blk_lt kp)
  have HXp := hide ((unhide HXp).below hbN)
  have HXg := hide ((unhide HXg).below hbN)
  have HSe := hide ((unhide HSe).below hbN)
  have HB := hide ((unhide HB).trans (hbN.mono (by omega)))
  have hs : B + 1 ≤ w11.heap.size := by omega
  clear hbN hsz
  have hlp : B < w11.heap.size := blk_lt kp
  have cp0 : w11.cell? ⟨B, 0, none⟩ = some (.int .i64 (W : Int)) := blk_cell kp 0
  have cp1 : w11.cell? ⟨B, 1, none⟩ = some (.int .i64 (H : Int)) := blk_cell kp 1
  have cp2 : w11.cell? ⟨B, 2, none⟩ = some (.slice a n c) := blk_cell kp 2
  go_wp2_with fail
  clear cp0 cp1 cp2 hlp
  refine (unhide HAt w11 g (unhide HXg)).mono ?_
  rintro e w12 ⟨rfl, hbN⟩
  have hsz := hbN.size
  have kp := blk_below kp hbN (blk_lt kp)
  have HXp := hide ((unhide HXp).below hbN)
  have HXg := hide ((unhide HXg).below hbN)
  have HSe := hide ((unhide HSe).below hbN)
  have HB := hide ((unhide HB).trans (hbN.mono (by omega)))
  have hs : B + 1 ≤ w12.heap.size := by omega
  clear hbN hsz
  generalize hqk : p k = qk at *
  have hlp : B < w12.heap.size := blk_lt kp
  have cp0 : w12.cell? ⟨B, 0, none⟩ = some (.int .i64 (W : Int)) := blk_cell kp 0
  have cp1 : w12.cell? ⟨B, 1, none⟩ = some (.int .i64 (H : Int)) := blk_cell kp 1
  have cp2 : w12.cell? ⟨B, 2, none⟩ = some (.slice a n c) := blk_cell kp 2
  have HA := hide (al1 w12 (.cells #[.int .u8 (qk.r.toNat : Int), .int .u8 (qk.g.toNat : Int), .int .u8 (qk.b.toNat : Int), .int .u8 (qk.a.toNat : Int)] 26))
  obtain ⟨bZ, heqZ⟩ : ∃ b, b = w12.heap.size := ⟨_, rfl⟩
  go_wp2_with fail
  clear cp0 cp1 cp2 hlp
  generalize w12.alloc (.cells #[.int .u8 (qk.r.toNat : Int), .int .u8 (qk.g.toNat : Int), .int .u8 (qk.b.toNat : Int), .int .u8 (qk.a.toNat : Int)] 26) = w13 at *
  rw [← heqZ] at HA ⊢
  obtain ⟨hsA, kZ, hbA⟩ := unhide HA
  rw [heqZ] at hbA
  have ltZp : B < bZ := by rw [heqZ]; exact blk_lt kp
  have hgB : B ≤ bZ := by rw [heqZ]; omega
  clear HA
  have hsz := hbA.size
  have kp := blk_below kp hbA (blk_lt kp)
  have HXp := hide ((unhide HXp).below hbA)
  have HXg := hide ((unhide HXg).below hbA)
  have HSe := hide ((unhide HSe).below hbA)
  have HB := hide ((unhide HB).trans (hbA.mono (by omega)))
  have hs : B + 1 ≤ w13.heap.size := by omega
  clear hbA hsz
  clear heqZ hsA
  refine (unhide HIN _).mono ?_
  rintro e w14 ⟨rfl, hbN⟩
  have hsz := hbN.size
  have kp := blk_below kp hbN (blk_lt kp)
  have kZ := blk_below kZ hbN (blk_lt kZ)
  have HXp := hide ((unhide HXp).below hbN)
  have HXg := hide ((unhide HXg).below hbN)
  have HSe := hide ((unhide HSe).below hbN)
  have HB := hide ((unhide HB).trans (hbN.mono (by omega)))
  have hs : B + 1 ≤ w14.heap.size := by omega
  clear hbN hsz
  have hlp : B < w14.heap.size := blk_lt kp
  have cp0 : w14.cell? ⟨B, 0, none⟩ = some (.int .i64 (W : Int)) := blk_cell kp 0
  have cp1 : w14.cell? ⟨B, 1, none⟩ = some (.int .i64 (H : Int)) := blk_cell kp 1
  have cp2 : w14.cell? ⟨B, 2, none⟩ = some (.slice a n c) := blk_cell kp 2
  have hlZ : bZ < w14.heap.size := blk_lt kZ
  have cZ0 : w14.cell? ⟨bZ, 0, none⟩ = some (.int .u8 (qk.r.toNat : Int)) := blk_cell kZ 0
  have cZ1 : w14.cell? ⟨bZ, 1, none⟩ = some (.int .u8 (qk.g.toNat : Int)) := blk_cell kZ 1
  have cZ2 : w14.cell? ⟨bZ, 2, none⟩ = some (.int .u8 (qk.b.toNat : Int)) := blk_cell kZ 2
  have cZ3 : w14.cell? ⟨bZ, 3, none⟩ = some (.int .u8 (qk.a.toNat : Int)) := blk_cell kZ 3
  obtain ⟨b, off, rfl, hm, hc⟩ := (unhide HXp).resolve_left (by omega)
  obtain ⟨t0, t1, t2, t3⟩ := hc k hlt
  rw [hqk] at t0 t1 t2 t3
  clear hc HXp hqk
  go_wp2
  go_quiet (fail)
  go_wp2
  go_ret
  exact ⟨rfl, by rw [← unhide HBE]; exact belowD (unhide HB)⟩

theorem tilesOf_any (W H : Int) (a : Option Addr) (n c : Nat) (p : Nat → Px) (x y : Int) (w : World) (A : Nat → Addr) (hS : Sent w A) (hP : IsPx w a n p) (_bW : -9223372036854775808 ≤ W ∧ W ≤ 9223372036854775807) (_bH : -9223372036854775808 ≤ H ∧ H ≤ 9223372036854775807) :
    Calls Tryd.prog 4 #[.agg #[.int .i64 W, .int .i64 H, .slice a n c], .int .i64 x, .int .i64 y] w fun e w' => e = .returned (.bool true) ∧ Below w.heap.size w w' := by
  by_cases hn3 : n ≤ 3000
  rotate_left
  · exact tilesOf_many W H a n c p x y w A hS hP hn3
  by_cases hR : RightP W H n
  rotate_left
  · exact tilesOf_shape W H a n c p x y w A hS hP hn3 hR
  obtain ⟨⟨hW0, hW⟩, ⟨hH0, hH⟩, hn⟩ := hR
  obtain ⟨W, rfl⟩ := Int.eq_ofNat_of_zero_le (show 0 ≤ W by omega)
  obtain ⟨H, rfl⟩ := Int.eq_ofNat_of_zero_le (show 0 ≤ H by omega)
  have hn : n = W * H := by exact_mod_cast hn
  by_cases hin : 0 ≤ x ∧ 0 ≤ y ∧ x < (W : Int) ∧ y < (H : Int)
  · obtain ⟨x, rfl⟩ := Int.eq_ofNat_of_zero_le hin.1
    obtain ⟨y, rfl⟩ := Int.eq_ofNat_of_zero_le hin.2.1
    exact tilesOf_ok W H a n c p x y w A hS hP hn3 (by omega) (by omega) (by omega) (by omega) hn (by omega) (by omega)
  · exact tilesOf_bound W H a n c p x y w A hS hP hn3 (by omega) (by omega) (by omega) (by omega) hn hin
end Go.Proofs.YtcicbafdacfbpaiDoor
