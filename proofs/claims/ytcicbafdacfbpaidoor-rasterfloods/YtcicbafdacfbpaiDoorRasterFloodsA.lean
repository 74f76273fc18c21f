/- The statement on floods: the walk, way by way. Written by genfl.py. -/
import Derived.Test.YtcicbafdacfbpaiDoorFl9
import Derived.Test.YtcicbafdacfbpaiDoorRt9
import Derived.Test.YtcicbafdacfbpaiDoorRo2
import Derived.Test.YtcicbafdacfbpaiDoorRt6
namespace Go.Proofs.YtcicbafdacfbpaiDoor
open Go.RowKit

set_option maxHeartbeats 4000000 in
set_option maxRecDepth 100000 in
theorem rasterFloods_many (W H : Int) (a : Option Addr) (n c : Nat) (p : Nat → Px) (x y : Int) (q : Px) (w : World) (A : Nat → Addr) (hS : Sent w A) (hP : IsPx w a n p) (hn3 : ¬ n ≤ 3000) :
    Calls Tryd.prog 3 #[.agg #[.int .i64 W, .int .i64 H, .slice a n c], .int .i64 x, .int .i64 y, q.val] w fun e w' => e = .returned (.bool true) ∧ Below w.heap.size w w' := by
  have HPL := hide plainly_any
  have HSM := hide (fun w => small_any W H a n c w)
  rw [decide_eq_false hn3] at HSM
  have HX := hide hP
  have HS0 := hide hS
  clear hn3 hP hS
  unfold Px.val at *
  have HA := hide (al2 w (.cells #[.int .i64 W, .int .i64 H, .slice a n c] 24) (.cells #[.int .u8 (q.r.toNat : Int), .int .u8 (q.g.toNat : Int), .int .u8 (q.b.toNat : Int), .int .u8 (q.a.toNat : Int)] 26))
  obtain ⟨B, hB⟩ : ∃ B, B = w.heap.size := ⟨_, rfl⟩
  go_enter Tryd.func3, Tryd.ntmps3
  go_wp2_with fail
  generalize ((w.alloc (.cells #[.int .i64 W, .int .i64 H, .slice a n c] 24)).alloc (.cells #[.int .u8 (q.r.toNat : Int), .int .u8 (q.g.toNat : Int), .int .u8 (q.b.toNat : Int), .int .u8 (q.a.toNat : Int)] 26)) = w1 at *
  rw [← hB] at HA ⊢
  obtain ⟨hs1, kp, kq, hb1⟩ := unhide HA
  have HBE := hide hB
  clear HA hB
  have hs : B + 2 ≤ w1.heap.size := by omega
  have HB := hide hb1
  clear hs1 hb1
  have HXp := hide ((unhide HX).under (unhide HB) (fun x hx h0 => by rw [unhide HBE]; exact (unhide HX).lt x hx h0))
  have HSe := hide ((unhide HS0).below (by rw [← unhide HBE]; exact unhide HB))
  clear HX HS0
  refine (unhide HPL _).mono ?_
  rintro e w2 ⟨rfl, hbN⟩
  have hsz := hbN.size
  have kp := blk_below kp hbN (blk_lt kp)
  have kq := blk_below kq hbN (blk_lt kq)
  have HXp := hide ((unhide HXp).below hbN)
  have HSe := hide ((unhide HSe).below hbN)
  have HB := hide ((unhide HB).trans (hbN.mono (by omega)))
  have hs : B + 2 ≤ w2.heap.size := by omega
  clear hbN hsz
  have hlp : B < w2.heap.size := blk_lt kp
  have cp0 : w2.cell? ⟨B, 0, none⟩ = some (.int .i64 W) := blk_cell kp 0
  have cp1 : w2.cell? ⟨B, 1, none⟩ = some (.int .i64 H) := blk_cell kp 1
  have cp2 : w2.cell? ⟨B, 2, none⟩ = some (.slice a n c) := blk_cell kp 2
  have hlq : B + 1 < w2.heap.size := blk_lt kq
  have cq0 : w2.cell? ⟨B + 1, 0, none⟩ = some (.int .u8 (q.r.toNat : Int)) := blk_cell kq 0
  have cq1 : w2.cell? ⟨B + 1, 1, none⟩ = some (.int .u8 (q.g.toNat : Int)) := blk_cell kq 1
  have cq2 : w2.cell? ⟨B + 1, 2, none⟩ = some (.int .u8 (q.b.toNat : Int)) := blk_cell kq 2
  have cq3 : w2.cell? ⟨B + 1, 3, none⟩ = some (.int .u8 (q.a.toNat : Int)) := blk_cell kq 3
  go_wp2_with fail
  clear cp0 cp1 cp2 cq0 cq1 cq2 cq3 hlp hlq
  refine (unhide HSM _).mono ?_
  rintro e w3 ⟨rfl, hbN⟩
  have hsz := hbN.size
  have kp := blk_below kp hbN (blk_lt kp)
  have kq := blk_below kq hbN (blk_lt kq)
  have HXp := hide ((unhide HXp).below hbN)
  have HSe := hide ((unhide HSe).below hbN)
  have HB := hide ((unhide HB).trans (hbN.mono (by omega)))
  have hs : B + 2 ≤ w3.heap.size := by omega
  clear hbN hsz
  have hlp : B < w3.heap.size := blk_lt kp
  have cp0 : w3.cell? ⟨B, 0, none⟩ = some (.int .i64 W) := blk_cell kp 0
  have cp1 : w3.cell? ⟨B, 1, none⟩ = some (.int .i64 H) := blk_cell kp 1
  have cp2 : w3.cell? ⟨B, 2, none⟩ = some (.slice a n c) := blk_cell kp 2
  have hlq : B + 1 < w3.heap.size := blk_lt kq
  have cq0 : w3.cell? ⟨B + 1, 0, none⟩ = some (.int .u8 (q.r.toNat : Int)) := blk_cell kq 0
  have cq1 : w3.cell? ⟨B + 1, 1, none⟩ = some (.int .u8 (q.g.toNat : Int)) := blk_cell kq 1
  have cq2 : w3.cell? ⟨B + 1, 2, none⟩ = some (.int .u8 (q.b.toNat : Int)) := blk_cell kq 2
  have cq3 : w3.cell? ⟨B + 1, 3, none⟩ = some (.int .u8 (q.a.toNat : Int)) := blk_cell kq 3
  go_wp2
  clear cp0 cp1 cp2 cq0 cq1 cq2 cq3 hlp hlq
  go_ret
  exact ⟨rfl, by rw [← unhide HBE]; exact unhide HB⟩
set_option maxHeartbeats 4000000 in
set_option maxRecDepth 100000 in
theorem rasterFloods_ok (W H : Nat) (a : Option Addr) (n c : Nat) (p : Nat → Px) (x y : Nat) (q : Px) (w : World) (A : Nat → Addr) (hS : Sent w A) (hP : IsPx w a n p) (hn3 : n ≤ 3000) (hW0 : 1 ≤ W) (hW : W ≤ 256) (hH0 : 1 ≤ H) (hH : H ≤ 256) (hn : n = W * H) (hx : x < W) (hy : y < H) :
    Calls Tryd.prog 3 #[.agg #[.int .i64 (W : Int), .int .i64 (H : Int), .slice a n c], .int .i64 (x : Int), .int .i64 (y : Int), q.val] w fun e w' => e = .returned (.bool true) ∧ Below w.heap.size w w' := by
  have HPL := hide plainly_any
  have HSM := hide (fun w => small_any (W : Int) (H : Int) a n c w)
  rw [decide_eq_true hn3] at HSM
  have HX := hide hP
  have HS0 := hide hS
  have HRT := hide (fun w => pright_any (W : Int) (H : Int) a n c w)
  have HO := hide (fun w (h : IsPx w a n p) => own_isPx (W : Int) (H : Int) a n c p w h (by omega))
  have HIN := hide (fun w => inP_any (W : Int) (H : Int) (x : Int) (y : Int) a n c w)
  rw [decide_eq_true (rightN hW0 hW hH0 hH hn)] at HRT
  rw [decide_eq_true (show (0 : Int) ≤ x ∧ (0 : Int) ≤ y ∧ (x : Int) < W ∧ (y : Int) < H by omega)] at HIN
  have hM3 : W * H ≤ 100000 := by omega
  obtain ⟨G, hG⟩ : ∃ G, G = flG W H p x y q := ⟨_, rfl⟩
  have HF := hide (fun w a c (h : IsPx w a n p) => flood_G W H x y a n c p q w h hW0 hW hH0 hH hn hx hy)
  rw [← hG] at HF
  have HFO := hide (fun w (h : IsPx w a n p) => floodOf_G W H x y a n c p q w h hW0 hW hH0 hH hn hx hy)
  rw [← hG] at HFO
  have HF2 : Hid (∀ w a c, IsPx w a (W * H) G → Calls Tryd.prog 7 #[.agg #[.int .i64 (W : Int), .int .i64 (H : Int), .slice a (W * H) c], .int .i64 (x : Int), .int .i64 (y : Int), q.val] w fun e w' => ∃ a2 c2, e = .returned (.tuple #[.agg #[.int .i64 (W : Int), .int .i64 (H : Int), .slice a2 (W * H) c2], .nilIface]) ∧ IsPx w' a2 (W * H) G ∧ Below w.heap.size w w') := fun w a c h => by
    refine (flood_G W H x y a (W * H) c G q w h hW0 hW hH0 hH rfl hx hy).mono ?_
    rintro e w' ⟨a2, c2, rfl, h2, hb⟩
    refine ⟨a2, c2, rfl, h2.congr (fun i _ => ?_), hb⟩
    rw [hG]
    exact flG_twice hx hy i
  have HTo := hide (fun w a b c d (h1 : IsPx w a (W * H) G) (h2 : IsPx w b (W * H) G) => told_ok W H a b (W * H) c d G w h1 h2 hM3)
  have HSP := hide (fun w a b c d (h1 : IsPx w a (W * H) G) (h2 : IsPx w b (W * H) G) => samePicture_any (W : Int) (H : Int) a b (W * H) c d G w h1 h2 hM3)
  clear hn3 hP hS hx hy hG hW0 hW hH0 hH hn
  unfold Px.val at *
  obtain ⟨M, hM⟩ : ∃ M, M = W * H := ⟨_, rfl⟩
  rw [← hM] at HF HFO HTo HF2 HSP hM3
  clear hM
  have HA := hide (al2 w (.cells #[.int .i64 (W : Int), .int .i64 (H : Int), .slice a n c] 24) (.cells #[.int .u8 (q.r.toNat : Int), .int .u8 (q.g.toNat : Int), .int .u8 (q.b.toNat : Int), .int .u8 (q.a.toNat : Int)] 26))
  obtain ⟨B, hB⟩ : ∃ B, B = w.heap.size := ⟨_, rfl⟩
  go_enter Tryd.func3, Tryd.ntmps3
  go_wp2_with fail
  generalize ((w.alloc (.cells #[.int .i64 (W : Int), .int .i64 (H : Int), .slice a n c] 24)).alloc (.cells #[.int .u8 (q.r.toNat : Int), .int .u8 (q.g.toNat : Int), .int .u8 (q.b.toNat : Int), .int .u8 (q.a.toNat : Int)] 26)) = w1 at *
  rw [← hB] at HA ⊢
  obtain ⟨hs1, kp, kq, hb1⟩ := unhide HA
  have HBE := hide hB
  clear HA hB
  have hs : B + 2 ≤ w1.heap.size := by omega
  have HB := hide hb1
  clear hs1 hb1
  have HXp := hide ((unhide HX).under (unhide HB) (fun x hx h0 => by rw [unhide HBE]; exact (unhide HX).lt x hx h0))
  have HSe := hide ((unhide HS0).below (by rw [← unhide HBE]; exact unhide HB))
  clear HX HS0
  refine (unhide HPL _).mono ?_
  rintro e w2 ⟨rfl, hbN⟩
  have hsz := hbN.size
  have kp := blk_below kp hbN (blk_lt kp)
  have kq := blk_below kq hbN (blk_lt kq)
  have HXp := hide ((unhide HXp).below hbN)
  have HSe := hide ((unhide HSe).below hbN)
  have HB := hide ((unhide HB).trans (hbN.mono (by omega)))
  have hs : B + 2 ≤ w2.heap.size := by omega
  clear hbN hsz
  have hlp : B < w2.heap.size := blk_lt kp
  have cp0 : w2.cell? ⟨B, 0, none⟩ = some (.int .i64 (W : Int)) := blk_cell kp 0
  have cp1 : w2.cell? ⟨B, 1, none⟩ = some (.int .i64 (H : Int)) := blk_cell kp 1
  have cp2 : w2.cell? ⟨B, 2, none⟩ = some (.slice a n c) := blk_cell kp 2
  have hlq : B + 1 < w2.heap.size := blk_lt kq
  have cq0 : w2.cell? ⟨B + 1, 0, none⟩ = some (.int .u8 (q.r.toNat : Int)) := blk_cell kq 0
  have cq1 : w2.cell? ⟨B + 1, 1, none⟩ = some (.int .u8 (q.g.toNat : Int)) := blk_cell kq 1
  have cq2 : w2.cell? ⟨B + 1, 2, none⟩ = some (.int .u8 (q.b.toNat : Int)) := blk_cell kq 2
  have cq3 : w2.cell? ⟨B + 1, 3, none⟩ = some (.int .u8 (q.a.toNat : Int)) := blk_cell kq 3
  go_wp2_with fail
  clear cp0 cp1 cp2 cq0 cq1 cq2 cq3 hlp hlq
  refine (unhide HSM _).mono ?_
  rintro e w3 ⟨rfl, hbN⟩
  have hsz := hbN.size
  have kp := blk_below kp hbN (blk_lt kp)
  have kq := blk_below kq hbN (blk_lt kq)
  have HXp := hide ((unhide HXp).below hbN)
  have HSe := hide ((unhide HSe).below hbN)
  have HB := hide ((unhide HB).trans (hbN.mono (by omega)))
  have hs : B + 2 ≤ w3.heap.size := by omega
  clear hbN hsz
  have hlp : B < w3.heap.size := blk_lt kp
  have cp0 : w3.cell? ⟨B, 0, none⟩ = some (.int .i64 (W : Int)) := blk_cell kp 0
  have cp1 : w3.cell? ⟨B, 1, none⟩ = some (.int .i64 (H : Int)) := blk_cell kp 1
  have cp2 : w3.cell? ⟨B, 2, none⟩ = some (.slice a n c) := blk_cell kp 2
  have hlq : B + 1 < w3.heap.size := blk_lt kq
  have cq0 : w3.cell? ⟨B + 1, 0, none⟩ = some (.int .u8 (q.r.toNat : Int)) := blk_cell kq 0
  have cq1 : w3.cell? ⟨B + 1, 1, none⟩ = some (.int .u8 (q.g.toNat : Int)) := blk_cell kq 1
  have cq2 : w3.cell? ⟨B + 1, 2, none⟩ = some (.int .u8 (q.b.toNat : Int)) := blk_cell kq 2
  have cq3 : w3.cell? ⟨B + 1, 3, none⟩ = some (.int .u8 (q.a.toNat : Int)) := blk_cell kq 3
  go_wp2
  clear cp0 cp1 cp2 cq0 cq1 cq2 cq3 hlp hlq
  apply once2 (fun wf bf ao co af cf => w3.heap.size ≤ bf ∧ wf.heap[bf]? = some (.cells #[.int .i64 (W : Int), .int .i64 (H : Int), .slice af M cf] 24) ∧ IsPx wf af M (G) ∧ Below w3.heap.size w3 wf)
  · intro hrest
    have hlp : B < w3.heap.size := blk_lt kp
    have cp0 : w3.cell? ⟨B, 0, none⟩ = some (.int .i64 (W : Int)) := blk_cell kp 0
    have cp1 : w3.cell? ⟨B, 1, none⟩ = some (.int .i64 (H : Int)) := blk_cell kp 1
    have cp2 : w3.cell? ⟨B, 2, none⟩ = some (.slice a n c) := blk_cell kp 2
    have hlq : B + 1 < w3.heap.size := blk_lt kq
    have cq0 : w3.cell? ⟨B + 1, 0, none⟩ = some (.int .u8 (q.r.toNat : Int)) := blk_cell kq 0
    have cq1 : w3.cell? ⟨B + 1, 1, none⟩ = some (.int .u8 (q.g.toNat : Int)) := blk_cell kq 1
    have cq2 : w3.cell? ⟨B + 1, 2, none⟩ = some (.int .u8 (q.b.toNat : Int)) := blk_cell kq 2
    have cq3 : w3.cell? ⟨B + 1, 3, none⟩ = some (.int .u8 (q.a.toNat : Int)) := blk_cell kq 3
    have hKS := hide (fun wx (h : Below w3.heap.size w3 wx) => (⟨bcell h hlp cp0, bcell h hlp cp1, bcell h hlp cp2, bcell h hlq cq0, bcell h hlq cq1, bcell h hlq cq2, bcell h hlq cq3⟩ : wx.cell? ⟨B, 0, none⟩ = some (.int .i64 (W : Int)) ∧ wx.cell? ⟨B, 1, none⟩ = some (.int .i64 (H : Int)) ∧ wx.cell? ⟨B, 2, none⟩ = some (.slice a n c) ∧ wx.cell? ⟨B + 1, 0, none⟩ = some (.int .u8 (q.r.toNat : Int)) ∧ wx.cell? ⟨B + 1, 1, none⟩ = some (.int .u8 (q.g.toNat : Int)) ∧ wx.cell? ⟨B + 1, 2, none⟩ = some (.int .u8 (q.b.toNat : Int)) ∧ wx.cell? ⟨B + 1, 3, none⟩ = some (.int .u8 (q.a.toNat : Int))))
    have hdr := (Below.refl w3.heap.size w3).drew
    go_region_held (fun w' => w'.cell? ⟨B, 0, none⟩ = some (.int .i64 (W : Int)) ∧ w'.cell? ⟨B, 1, none⟩ = some (.int .i64 (H : Int)) ∧ w'.cell? ⟨B, 2, none⟩ = some (.slice a n c) ∧ w'.cell? ⟨B + 1, 0, none⟩ = some (.int .u8 (q.r.toNat : Int)) ∧ w'.cell? ⟨B + 1, 1, none⟩ = some (.int .u8 (q.g.toNat : Int)) ∧ w'.cell? ⟨B + 1, 2, none⟩ = some (.int .u8 (q.b.toNat : Int)) ∧ w'.cell? ⟨B + 1, 3, none⟩ = some (.int .u8 (q.a.toNat : Int))) (exact unhide hKS _ (by (first | with_reducible exact hqw5 | with_reducible exact hqw4 | with_reducible exact hdr | with_reducible exact hqw5.alloc hqw5.size _ | with_reducible exact hqw4.alloc hqw4.size _ | with_reducible exact ((Below.refl _ _).alloc (Nat.le_refl _) _).drew | with_reducible exact set3_below hqw5 (Nat.le_refl _) _ _ _ | with_reducible exact set3_below hqw5 hqw4.size _ _ _ | with_reducible exact set3_below (hqw5.alloc hqw5.size _) hqw5.size _ _ _ | exact hqw5.alloc hqw5.size _))) (first | (go_at_call 8; refine (unhide HO _ ((unhide HXp).below (by (first | with_reducible exact hqw5 | with_reducible exact hqw4 | with_reducible exact hdr | with_reducible exact hqw5.alloc hqw5.size _ | with_reducible exact hqw4.alloc hqw4.size _ | with_reducible exact ((Below.refl _ _).alloc (Nat.le_refl _) _).drew | with_reducible exact set3_below hqw5 (Nat.le_refl _) _ _ _ | with_reducible exact set3_below hqw5 hqw4.size _ _ _ | with_reducible exact set3_below (hqw5.alloc hqw5.size _) hqw5.size _ _ _ | exact hqw5.alloc hqw5.size _)))).mono ?_; rintro e w4 ⟨ao, co, rfl, hpo, hbw4⟩; have hqw4 := bel_trans (w := w3) (by (first | with_reducible exact hqw5 | with_reducible exact hqw4 | with_reducible exact hdr | with_reducible exact hqw5.alloc hqw5.size _ | with_reducible exact hqw4.alloc hqw4.size _ | with_reducible exact ((Below.refl _ _).alloc (Nat.le_refl _) _).drew | with_reducible exact set3_below hqw5 (Nat.le_refl _) _ _ _ | with_reducible exact set3_below hqw5 hqw4.size _ _ _ | with_reducible exact set3_below (hqw5.alloc hqw5.size _) hqw5.size _ _ _ | exact hqw5.alloc hqw5.size _)) hbw4; (try (have kzw4 : w4.heap[w3.heap.size]? = some (.cells #[.int .i64 0, .int .i64 0, .slice none 0 0] 24) := blk_below (show ((w3.alloc (.cells #[.int .i64 0, .int .i64 0, .slice none 0 0] 24)).drew).heap[w3.heap.size]? = some (.cells #[.int .i64 0, .int .i64 0, .slice none 0 0] 24) from heap_alloc_new w3 _) hbw4 (by show _ < (w3.alloc _).heap.size; simp))); (try (have zw40 : w4.cell? ⟨_, 0, none⟩ = some (.int .i64 0) := blk_cell kzw4 0)); (try (have zfw40 := blk_frozen kzw4 0)); (try (have zw41 : w4.cell? ⟨_, 1, none⟩ = some (.int .i64 0) := blk_cell kzw4 1)); (try (have zfw41 := blk_frozen kzw4 1)); (try (have zw42 : w4.cell? ⟨_, 2, none⟩ = some (.slice none 0 0) := blk_cell kzw4 2)); (try (have zfw42 := blk_frozen kzw4 2))) | (go_at_call 7; refine (unhide HF _ _ _ (by first | with_reducible exact hpo | with_reducible exact hpo.allocP _)).mono ?_; rintro e w5 ⟨af, cf, rfl, hpf, hbw5⟩; have hqw5 := bel_trans (w := w3) (by (first | with_reducible exact hqw5 | with_reducible exact hqw4 | with_reducible exact hdr | with_reducible exact hqw5.alloc hqw5.size _ | with_reducible exact hqw4.alloc hqw4.size _ | with_reducible exact ((Below.refl _ _).alloc (Nat.le_refl _) _).drew | with_reducible exact set3_below hqw5 (Nat.le_refl _) _ _ _ | with_reducible exact set3_below hqw5 hqw4.size _ _ _ | with_reducible exact set3_below (hqw5.alloc hqw5.size _) hqw5.size _ _ _ | exact hqw5.alloc hqw5.size _)) hbw5; (try (have kzw5 := blk_below kzw4 hbw5 (blk_lt kzw4))); (try (have kzw5 : w5.heap[w4.heap.size]? = some (.cells #[.int .i64 0, .int .i64 0, .slice none 0 0] 24) := blk_below (heap_alloc_new w4 _) hbw5 (by simp))); (try (have zw50 : w5.cell? ⟨_, 0, none⟩ = some (.int .i64 0) := blk_cell kzw5 0)); (try (have zfw50 := blk_frozen kzw5 0)); (try (have zw51 : w5.cell? ⟨_, 1, none⟩ = some (.int .i64 0) := blk_cell kzw5 1)); (try (have zfw51 := blk_frozen kzw5 1)); (try (have zw52 : w5.cell? ⟨_, 2, none⟩ = some (.slice none 0 0) := blk_cell kzw5 2)); (try (have zfw52 := blk_frozen kzw5 2))))
    all_goals
      first
      | (have hfin := fin3 (w := w3) kzw5 hqw5 (Nat.le_refl _) (.int .i64 (W : Int)) (.int .i64 (H : Int)) (.slice af M cf); have hA := hfin.blk; have hB := hfin.below; have hpg := hfin.px _ _ _ hpf; clear hfin; generalize ((w5.setCell ⟨w3.heap.size, 0, none⟩ (.int .i64 (W : Int))).setCell ⟨w3.heap.size, 1, none⟩ (.int .i64 (H : Int))).setCell ⟨w3.heap.size, 2, none⟩ (.slice af M cf) = wf at *; obtain ⟨bf, hbf⟩ : ∃ b, b = w3.heap.size := ⟨_, rfl⟩; have hge : w3.heap.size ≤ bf := Nat.le_trans (Nat.le_refl _) (Nat.le_of_eq hbf.symm); rw [← hbf] at hA ⊢; exact hrest wf bf ao co af cf ⟨hge, hA, hpg, hB⟩)
      | (have hfin := fin3 (w := w3) kzw5 hqw5 (hqw4.size) (.int .i64 (W : Int)) (.int .i64 (H : Int)) (.slice af M cf); have hA := hfin.blk; have hB := hfin.below; have hpg := hfin.px _ _ _ hpf; clear hfin; generalize ((w5.setCell ⟨w4.heap.size, 0, none⟩ (.int .i64 (W : Int))).setCell ⟨w4.heap.size, 1, none⟩ (.int .i64 (H : Int))).setCell ⟨w4.heap.size, 2, none⟩ (.slice af M cf) = wf at *; obtain ⟨bf, hbf⟩ : ∃ b, b = w4.heap.size := ⟨_, rfl⟩; have hge : w3.heap.size ≤ bf := Nat.le_trans (hqw4.size) (Nat.le_of_eq hbf.symm); rw [← hbf] at hA ⊢; exact hrest wf bf ao co af cf ⟨hge, hA, hpg, hB⟩)
      | (have hA := heap_alloc_new w5 (.cells #[.int .i64 (W : Int), .int .i64 (H : Int), .slice af M cf] 24); have hB := hqw5.alloc hqw5.size (.cells #[.int .i64 (W : Int), .int .i64 (H : Int), .slice af M cf] 24); have hpg := hpf.allocP (.cells #[.int .i64 (W : Int), .int .i64 (H : Int), .slice af M cf] 24); generalize w5.alloc (.cells #[.int .i64 (W : Int), .int .i64 (H : Int), .slice af M cf] 24) = wf at *; obtain ⟨bf, hbf⟩ : ∃ b, b = w5.heap.size := ⟨_, rfl⟩; have hge : w3.heap.size ≤ bf := Nat.le_trans hqw5.size (Nat.le_of_eq hbf.symm); rw [← hbf] at hA ⊢; exact hrest wf bf ao co af cf ⟨hge, hA, hpg, hB⟩)
  rintro w6 bF ao co af cf ⟨hge, kF, hpx, hbN⟩
  have ltFp : B < bF := Nat.lt_of_lt_of_le (blk_lt kp) hge
  have ltFq : B + 1 < bF := Nat.lt_of_lt_of_le (blk_lt kq) hge
  clear hge
  have hsz := hbN.size
  have kp := blk_below kp hbN (blk_lt kp)
  have kq := blk_below kq hbN (blk_lt kq)
  have HXp := hide ((unhide HXp).below hbN)
  have HSe := hide ((unhide HSe).below hbN)
  have HB := hide ((unhide HB).trans (hbN.mono (by omega)))
  have hs : B + 2 ≤ w6.heap.size := by omega
  clear hbN hsz
  have HXf := hide hpx
  clear hpx
  have hlp : B < w6.heap.size := blk_lt kp
  have cp0 : w6.cell? ⟨B, 0, none⟩ = some (.int .i64 (W : Int)) := blk_cell kp 0
  have cp1 : w6.cell? ⟨B, 1, none⟩ = some (.int .i64 (H : Int)) := blk_cell kp 1
  have cp2 : w6.cell? ⟨B, 2, none⟩ = some (.slice a n c) := blk_cell kp 2
  have hlq : B + 1 < w6.heap.size := blk_lt kq
  have cq0 : w6.cell? ⟨B + 1, 0, none⟩ = some (.int .u8 (q.r.toNat : Int)) := blk_cell kq 0
  have cq1 : w6.cell? ⟨B + 1, 1, none⟩ = some (.int .u8 (q.g.toNat : Int)) := blk_cell kq 1
  have cq2 : w6.cell? ⟨B + 1, 2, none⟩ = some (.int .u8 (q.b.toNat : Int)) := blk_cell kq 2
  have cq3 : w6.cell? ⟨B + 1, 3, none⟩ = some (.int .u8 (q.a.toNat : Int)) := blk_cell kq 3
  have hlF : bF < w6.heap.size := blk_lt kF
  have cF0 : w6.cell? ⟨bF, 0, none⟩ = some (.int .i64 (W : Int)) := blk_cell kF 0
  have cF1 : w6.cell? ⟨bF, 1, none⟩ = some (.int .i64 (H : Int)) := blk_cell kF 1
  have cF2 : w6.cell? ⟨bF, 2, none⟩ = some (.slice af M cf) := blk_cell kF 2
  go_wp2_with fail
  clear cp0 cp1 cp2 cq0 cq1 cq2 cq3 cF0 cF1 cF2 hlp hlq hlF
  refine (unhide HIN _).mono ?_
  rintro e w7 ⟨rfl, hbN⟩
  have hsz := hbN.size
  have kp := blk_below kp hbN (blk_lt kp)
  have kq := blk_below kq hbN (blk_lt kq)
  have kF := blk_below kF hbN (blk_lt kF)
  have HXp := hide ((unhide HXp).below hbN)
  have HXf := hide ((unhide HXf).below hbN)
  have HSe := hide ((unhide HSe).below hbN)
  have HB := hide ((unhide HB).trans (hbN.mono (by omega)))
  have hs : B + 2 ≤ w7.heap.size := by omega
  clear hbN hsz
  have hlp : B < w7.heap.size := blk_lt kp
  have cp0 : w7.cell? ⟨B, 0, none⟩ = some (.int .i64 (W : Int)) := blk_cell kp 0
  have cp1 : w7.cell? ⟨B, 1, none⟩ = some (.int .i64 (H : Int)) := blk_cell kp 1
  have cp2 : w7.cell? ⟨B, 2, none⟩ = some (.slice a n c) := blk_cell kp 2
  have hlq : B + 1 < w7.heap.size := blk_lt kq
  have cq0 : w7.cell? ⟨B + 1, 0, none⟩ = some (.int .u8 (q.r.toNat : Int)) := blk_cell kq 0
  have cq1 : w7.cell? ⟨B + 1, 1, none⟩ = some (.int .u8 (q.g.toNat : Int)) := blk_cell kq 1
  have cq2 : w7.cell? ⟨B + 1, 2, none⟩ = some (.int .u8 (q.b.toNat : Int)) := blk_cell kq 2
  have cq3 : w7.cell? ⟨B + 1, 3, none⟩ = some (.int .u8 (q.a.toNat : Int)) := blk_cell kq 3
  have hlF : bF < w7.heap.size := blk_lt kF
  have cF0 : w7.cell? ⟨bF, 0, none⟩ = some (.int .i64 (W : Int)) := blk_cell kF 0
  have cF1 : w7.cell? ⟨bF, 1, none⟩ = some (.int .i64 (H : Int)) := blk_cell kF 1
  have cF2 : w7.cell? ⟨bF, 2, none⟩ = some (.slice af M cf) := blk_cell kF 2
  go_wp2_with fail
  clear cp0 cp1 cp2 cq0 cq1 cq2 cq3 cF0 cF1 cF2 hlp hlq hlF
  refine (unhide HRT _).mono ?_
  rintro e w8 ⟨rfl, hbN⟩
  have hsz := hbN.size
  have kp := blk_below kp hbN (blk_lt kp)
  have kq := blk_below kq hbN (blk_lt kq)
  have kF := blk_below kF hbN (blk_lt kF)
  have HXp := hide ((unhide HXp).below hbN)
  have HXf := hide ((unhide HXf).below hbN)
  have HSe := hide ((unhide HSe).below hbN)
  have HB := hide ((unhide HB).trans (hbN.mono (by omega)))
  have hs : B + 2 ≤ w8.heap.size := by omega
  clear hbN hsz
  have hlp : B < w8.heap.size := blk_lt kp
  have cp0 : w8.cell? ⟨B, 0, none⟩ = some (.int .i64 (W : Int)) := blk_cell kp 0
  have cp1 : w8.cell? ⟨B, 1, none⟩ = some (.int .i64 (H : Int)) := blk_cell kp 1
  have cp2 : w8.cell? ⟨B, 2, none⟩ = some (.slice a n c) := blk_cell kp 2
  have hlq : B + 1 < w8.heap.size := blk_lt kq
  have cq0 : w8.cell? ⟨B + 1, 0, none⟩ = some (.int .u8 (q.r.toNat : Int)) := blk_cell kq 0
  have cq1 : w8.cell? ⟨B + 1, 1, none⟩ = some (.int .u8 (q.g.toNat : Int)) := blk_cell kq 1
  have cq2 : w8.cell? ⟨B + 1, 2, none⟩ = some (.int .u8 (q.b.toNat : Int)) := blk_cell kq 2
  have cq3 : w8.cell? ⟨B + 1, 3, none⟩ = some (.int .u8 (q.a.toNat : Int)) := blk_cell kq 3
  have hlF : bF < w8.heap.size := blk_lt kF
  have cF0 : w8.cell? ⟨bF, 0, none⟩ = some (.int .i64 (W : Int)) := blk_cell kF 0
  have cF1 : w8.cell? ⟨bF, 1, none⟩ = some (.int .i64 (H : Int)) := blk_cell kF 1
  have cF2 : w8.cell? ⟨bF, 2, none⟩ = some (.slice af M cf) := blk_cell kF 2
  go_wp2
  clear cp0 cp1 cp2 cq0 cq1 cq2 cq3 cF0 cF1 cF2 hlp hlq hlF
  have hlp : B < w8.heap.size := blk_lt kp
  have cp0 : w8.cell? ⟨B, 0, none⟩ = some (.int .i64 (W : Int)) := blk_cell kp 0
  have cp1 : w8.cell? ⟨B, 1, none⟩ = some (.int .i64 (H : Int)) := blk_cell kp 1
  have cp2 : w8.cell? ⟨B, 2, none⟩ = some (.slice a n c) := blk_cell kp 2
  have hlq : B + 1 < w8.heap.size := blk_lt kq
  have cq0 : w8.cell? ⟨B + 1, 0, none⟩ = some (.int .u8 (q.r.toNat : Int)) := blk_cell kq 0
  have cq1 : w8.cell? ⟨B + 1, 1, none⟩ = some (.int .u8 (q.g.toNat : Int)) := blk_cell kq 1
  have cq2 : w8.cell? ⟨B + 1, 2, none⟩ = some (.int .u8 (q.b.toNat : Int)) := blk_cell kq 2
  have cq3 : w8.cell? ⟨B + 1, 3, none⟩ = some (.int .u8 (q.a.toNat : Int)) := blk_cell kq 3
  have hlF : bF < w8.heap.size := blk_lt kF
  have cF0 : w8.cell? ⟨bF, 0, none⟩ = some (.int .i64 (W : Int)) := blk_cell kF 0
  have cF1 : w8.cell? ⟨bF, 1, none⟩ = some (.int .i64 (H : Int)) := blk_cell kF 1
  have cF2 : w8.cell? ⟨bF, 2, none⟩ = some (.slice af M cf) := blk_cell kF 2
  have hdr := (Below.refl w8.heap.size w8).drew
  go_region_held (fun w' => w'.cell? ⟨bF, 0, none⟩ = some (.int .i64 (W : Int)) ∧ w'.cell? ⟨bF, 1, none⟩ = some (.int .i64 (H : Int)) ∧ w'.cell? ⟨bF, 2, none⟩ = some (.slice af M cf) ∧ w'.cell? ⟨B, 0, none⟩ = some (.int .i64 (W : Int)) ∧ w'.cell? ⟨B, 1, none⟩ = some (.int .i64 (H : Int)) ∧ w'.cell? ⟨B, 2, none⟩ = some (.slice a n c) ∧ w'.cell? ⟨B + 1, 0, none⟩ = some (.int .u8 (q.r.toNat : Int)) ∧ w'.cell? ⟨B + 1, 1, none⟩ = some (.int .u8 (q.g.toNat : Int)) ∧ w'.cell? ⟨B + 1, 2, none⟩ = some (.int .u8 (q.b.toNat : Int)) ∧ w'.cell? ⟨B + 1, 3, none⟩ = some (.int .u8 (q.a.toNat : Int))) (first | with_reducible exact ⟨(unhide hkw10 _ _ hlF).trans cF0, (unhide hkw10 _ _ hlF).trans cF1, (unhide hkw10 _ _ hlF).trans cF2, (unhide hkw10 _ _ hlp).trans cp0, (unhide hkw10 _ _ hlp).trans cp1, (unhide hkw10 _ _ hlp).trans cp2, (unhide hkw10 _ _ hlq).trans cq0, (unhide hkw10 _ _ hlq).trans cq1, (unhide hkw10 _ _ hlq).trans cq2, (unhide hkw10 _ _ hlq).trans cq3⟩ | with_reducible exact ⟨(unhide hkw9 _ _ hlF).trans cF0, (unhide hkw9 _ _ hlF).trans cF1, (unhide hkw9 _ _ hlF).trans cF2, (unhide hkw9 _ _ hlp).trans cp0, (unhide hkw9 _ _ hlp).trans cp1, (unhide hkw9 _ _ hlp).trans cp2, (unhide hkw9 _ _ hlq).trans cq0, (unhide hkw9 _ _ hlq).trans cq1, (unhide hkw9 _ _ hlq).trans cq2, (unhide hkw9 _ _ hlq).trans cq3⟩ | exact ⟨cF0, cF1, cF2, cp0, cp1, cp2, cq0, cq1, cq2, cq3⟩) (first | (go_at_call 12; refine (unhide HFO w8.drew ((unhide HXp).below hdr)).mono ?_; rintro e w9 ⟨g, cg, rfl, hpr, hbw9⟩; have hqw9 := hdr.trans (hbw9.mono (by exact Nat.le_refl _)); have hkw9 := hide (fun (k o : Nat) (h : k < w8.heap.size) => hqw9.cell (p := ⟨k, o, none⟩) h)) | (go_at_call 11; refine (unhide HTo w9 _ _ _ _ ((unhide HXf).below hqw9) (hpr.isPx hM3)).mono ?_; rintro e w10 ⟨rfl, hbw10⟩; have hqw10 := hqw9.trans (hbw10.mono (by exact hqw9.size)); have hkw10 := hide (fun (k o : Nat) (h : k < w8.heap.size) => hqw10.cell (p := ⟨k, o, none⟩) h)))
  clear cp0 cp1 cp2 cq0 cq1 cq2 cq3 cF0 cF1 cF2 hlp hlq hlF
  have hbN := hqw10
  clear hdr hkw9 hkw10
  have hsz := hbN.size
  have kp := blk_below kp hbN (blk_lt kp)
  have kq := blk_below kq hbN (blk_lt kq)
  have kF := blk_below kF hbN (blk_lt kF)
  have HXp := hide ((unhide HXp).below hbN)
  have HXf := hide ((unhide HXf).below hbN)
  have HSe := hide ((unhide HSe).below hbN)
  have HB := hide ((unhide HB).trans (hbN.mono (by omega)))
  have hs : B + 2 ≤ w10.heap.size := by omega
  clear hbN hsz
  clear hpr
  have hlp : B < w10.heap.size := blk_lt kp
  have cp0 : w10.cell? ⟨B, 0, none⟩ = some (.int .i64 (W : Int)) := blk_cell kp 0
  have cp1 : w10.cell? ⟨B, 1, none⟩ = some (.int .i64 (H : Int)) := blk_cell kp 1
  have cp2 : w10.cell? ⟨B, 2, none⟩ = some (.slice a n c) := blk_cell kp 2
  have hlq : B + 1 < w10.heap.size := blk_lt kq
  have cq0 : w10.cell? ⟨B + 1, 0, none⟩ = some (.int .u8 (q.r.toNat : Int)) := blk_cell kq 0
  have cq1 : w10.cell? ⟨B + 1, 1, none⟩ = some (.int .u8 (q.g.toNat : Int)) := blk_cell kq 1
  have cq2 : w10.cell? ⟨B + 1, 2, none⟩ = some (.int .u8 (q.b.toNat : Int)) := blk_cell kq 2
  have cq3 : w10.cell? ⟨B + 1, 3, none⟩ = some (.int .u8 (q.a.toNat : Int)) := blk_cell kq 3
  have hlF : bF < w10.heap.size := blk_lt kF
  have cF0 : w10.cell? ⟨bF, 0, none⟩ = some (.int .i64 (W : Int)) := blk_cell kF 0
  have cF1 : w10.cell? ⟨bF, 1, none⟩ = some (.int .i64 (H : Int)) := blk_cell kF 1
  have cF2 : w10.cell? ⟨bF, 2, none⟩ = some (.slice af M cf) := blk_cell kF 2
  go_wp2_with fail
  clear cp0 cp1 cp2 cq0 cq1 cq2 cq3 cF0 cF1 cF2 hlp hlq hlF
  refine (unhide HF2 w10 _ _ (unhide HXf)).mono ?_
  rintro e w11 ⟨az, cz, rfl, hpx, hbN⟩
  have hsz := hbN.size
  have kp := blk_below kp hbN (blk_lt kp)
  have kq := blk_below kq hbN (blk_lt kq)
  have kF := blk_below kF hbN (blk_lt kF)
  have HXp := hide ((unhide HXp).below hbN)
  have HXf := hide ((unhide HXf).below hbN)
  have HSe := hide ((unhide HSe).below hbN)
  have HB := hide ((unhide HB).trans (hbN.mono (by omega)))
  have hs : B + 2 ≤ w11.heap.size := by omega
  clear hbN hsz
  have HXz := hide hpx
  clear hpx
  have hlp : B < w11.heap.size := blk_lt kp
  have cp0 : w11.cell? ⟨B, 0, none⟩ = some (.int .i64 (W : Int)) := blk_cell kp 0
  have cp1 : w11.cell? ⟨B, 1, none⟩ = some (.int .i64 (H : Int)) := blk_cell kp 1
  have cp2 : w11.cell? ⟨B, 2, none⟩ = some (.slice a n c) := blk_cell kp 2
  have hlq : B + 1 < w11.heap.size := blk_lt kq
  have cq0 : w11.cell? ⟨B + 1, 0, none⟩ = some (.int .u8 (q.r.toNat : Int)) := blk_cell kq 0
  have cq1 : w11.cell? ⟨B + 1, 1, none⟩ = some (.int .u8 (q.g.toNat : Int)) := blk_cell kq 1
  have cq2 : w11.cell? ⟨B + 1, 2, none⟩ = some (.int .u8 (q.b.toNat : Int)) := blk_cell kq 2
  have cq3 : w11.cell? ⟨B + 1, 3, none⟩ = some (.int .u8 (q.a.toNat : Int)) := blk_cell kq 3
  have hlF : bF < w11.heap.size := blk_lt kF
  have cF0 : w11.cell? ⟨bF, 0, none⟩ = some (.int .i64 (W : Int)) := blk_cell kF 0
  have cF1 : w11.cell? ⟨bF, 1, none⟩ = some (.int .i64 (H : Int)) := blk_cell kF 1
  have cF2 : w11.cell? ⟨bF, 2, none⟩ = some (.slice af M cf) := blk_cell kF 2
  have HA := hide (al1 w11 (.cells #[.int .i64 (W : Int), .int .i64 (H : Int), .slice az M cz] 24))
  obtain ⟨bZ, heqZ⟩ : ∃ b, b = w11.heap.size := ⟨_, rfl⟩
  go_wp2_with fail
  clear cp0 cp1 cp2 cq0 cq1 cq2 cq3 cF0 cF1 cF2 hlp hlq hlF
  generalize w11.alloc (.cells #[.int .i64 (W : Int), .int .i64 (H : Int), .slice az M cz] 24) = w12 at *
  rw [← heqZ] at HA ⊢
  obtain ⟨hsA, kZ, hbA⟩ := unhide HA
  rw [heqZ] at hbA
  have ltZp : B < bZ := by rw [heqZ]; exact blk_lt kp
  have ltZq : B + 1 < bZ := by rw [heqZ]; exact blk_lt kq
  have ltZF : bF < bZ := by rw [heqZ]; exact blk_lt kF
  have hgB : B ≤ bZ := by rw [heqZ]; omega
  clear HA
  have hsz := hbA.size
  have kp := blk_below kp hbA (blk_lt kp)
  have kq := blk_below kq hbA (blk_lt kq)
  have kF := blk_below kF hbA (blk_lt kF)
  have HXp := hide ((unhide HXp).below hbA)
  have HXf := hide ((unhide HXf).below hbA)
  have HXz := hide ((unhide HXz).below hbA)
  have HSe := hide ((unhide HSe).below hbA)
  have HB := hide ((unhide HB).trans (hbA.mono (by omega)))
  have hs : B + 2 ≤ w12.heap.size := by omega
  clear hbA hsz
  clear heqZ hsA
  refine (unhide HSP w12 _ _ _ _ (unhide HXz) (unhide HXf)).mono ?_
  rintro e w13 ⟨rfl, hbN⟩
  have hsz := hbN.size
  have kp := blk_below kp hbN (blk_lt kp)
  have kq := blk_below kq hbN (blk_lt kq)
  have kF := blk_below kF hbN (blk_lt kF)
  have kZ := blk_below kZ hbN (blk_lt kZ)
  have HXp := hide ((unhide HXp).below hbN)
  have HXf := hide ((unhide HXf).below hbN)
  have HXz := hide ((unhide HXz).below hbN)
  have HSe := hide ((unhide HSe).below hbN)
  have HB := hide ((unhide HB).trans (hbN.mono (by omega)))
  have hs : B + 2 ≤ w13.heap.size := by omega
  clear hbN hsz
  have hlp : B < w13.heap.size := blk_lt kp
  have cp0 : w13.cell? ⟨B, 0, none⟩ = some (.int .i64 (W : Int)) := blk_cell kp 0
  have cp1 : w13.cell? ⟨B, 1, none⟩ = some (.int .i64 (H : Int)) := blk_cell kp 1
  have cp2 : w13.cell? ⟨B, 2, none⟩ = some (.slice a n c) := blk_cell kp 2
  have hlq : B + 1 < w13.heap.size := blk_lt kq
  have cq0 : w13.cell? ⟨B + 1, 0, none⟩ = some (.int .u8 (q.r.toNat : Int)) := blk_cell kq 0
  have cq1 : w13.cell? ⟨B + 1, 1, none⟩ = some (.int .u8 (q.g.toNat : Int)) := blk_cell kq 1
  have cq2 : w13.cell? ⟨B + 1, 2, none⟩ = some (.int .u8 (q.b.toNat : Int)) := blk_cell kq 2
  have cq3 : w13.cell? ⟨B + 1, 3, none⟩ = some (.int .u8 (q.a.toNat : Int)) := blk_cell kq 3
  have hlF : bF < w13.heap.size := blk_lt kF
  have cF0 : w13.cell? ⟨bF, 0, none⟩ = some (.int .i64 (W : Int)) := blk_cell kF 0
  have cF1 : w13.cell? ⟨bF, 1, none⟩ = some (.int .i64 (H : Int)) := blk_cell kF 1
  have cF2 : w13.cell? ⟨bF, 2, none⟩ = some (.slice af M cf) := blk_cell kF 2
  have hlZ : bZ < w13.heap.size := blk_lt kZ
  have cZ0 : w13.cell? ⟨bZ, 0, none⟩ = some (.int .i64 (W : Int)) := blk_cell kZ 0
  have cZ1 : w13.cell? ⟨bZ, 1, none⟩ = some (.int .i64 (H : Int)) := blk_cell kZ 1
  have cZ2 : w13.cell? ⟨bZ, 2, none⟩ = some (.slice az M cz) := blk_cell kZ 2
  go_wp2
  clear cp0 cp1 cp2 cq0 cq1 cq2 cq3 cF0 cF1 cF2 cZ0 cZ1 cZ2 hlp hlq hlF hlZ
  go_ret
  exact ⟨rfl, by rw [← unhide HBE]; exact unhide HB⟩
end Go.Proofs.YtcicbafdacfbpaiDoor
