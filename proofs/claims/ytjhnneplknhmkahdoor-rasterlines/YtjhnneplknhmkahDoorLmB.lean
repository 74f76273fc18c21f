/- A line: the document's. Written by genrl.py. -/
import Derived.Test.YtjhnneplknhmkahDoorLm3
namespace Go.Proofs.YtjhnneplknhmkahDoor
open Go.RowKit

set_option maxHeartbeats 4000000 in
set_option maxRecDepth 100000 in
theorem lineOf_ppy (W H : Nat) (a : Option Addr) (n c : Nat) (p : Nat → Px) (x0 y0 x1 y1 : Int) (q : Px) (w : World) (hW0 : 1 ≤ W) (hW : W ≤ 256) (hH0 : 1 ≤ H) (hH : H ≤ 256) (hn : n = W * H) (hP : IsPx w a n p) (hb : Nr x0 ∧ Nr y0 ∧ Nr x1 ∧ Nr y1) (N : Nat) (hN : N = lnN x0 y0 x1 y1) (hsx : 0 ≤ x1 - x0) (hsy : 0 ≤ y1 - y0) (hbg : (x1 - x0).natAbs < (y1 - y0).natAbs) :
    Calls Tryd.prog 39 #[.agg #[.int .i64 (W : Int), .int .i64 (H : Int), .slice a n c], .int .i64 x0, .int .i64 y0, .int .i64 x1, .int .i64 y1, q.val] w fun e w' => ∃ g c2, e = .returned (.agg #[.int .i64 (W : Int), .int .i64 (H : Int), .slice (some ⟨g, 0, none⟩) (W * H) c2]) ∧ PR w' g (W * H) (lnP W H (fun k : Nat => aft (k : Int) (N : Int) x0 x1) (fun k : Nat => aft (k : Int) (N : Int) y0 y1) q p (N + 1)) ∧ Below w.heap.size w w' := by
  have hn0 : 1 ≤ n := by rw [hn]; exact Nat.mul_le_mul hW0 hH0
  have hn1 : n ≤ 100000 := by rw [hn]; exact Nat.le_trans (Nat.mul_le_mul hW hH) (by omega)
  have hNn : n ≤ 65536 := by rw [hn]; exact Nat.mul_le_mul hW hH
  have HO := hide (fun w (h : IsPx w a n p) => own_rowP W H a n c p w h hn1 hn0)
  have HPW := hide (fun wr (h : Below w.heap.size w wr) => hP.below h)
  have HNW := hide hn
  obtain ⟨b0, b1, b2, b3⟩ := hb
  unfold Nr at b0 b1 b2 b3
  obtain ⟨d1, hd1⟩ : ∃ d, d = x1 - x0 := ⟨_, rfl⟩
  obtain ⟨d3, hd3⟩ : ∃ d, d = y1 - y0 := ⟨_, rfl⟩
  obtain ⟨e1, he1⟩ : ∃ d, d = -d1 := ⟨_, rfl⟩
  obtain ⟨e3, he3⟩ : ∃ d, d = -d3 := ⟨_, rfl⟩
  have z1 : x1 - x0 = d1 := hd1.symm
  have z3 : y1 - y0 = d3 := hd3.symm
  have y1' : -d1 = e1 := he1.symm
  have y3' : -d3 = e3 := he3.symm
  have wd1 : IntKind.i64.wrap d1 = d1 := by rw [IntKind.wrap_i64]; omega
  have wd3 : IntKind.i64.wrap d3 = d3 := by rw [IntKind.wrap_i64]; omega
  have we1 : IntKind.i64.wrap e1 = e1 := by rw [IntKind.wrap_i64]; omega
  have we3 : IntKind.i64.wrap e3 = e3 := by rw [IntKind.wrap_i64]; omega
  have q1 : decide (e1 > d1) = false := decide_eq_false (by omega)
  have q2 : decide (e3 > d3) = false := decide_eq_false (by omega)
  have q3 : decide (d3 > d1) = true := decide_eq_true (by omega)
  have HL : Hid (d3 = (N : Int)) := by show _ = _; rw [hN]; unfold lnN; omega
  have hNb : N ≤ 20000 := by have := unhide HL; omega
  obtain ⟨X, hX⟩ : ∃ X : Nat → Int, X = fun (k : Nat) => aft (k : Int) (N : Int) x0 x1 := ⟨_, rfl⟩
  obtain ⟨Y, hY⟩ : ∃ Y : Nat → Int, Y = fun (k : Nat) => aft (k : Int) (N : Int) y0 y1 := ⟨_, rfl⟩
  have HXe : Hid (∀ k : Nat, X k = if N = 0 then x0 else x0 + (2 * (k : Int) * d1 + d3) / (2 * d3)) := fun k => by
    rw [hX]
    unfold aft
    dsimp only
    by_cases h : N = 0
    · rw [if_pos (by omega), if_pos h]
    · rw [if_neg (by omega), if_neg h, ← hd1, unhide HL]
  have HYe : Hid (∀ k : Nat, Y k = if N = 0 then y0 else y0 + (2 * (k : Int) * d3 + d3) / (2 * d3)) := fun k => by
    rw [hY]
    unfold aft
    dsimp only
    by_cases h : N = 0
    · rw [if_pos (by omega), if_pos h]
    · rw [if_neg (by omega), if_neg h, ← hd3, unhide HL]
  rw [← hX, ← hY]
  obtain ⟨M, hM⟩ : ∃ M, M = W * H := ⟨_, rfl⟩
  have hnM : n = M := by rw [hn, hM]
  rw [← hM]
  subst hnM
  have hD1 : -20000 ≤ d1 ∧ d1 ≤ 20000 := by omega
  have hD3 : -20000 ≤ d3 ∧ d3 ≤ 20000 := by omega
  unfold Px.val
  clear hP hn hN hX hY hM hd1 hd3 he1 he3 hsx hsy hbg hn0 hn1
  have HA := hide (al3 w (.cells #[.int .i64 (W : Int), .int .i64 (H : Int), .slice a n c] 26) (.cells #[.int .u8 (q.r.toNat : Int), .int .u8 (q.g.toNat : Int), .int .u8 (q.b.toNat : Int), .int .u8 (q.a.toNat : Int)] 23) (.cells #[.int .i64 0, .int .i64 0, .slice none 0 0] 26))
  obtain ⟨B, hB⟩ : ∃ B, B = w.heap.size := ⟨_, rfl⟩
  go_enter Tryd.func39, Tryd.ntmps39
  go_wp2_with fail
  generalize (((w.alloc (.cells #[.int .i64 (W : Int), .int .i64 (H : Int), .slice a n c] 26)).alloc (.cells #[.int .u8 (q.r.toNat : Int), .int .u8 (q.g.toNat : Int), .int .u8 (q.b.toNat : Int), .int .u8 (q.a.toNat : Int)] 23)).alloc (.cells #[.int .i64 0, .int .i64 0, .slice none 0 0] 26)) = w1 at *
  rw [← hB] at HA ⊢
  obtain ⟨hs1, kp, kq, kz, hb1⟩ := unhide HA
  have HBE := hide hB
  clear HA hB
  have hs : B + 3 ≤ w1.heap.size := by omega
  have HB := hide hb1
  clear hs1 hb1
  refine (unhide HO _ (unhide HPW _ (by rw [← unhide HBE]; exact unhide HB))).mono ?_
  rintro e w2 ⟨g, cg, rfl, hg, hpr, hbN⟩
  have hgl : B + 3 ≤ g := by omega
  have hsz := hbN.size
  have kp := blk_below kp hbN (blk_lt kp)
  have kq := blk_below kq hbN (blk_lt kq)
  have kz := blk_below kz hbN (blk_lt kz)
  have HB := hide ((unhide HB).trans (hbN.mono (by omega)))
  have hs : B + 3 ≤ w2.heap.size := by omega
  clear hbN hsz
  have hgs : g < w2.heap.size := hpr.lt
  have hlp : B < w2.heap.size := blk_lt kp
  have cp0 : w2.cell? ⟨B, 0, none⟩ = some (.int .i64 (W : Int)) := blk_cell kp 0
  have cp1 : w2.cell? ⟨B, 1, none⟩ = some (.int .i64 (H : Int)) := blk_cell kp 1
  have cp2 : w2.cell? ⟨B, 2, none⟩ = some (.slice a n c) := blk_cell kp 2
  have hlq : B + 1 < w2.heap.size := blk_lt kq
  have cq0 : w2.cell? ⟨B + 1, 0, none⟩ = some (.int .u8 (q.r.toNat : Int)) := blk_cell kq 0
  have cq1 : w2.cell? ⟨B + 1, 1, none⟩ = some (.int .u8 (q.g.toNat : Int)) := blk_cell kq 1
  have cq2 : w2.cell? ⟨B + 1, 2, none⟩ = some (.int .u8 (q.b.toNat : Int)) := blk_cell kq 2
  have cq3 : w2.cell? ⟨B + 1, 3, none⟩ = some (.int .u8 (q.a.toNat : Int)) := blk_cell kq 3
  have hlz : B + 2 < w2.heap.size := blk_lt kz
  have cz0 : w2.cell? ⟨B + 2, 0, none⟩ = some (.int .i64 0) := blk_cell kz 0
  have cz1 : w2.cell? ⟨B + 2, 1, none⟩ = some (.int .i64 0) := blk_cell kz 1
  have cz2 : w2.cell? ⟨B + 2, 2, none⟩ = some (.slice none 0 0) := blk_cell kz 2
  have HA := hide (al1 w2 (.cells #[.int .i64 (W : Int), .int .i64 (H : Int), .slice (some ⟨g, 0, none⟩) n cg] 26))
  obtain ⟨bO, heqO⟩ : ∃ b, b = w2.heap.size := ⟨_, rfl⟩
  go_wp2
  clear cp0 cp1 cp2 cq0 cq1 cq2 cq3 cz0 cz1 cz2 hlp hlq hlz
  have hgO : g < bO := by rw [heqO]; exact hgs
  generalize w2.alloc (.cells #[.int .i64 (W : Int), .int .i64 (H : Int), .slice (some ⟨g, 0, none⟩) n cg] 26) = w3 at *
  rw [← heqO] at HA ⊢
  obtain ⟨hsA, kO, hbA⟩ := unhide HA
  have hblkO := fun j (h : j < bO) => hbA.block j h
  rw [heqO] at hbA
  have ltOp : B < bO := by rw [heqO]; exact blk_lt kp
  have ltOq : B + 1 < bO := by rw [heqO]; exact blk_lt kq
  have ltOz : B + 2 < bO := by rw [heqO]; exact blk_lt kz
  have hgB : B ≤ bO := by rw [heqO]; omega
  clear HA
  have hsz := hbA.size
  have kp := blk_below kp hbA (blk_lt kp)
  have kq := blk_below kq hbA (blk_lt kq)
  have kz := blk_below kz hbA (blk_lt kz)
  have HB := hide ((unhide HB).trans (hbA.mono (by omega)))
  have hs : B + 3 ≤ w3.heap.size := by omega
  clear hbA hsz
  clear heqO hsA
  have HPR := hide (hpr.block (hblkO g hgO))
  clear hpr hgs hg hblkO
  have hgB : B ≤ g := by omega
  have Kp := hide kp
  have Kq := hide kq
  have Kz := hide kz
  have KO := hide kO
  clear kp kq kz kO hs q1 q2 q3
  go_loopw [16] (fun kv wr => ∃ k : Nat, k ≤ N + 1 ∧ kv = .int .i64 (k : Int) ∧ Hid (PR wr g n (lnP W H X Y q p k)) ∧ Hid (Below B w wr) ∧ Hid (wr.heap[B]? = some (.cells #[.int .i64 (W : Int), .int .i64 (H : Int), .slice a n c] 26)) ∧ Hid (wr.heap[B + 1]? = some (.cells #[.int .u8 (q.r.toNat : Int), .int .u8 (q.g.toNat : Int), .int .u8 (q.b.toNat : Int), .int .u8 (q.a.toNat : Int)] 23)) ∧ Hid (wr.heap[B + 2]? = some (.cells #[.int .i64 0, .int .i64 0, .slice none 0 0] 26)) ∧ Hid (wr.heap[bO]? = some (.cells #[.int .i64 (W : Int), .int .i64 (H : Int), .slice (some ⟨g, 0, none⟩) n cg] 26))) (fun kv _ => N + 1 - (intOf kv).toNat)
  case atStart => exact ⟨0, by omega, rfl, by show PR _ _ _ _; rw [lnP_zero]; exact unhide HPR, HB, Kp, Kq, Kz, KO⟩
  case round =>
    clear HPR HB Kp Kq Kz KO
    obtain ⟨k, hk, rfl, HPR, HB, Kp, Kq, Kz, KO⟩ := hrel
    have hLN := unhide HL
    by_cases hlt : k < N + 1
    · have c1 : decide ((k : Int) ≤ d3) = true := decide_eq_true (by omega)
      by_cases hN0 : N = 0
      · have cz : decide (d3 > 0) = false := decide_eq_false (by omega)
        have hXk : X k = x0 := by rw [unhide HXe, if_pos hN0]
        have hYk : Y k = y0 := by rw [unhide HYe, if_pos hN0]
        obtain ⟨xv, hxv⟩ : ∃ x, x = x0 := ⟨_, rfl⟩
        obtain ⟨yv, hyv⟩ : ∃ x, x = y0 := ⟨_, rfl⟩
        rw [← hxv] at hXk
        rw [← hyv] at hYk
        have hxv2 : x0 = xv := hxv.symm
        have hyv2 : y0 = yv := hyv.symm
        have HXK := hide hXk
        have HYK := hide hYk
        clear hXk hYk hLN
        by_cases hin : 0 ≤ xv ∧ 0 ≤ yv ∧ xv < (W : Int) ∧ yv < (H : Int)
        · have HIN := hide (fun w => inP_any W H xv yv a n c w)
          rw [decide_eq_true hin] at HIN
          rw [hxv, hyv] at HIN
          obtain ⟨xn, hxn⟩ := Int.eq_ofNat_of_zero_le hin.1
          obtain ⟨yn, hyn⟩ := Int.eq_ofNat_of_zero_le hin.2.1
          have hxl : xn < W := by omega
          have hyl : yn < H := by omega
          have HLS : Hid (lnP W H X Y q p (k + 1) = updP (lnP W H X Y q p k) (yn * W + xn) q) := lnP_in W H X Y q p k xn yn ((unhide HXK).trans hxn) ((unhide HYK).trans hyn) hxl hyl
          have hiN : yn * W + xn < n := by rw [unhide HNW]; exact place_lt hxl hyl
          obtain ⟨t, ht⟩ : ∃ t, t = yn * W := ⟨_, rfl⟩
          have htb : t ≤ 65536 := by rw [ht]; exact Nat.mul_le_mul (show yn ≤ 256 by omega) hW
          have zt : y0 * (W : Int) = (t : Int) := by rw [hyv2, hyn, ht]; simp
          obtain ⟨i, hi⟩ : ∃ i, i = t + xn := ⟨_, rfl⟩
          have e0 : (t : Int) + x0 = (i : Int) := by rw [hxv2, hxn, hi]; simp
          rw [← ht, ← hi] at HLS hiN
          have wrt : IntKind.i64.wrap (t : Int) = (t : Int) := by rw [IntKind.wrap_i64]; omega
          have wri : IntKind.i64.wrap (i : Int) = (i : Int) := by rw [IntKind.wrap_i64]; omega
          have hiI : (i : Int) < (n : Int) := by omega
          clear hxn hyn ht hi hin hxv hyv hxv2 hyv2
          have kp := unhide Kp
          have kq := unhide Kq
          have kz := unhide Kz
          have kO := unhide KO
          have hs : B + 3 ≤ wr.heap.size := by have := blk_lt kz; omega
          have hlp : B < wr.heap.size := blk_lt kp
          have cp0 : wr.cell? ⟨B, 0, none⟩ = some (.int .i64 (W : Int)) := blk_cell kp 0
          have cp1 : wr.cell? ⟨B, 1, none⟩ = some (.int .i64 (H : Int)) := blk_cell kp 1
          have cp2 : wr.cell? ⟨B, 2, none⟩ = some (.slice a n c) := blk_cell kp 2
          have hlq : B + 1 < wr.heap.size := blk_lt kq
          have cq0 : wr.cell? ⟨B + 1, 0, none⟩ = some (.int .u8 (q.r.toNat : Int)) := blk_cell kq 0
          have cq1 : wr.cell? ⟨B + 1, 1, none⟩ = some (.int .u8 (q.g.toNat : Int)) := blk_cell kq 1
          have cq2 : wr.cell? ⟨B + 1, 2, none⟩ = some (.int .u8 (q.b.toNat : Int)) := blk_cell kq 2
          have cq3 : wr.cell? ⟨B + 1, 3, none⟩ = some (.int .u8 (q.a.toNat : Int)) := blk_cell kq 3
          have hlz : B + 2 < wr.heap.size := blk_lt kz
          have cz0 : wr.cell? ⟨B + 2, 0, none⟩ = some (.int .i64 0) := blk_cell kz 0
          have cz1 : wr.cell? ⟨B + 2, 1, none⟩ = some (.int .i64 0) := blk_cell kz 1
          have cz2 : wr.cell? ⟨B + 2, 2, none⟩ = some (.slice none 0 0) := blk_cell kz 2
          have hlO : bO < wr.heap.size := blk_lt kO
          have cO0 : wr.cell? ⟨bO, 0, none⟩ = some (.int .i64 (W : Int)) := blk_cell kO 0
          have cO1 : wr.cell? ⟨bO, 1, none⟩ = some (.int .i64 (H : Int)) := blk_cell kO 1
          have cO2 : wr.cell? ⟨bO, 2, none⟩ = some (.slice (some ⟨g, 0, none⟩) n cg) := blk_cell kO 2
          go_wp2_with fail
          clear cp0 cp1 cp2 cq0 cq1 cq2 cq3 cz0 cz1 cz2 cO0 cO1 cO2 hlp hlq hlz hlO
          refine (unhide HIN _).mono ?_
          rintro e w4 ⟨rfl, hbN⟩
          have HPR := hide ((unhide HPR).below hbN (unhide HPR).lt)
          have hsz := hbN.size
          have kp := blk_below kp hbN (blk_lt kp)
          have kq := blk_below kq hbN (blk_lt kq)
          have kz := blk_below kz hbN (blk_lt kz)
          have kO := blk_below kO hbN (blk_lt kO)
          have HB := hide ((unhide HB).trans (hbN.mono (by omega)))
          have hs : B + 3 ≤ w4.heap.size := by omega
          clear hbN hsz
          have hlp : B < w4.heap.size := blk_lt kp
          have cp0 : w4.cell? ⟨B, 0, none⟩ = some (.int .i64 (W : Int)) := blk_cell kp 0
          have cp1 : w4.cell? ⟨B, 1, none⟩ = some (.int .i64 (H : Int)) := blk_cell kp 1
          have cp2 : w4.cell? ⟨B, 2, none⟩ = some (.slice a n c) := blk_cell kp 2
          have hlq : B + 1 < w4.heap.size := blk_lt kq
          have cq0 : w4.cell? ⟨B + 1, 0, none⟩ = some (.int .u8 (q.r.toNat : Int)) := blk_cell kq 0
          have cq1 : w4.cell? ⟨B + 1, 1, none⟩ = some (.int .u8 (q.g.toNat : Int)) := blk_cell kq 1
          have cq2 : w4.cell? ⟨B + 1, 2, none⟩ = some (.int .u8 (q.b.toNat : Int)) := blk_cell kq 2
          have cq3 : w4.cell? ⟨B + 1, 3, none⟩ = some (.int .u8 (q.a.toNat : Int)) := blk_cell kq 3
          have hlz : B + 2 < w4.heap.size := blk_lt kz
          have cz0 : w4.cell? ⟨B + 2, 0, none⟩ = some (.int .i64 0) := blk_cell kz 0
          have cz1 : w4.cell? ⟨B + 2, 1, none⟩ = some (.int .i64 0) := blk_cell kz 1
          have cz2 : w4.cell? ⟨B + 2, 2, none⟩ = some (.slice none 0 0) := blk_cell kz 2
          have hlO : bO < w4.heap.size := blk_lt kO
          have cO0 : w4.cell? ⟨bO, 0, none⟩ = some (.int .i64 (W : Int)) := blk_cell kO 0
          have cO1 : w4.cell? ⟨bO, 1, none⟩ = some (.int .i64 (H : Int)) := blk_cell kO 1
          have cO2 : w4.cell? ⟨bO, 2, none⟩ = some (.slice (some ⟨g, 0, none⟩) n cg) := blk_cell kO 2
          obtain ⟨t0, t1, t2, t3⟩ := (unhide HPR).px i hiN
          have f0 := (unhide HPR).fr (i * 4)
          have f1 := (unhide HPR).fr (i * 4 + 1)
          have f2 := (unhide HPR).fr (i * 4 + 2)
          have f3 := (unhide HPR).fr (i * 4 + 3)
          go_wp2
          go_roundw
          case rel => exact ⟨k + 1, by omega, by go_num, (by show PR _ _ _ _; rw [unhide HLS]; exact (unhide HPR).put hiN q), put4_below (unhide HB) hgB _, (put4_far _ _ _ _ _ (by omega)).trans kp, (put4_far _ _ _ _ _ (by omega)).trans kq, (put4_far _ _ _ _ _ (by omega)).trans kz, (put4_far _ _ _ _ _ (by omega)).trans kO⟩
          case measure => simp [intOf]; omega
        · have HIN := hide (fun w => inP_any W H xv yv a n c w)
          rw [decide_eq_false hin] at HIN
          rw [hxv, hyv] at HIN
          have HLS : Hid (lnP W H X Y q p (k + 1) = lnP W H X Y q p k) := lnP_out W H X Y q p k (by rw [unhide HXK, unhide HYK]; exact hin)
          clear hin hxv hyv hxv2 hyv2
          have kp := unhide Kp
          have kq := unhide Kq
          have kz := unhide Kz
          have kO := unhide KO
          have hs : B + 3 ≤ wr.heap.size := by have := blk_lt kz; omega
          have hlp : B < wr.heap.size := blk_lt kp
          have cp0 : wr.cell? ⟨B, 0, none⟩ = some (.int .i64 (W : Int)) := blk_cell kp 0
          have cp1 : wr.cell? ⟨B, 1, none⟩ = some (.int .i64 (H : Int)) := blk_cell kp 1
          have cp2 : wr.cell? ⟨B, 2, none⟩ = some (.slice a n c) := blk_cell kp 2
          have hlq : B + 1 < wr.heap.size := blk_lt kq
          have cq0 : wr.cell? ⟨B + 1, 0, none⟩ = some (.int .u8 (q.r.toNat : Int)) := blk_cell kq 0
          have cq1 : wr.cell? ⟨B + 1, 1, none⟩ = some (.int .u8 (q.g.toNat : Int)) := blk_cell kq 1
          have cq2 : wr.cell? ⟨B + 1, 2, none⟩ = some (.int .u8 (q.b.toNat : Int)) := blk_cell kq 2
          have cq3 : wr.cell? ⟨B + 1, 3, none⟩ = some (.int .u8 (q.a.toNat : Int)) := blk_cell kq 3
          have hlz : B + 2 < wr.heap.size := blk_lt kz
          have cz0 : wr.cell? ⟨B + 2, 0, none⟩ = some (.int .i64 0) := blk_cell kz 0
          have cz1 : wr.cell? ⟨B + 2, 1, none⟩ = some (.int .i64 0) := blk_cell kz 1
          have cz2 : wr.cell? ⟨B + 2, 2, none⟩ = some (.slice none 0 0) := blk_cell kz 2
          have hlO : bO < wr.heap.size := blk_lt kO
          have cO0 : wr.cell? ⟨bO, 0, none⟩ = some (.int .i64 (W : Int)) := blk_cell kO 0
          have cO1 : wr.cell? ⟨bO, 1, none⟩ = some (.int .i64 (H : Int)) := blk_cell kO 1
          have cO2 : wr.cell? ⟨bO, 2, none⟩ = some (.slice (some ⟨g, 0, none⟩) n cg) := blk_cell kO 2
          go_wp2_with fail
          clear cp0 cp1 cp2 cq0 cq1 cq2 cq3 cz0 cz1 cz2 cO0 cO1 cO2 hlp hlq hlz hlO
          refine (unhide HIN _).mono ?_
          rintro e w9 ⟨rfl, hbN⟩
          have HPR := hide ((unhide HPR).below hbN (unhide HPR).lt)
          have hsz := hbN.size
          have kp := blk_below kp hbN (blk_lt kp)
          have kq := blk_below kq hbN (blk_lt kq)
          have kz := blk_below kz hbN (blk_lt kz)
          have kO := blk_below kO hbN (blk_lt kO)
          have HB := hide ((unhide HB).trans (hbN.mono (by omega)))
          have hs : B + 3 ≤ w9.heap.size := by omega
          clear hbN hsz
          go_wp2
          go_roundw
          case rel => exact ⟨k + 1, by omega, by go_num, (by show PR _ _ _ _; rw [unhide HLS]; exact unhide HPR), HB, kp, kq, kz, kO⟩
          case measure => simp [intOf]; omega
      · have cz : decide (d3 > 0) = true := decide_eq_true (by omega)
        obtain ⟨k2, hk2⟩ : ∃ x, x = 2 * (k : Int) := ⟨_, rfl⟩
        obtain ⟨n2, hn2⟩ : ∃ x, x = 2 * d3 := ⟨_, rfl⟩
        have y1 : 2 * (k : Int) = k2 := hk2.symm
        have y2 : 2 * d3 = n2 := hn2.symm
        obtain ⟨mx, hmx⟩ : ∃ x, x = k2 * d1 := ⟨_, rfl⟩
        obtain ⟨sx, hsx⟩ : ∃ x, x = mx + d3 := ⟨_, rfl⟩
        have ux : k2 * d1 = mx := hmx.symm
        have vx : mx + d3 = sx := hsx.symm
        have hmxb : -800000000 ≤ mx ∧ mx ≤ 800000000 := by
          have h := mul_in (A := 40000) (B := 20000) (show -40000 ≤ k2 ∧ k2 ≤ 40000 by omega) hD1 (by omega)
          rw [← hmx] at h
          omega
        obtain ⟨qx, hqx⟩ : ∃ x, x = sx / n2 := ⟨_, rfl⟩
        have HDx := hide (fun w => downPart_any sx n2 w (by omega) (by omega) (by omega))
        rw [← hqx] at HDx
        have hqxb : -900000000 ≤ qx ∧ qx ≤ 900000000 := by rw [hqx]; exact quo_in sx n2 (by omega) (by omega)
        have wx1 : IntKind.i64.wrap mx = mx := by rw [IntKind.wrap_i64]; omega
        have wx2 : IntKind.i64.wrap sx = sx := by rw [IntKind.wrap_i64]; omega
        have wx3 : IntKind.i64.wrap (x0 + qx) = x0 + qx := by rw [IntKind.wrap_i64]; omega
        obtain ⟨my, hmy⟩ : ∃ x, x = k2 * d3 := ⟨_, rfl⟩
        obtain ⟨sy, hsy⟩ : ∃ x, x = my + d3 := ⟨_, rfl⟩
        have uy : k2 * d3 = my := hmy.symm
        have vy : my + d3 = sy := hsy.symm
        have hmyb : -800000000 ≤ my ∧ my ≤ 800000000 := by
          have h := mul_in (A := 40000) (B := 20000) (show -40000 ≤ k2 ∧ k2 ≤ 40000 by omega) hD3 (by omega)
          rw [← hmy] at h
          omega
        obtain ⟨qy, hqy⟩ : ∃ x, x = sy / n2 := ⟨_, rfl⟩
        have HDy := hide (fun w => downPart_any sy n2 w (by omega) (by omega) (by omega))
        rw [← hqy] at HDy
        have hqyb : -900000000 ≤ qy ∧ qy ≤ 900000000 := by rw [hqy]; exact quo_in sy n2 (by omega) (by omega)
        have wy1 : IntKind.i64.wrap my = my := by rw [IntKind.wrap_i64]; omega
        have wy2 : IntKind.i64.wrap sy = sy := by rw [IntKind.wrap_i64]; omega
        have wy3 : IntKind.i64.wrap (y0 + qy) = y0 + qy := by rw [IntKind.wrap_i64]; omega
        have wk2 : IntKind.i64.wrap k2 = k2 := by rw [IntKind.wrap_i64]; omega
        have wn2 : IntKind.i64.wrap n2 = n2 := by rw [IntKind.wrap_i64]; omega
        have hXk : X k = x0 + qx := by rw [unhide HXe, if_neg hN0, hqx, hsx, hmx, hk2, hn2]
        have hYk : Y k = y0 + qy := by rw [unhide HYe, if_neg hN0, hqy, hsy, hmy, hk2, hn2]
        clear hqx hqy hsx hsy hmx hmy hk2 hn2 hmxb hmyb hqxb hqyb
        obtain ⟨xv, hxv⟩ : ∃ x, x = x0 + qx := ⟨_, rfl⟩
        obtain ⟨yv, hyv⟩ : ∃ x, x = y0 + qy := ⟨_, rfl⟩
        rw [← hxv] at hXk
        rw [← hyv] at hYk
        have zxv : x0 + qx = xv := hxv.symm
        have zyv : y0 + qy = yv := hyv.symm
        have wxv : IntKind.i64.wrap xv = xv := by rw [hxv]; exact wx3
        have wyv : IntKind.i64.wrap yv = yv := by rw [hyv]; exact wy3
        clear wx3 wy3
        have HXK := hide hXk
        have HYK := hide hYk
        clear hXk hYk hLN
        clear hxv hyv
        by_cases hin : 0 ≤ xv ∧ 0 ≤ yv ∧ xv < (W : Int) ∧ yv < (H : Int)
        · have HIN := hide (fun w => inP_any W H xv yv a n c w)
          rw [decide_eq_true hin] at HIN
          obtain ⟨xn, hxn⟩ := Int.eq_ofNat_of_zero_le hin.1
          obtain ⟨yn, hyn⟩ := Int.eq_ofNat_of_zero_le hin.2.1
          have hxl : xn < W := by omega
          have hyl : yn < H := by omega
          have HLS : Hid (lnP W H X Y q p (k + 1) = updP (lnP W H X Y q p k) (yn * W + xn) q) := lnP_in W H X Y q p k xn yn ((unhide HXK).trans hxn) ((unhide HYK).trans hyn) hxl hyl
          have hiN : yn * W + xn < n := by rw [unhide HNW]; exact place_lt hxl hyl
          obtain ⟨t, ht⟩ : ∃ t, t = yn * W := ⟨_, rfl⟩
          have htb : t ≤ 65536 := by rw [ht]; exact Nat.mul_le_mul (show yn ≤ 256 by omega) hW
          have zt : yv * (W : Int) = (t : Int) := by rw [hyn, ht]; simp
          obtain ⟨i, hi⟩ : ∃ i, i = t + xn := ⟨_, rfl⟩
          have e0 : (t : Int) + xv = (i : Int) := by rw [hxn, hi]; simp
          rw [← ht, ← hi] at HLS hiN
          have wrt : IntKind.i64.wrap (t : Int) = (t : Int) := by rw [IntKind.wrap_i64]; omega
          have wri : IntKind.i64.wrap (i : Int) = (i : Int) := by rw [IntKind.wrap_i64]; omega
          have hiI : (i : Int) < (n : Int) := by omega
          clear hxn hyn ht hi hin
          have kp := unhide Kp
          have kq := unhide Kq
          have kz := unhide Kz
          have kO := unhide KO
          have hs : B + 3 ≤ wr.heap.size := by have := blk_lt kz; omega
          have hlp : B < wr.heap.size := blk_lt kp
          have cp0 : wr.cell? ⟨B, 0, none⟩ = some (.int .i64 (W : Int)) := blk_cell kp 0
          have cp1 : wr.cell? ⟨B, 1, none⟩ = some (.int .i64 (H : Int)) := blk_cell kp 1
          have cp2 : wr.cell? ⟨B, 2, none⟩ = some (.slice a n c) := blk_cell kp 2
          have hlq : B + 1 < wr.heap.size := blk_lt kq
          have cq0 : wr.cell? ⟨B + 1, 0, none⟩ = some (.int .u8 (q.r.toNat : Int)) := blk_cell kq 0
          have cq1 : wr.cell? ⟨B + 1, 1, none⟩ = some (.int .u8 (q.g.toNat : Int)) := blk_cell kq 1
          have cq2 : wr.cell? ⟨B + 1, 2, none⟩ = some (.int .u8 (q.b.toNat : Int)) := blk_cell kq 2
          have cq3 : wr.cell? ⟨B + 1, 3, none⟩ = some (.int .u8 (q.a.toNat : Int)) := blk_cell kq 3
          have hlz : B + 2 < wr.heap.size := blk_lt kz
          have cz0 : wr.cell? ⟨B + 2, 0, none⟩ = some (.int .i64 0) := blk_cell kz 0
          have cz1 : wr.cell? ⟨B + 2, 1, none⟩ = some (.int .i64 0) := blk_cell kz 1
          have cz2 : wr.cell? ⟨B + 2, 2, none⟩ = some (.slice none 0 0) := blk_cell kz 2
          have hlO : bO < wr.heap.size := blk_lt kO
          have cO0 : wr.cell? ⟨bO, 0, none⟩ = some (.int .i64 (W : Int)) := blk_cell kO 0
          have cO1 : wr.cell? ⟨bO, 1, none⟩ = some (.int .i64 (H : Int)) := blk_cell kO 1
          have cO2 : wr.cell? ⟨bO, 2, none⟩ = some (.slice (some ⟨g, 0, none⟩) n cg) := blk_cell kO 2
          go_wp2_with fail
          clear cp0 cp1 cp2 cq0 cq1 cq2 cq3 cz0 cz1 cz2 cO0 cO1 cO2 hlp hlq hlz hlO
          refine (unhide HDx _).mono ?_
          rintro e wr ⟨rfl, rfl⟩
          have hlp : B < wr.heap.size := blk_lt kp
          have cp0 : wr.cell? ⟨B, 0, none⟩ = some (.int .i64 (W : Int)) := blk_cell kp 0
          have cp1 : wr.cell? ⟨B, 1, none⟩ = some (.int .i64 (H : Int)) := blk_cell kp 1
          have cp2 : wr.cell? ⟨B, 2, none⟩ = some (.slice a n c) := blk_cell kp 2
          have hlq : B + 1 < wr.heap.size := blk_lt kq
          have cq0 : wr.cell? ⟨B + 1, 0, none⟩ = some (.int .u8 (q.r.toNat : Int)) := blk_cell kq 0
          have cq1 : wr.cell? ⟨B + 1, 1, none⟩ = some (.int .u8 (q.g.toNat : Int)) := blk_cell kq 1
          have cq2 : wr.cell? ⟨B + 1, 2, none⟩ = some (.int .u8 (q.b.toNat : Int)) := blk_cell kq 2
          have cq3 : wr.cell? ⟨B + 1, 3, none⟩ = some (.int .u8 (q.a.toNat : Int)) := blk_cell kq 3
          have hlz : B + 2 < wr.heap.size := blk_lt kz
          have cz0 : wr.cell? ⟨B + 2, 0, none⟩ = some (.int .i64 0) := blk_cell kz 0
          have cz1 : wr.cell? ⟨B + 2, 1, none⟩ = some (.int .i64 0) := blk_cell kz 1
          have cz2 : wr.cell? ⟨B + 2, 2, none⟩ = some (.slice none 0 0) := blk_cell kz 2
          have hlO : bO < wr.heap.size := blk_lt kO
          have cO0 : wr.cell? ⟨bO, 0, none⟩ = some (.int .i64 (W : Int)) := blk_cell kO 0
          have cO1 : wr.cell? ⟨bO, 1, none⟩ = some (.int .i64 (H : Int)) := blk_cell kO 1
          have cO2 : wr.cell? ⟨bO, 2, none⟩ = some (.slice (some ⟨g, 0, none⟩) n cg) := blk_cell kO 2
          go_wp2_with fail
          clear cp0 cp1 cp2 cq0 cq1 cq2 cq3 cz0 cz1 cz2 cO0 cO1 cO2 hlp hlq hlz hlO
          refine (unhide HDy _).mono ?_
          rintro e wr ⟨rfl, rfl⟩
          have hlp : B < wr.heap.size := blk_lt kp
          have cp0 : wr.cell? ⟨B, 0, none⟩ = some (.int .i64 (W : Int)) := blk_cell kp 0
          have cp1 : wr.cell? ⟨B, 1, none⟩ = some (.int .i64 (H : Int)) := blk_cell kp 1
          have cp2 : wr.cell? ⟨B, 2, none⟩ = some (.slice a n c) := blk_cell kp 2
          have hlq : B + 1 < wr.heap.size := blk_lt kq
          have cq0 : wr.cell? ⟨B + 1, 0, none⟩ = some (.int .u8 (q.r.toNat : Int)) := blk_cell kq 0
          have cq1 : wr.cell? ⟨B + 1, 1, none⟩ = some (.int .u8 (q.g.toNat : Int)) := blk_cell kq 1
          have cq2 : wr.cell? ⟨B + 1, 2, none⟩ = some (.int .u8 (q.b.toNat : Int)) := blk_cell kq 2
          have cq3 : wr.cell? ⟨B + 1, 3, none⟩ = some (.int .u8 (q.a.toNat : Int)) := blk_cell kq 3
          have hlz : B + 2 < wr.heap.size := blk_lt kz
          have cz0 : wr.cell? ⟨B + 2, 0, none⟩ = some (.int .i64 0) := blk_cell kz 0
          have cz1 : wr.cell? ⟨B + 2, 1, none⟩ = some (.int .i64 0) := blk_cell kz 1
          have cz2 : wr.cell? ⟨B + 2, 2, none⟩ = some (.slice none 0 0) := blk_cell kz 2
          have hlO : bO < wr.heap.size := blk_lt kO
          have cO0 : wr.cell? ⟨bO, 0, none⟩ = some (.int .i64 (W : Int)) := blk_cell kO 0
          have cO1 : wr.cell? ⟨bO, 1, none⟩ = some (.int .i64 (H : Int)) := blk_cell kO 1
          have cO2 : wr.cell? ⟨bO, 2, none⟩ = some (.slice (some ⟨g, 0, none⟩) n cg) := blk_cell kO 2
          go_wp2_with fail
          clear cp0 cp1 cp2 cq0 cq1 cq2 cq3 cz0 cz1 cz2 cO0 cO1 cO2 hlp hlq hlz hlO
          refine (unhide HIN _).mono ?_
          rintro e w14 ⟨rfl, hbN⟩
          have HPR := hide ((unhide HPR).below hbN (unhide HPR).lt)
          have hsz := hbN.size
          have kp := blk_below kp hbN (blk_lt kp)
          have kq := blk_below kq hbN (blk_lt kq)
          have kz := blk_below kz hbN (blk_lt kz)
          have kO := blk_below kO hbN (blk_lt kO)
          have HB := hide ((unhide HB).trans (hbN.mono (by omega)))
          have hs : B + 3 ≤ w14.heap.size := by omega
          clear hbN hsz
          have hlp : B < w14.heap.size := blk_lt kp
          have cp0 : w14.cell? ⟨B, 0, none⟩ = some (.int .i64 (W : Int)) := blk_cell kp 0
          have cp1 : w14.cell? ⟨B, 1, none⟩ = some (.int .i64 (H : Int)) := blk_cell kp 1
          have cp2 : w14.cell? ⟨B, 2, none⟩ = some (.slice a n c) := blk_cell kp 2
          have hlq : B + 1 < w14.heap.size := blk_lt kq
          have cq0 : w14.cell? ⟨B + 1, 0, none⟩ = some (.int .u8 (q.r.toNat : Int)) := blk_cell kq 0
          have cq1 : w14.cell? ⟨B + 1, 1, none⟩ = some (.int .u8 (q.g.toNat : Int)) := blk_cell kq 1
          have cq2 : w14.cell? ⟨B + 1, 2, none⟩ = some (.int .u8 (q.b.toNat : Int)) := blk_cell kq 2
          have cq3 : w14.cell? ⟨B + 1, 3, none⟩ = some (.int .u8 (q.a.toNat : Int)) := blk_cell kq 3
          have hlz : B + 2 < w14.heap.size := blk_lt kz
          have cz0 : w14.cell? ⟨B + 2, 0, none⟩ = some (.int .i64 0) := blk_cell kz 0
          have cz1 : w14.cell? ⟨B + 2, 1, none⟩ = some (.int .i64 0) := blk_cell kz 1
          have cz2 : w14.cell? ⟨B + 2, 2, none⟩ = some (.slice none 0 0) := blk_cell kz 2
          have hlO : bO < w14.heap.size := blk_lt kO
          have cO0 : w14.cell? ⟨bO, 0, none⟩ = some (.int .i64 (W : Int)) := blk_cell kO 0
          have cO1 : w14.cell? ⟨bO, 1, none⟩ = some (.int .i64 (H : Int)) := blk_cell kO 1
          have cO2 : w14.cell? ⟨bO, 2, none⟩ = some (.slice (some ⟨g, 0, none⟩) n cg) := blk_cell kO 2
          obtain ⟨t0, t1, t2, t3⟩ := (unhide HPR).px i hiN
          have f0 := (unhide HPR).fr (i * 4)
          have f1 := (unhide HPR).fr (i * 4 + 1)
          have f2 := (unhide HPR).fr (i * 4 + 2)
          have f3 := (unhide HPR).fr (i * 4 + 3)
          go_wp2
          go_roundw
          case rel => exact ⟨k + 1, by omega, by go_num, (by show PR _ _ _ _; rw [unhide HLS]; exact (unhide HPR).put hiN q), put4_below (unhide HB) hgB _, (put4_far _ _ _ _ _ (by omega)).trans kp, (put4_far _ _ _ _ _ (by omega)).trans kq, (put4_far _ _ _ _ _ (by omega)).trans kz, (put4_far _ _ _ _ _ (by omega)).trans kO⟩
          case measure => simp [intOf]; omega
        · have HIN := hide (fun w => inP_any W H xv yv a n c w)
          rw [decide_eq_false hin] at HIN
          have HLS : Hid (lnP W H X Y q p (k + 1) = lnP W H X Y q p k) := lnP_out W H X Y q p k (by rw [unhide HXK, unhide HYK]; exact hin)
          clear hin
          have kp := unhide Kp
          have kq := unhide Kq
          have kz := unhide Kz
          have kO := unhide KO
          have hs : B + 3 ≤ wr.heap.size := by have := blk_lt kz; omega
          have hlp : B < wr.heap.size := blk_lt kp
          have cp0 : wr.cell? ⟨B, 0, none⟩ = some (.int .i64 (W : Int)) := blk_cell kp 0
          have cp1 : wr.cell? ⟨B, 1, none⟩ = some (.int .i64 (H : Int)) := blk_cell kp 1
          have cp2 : wr.cell? ⟨B, 2, none⟩ = some (.slice a n c) := blk_cell kp 2
          have hlq : B + 1 < wr.heap.size := blk_lt kq
          have cq0 : wr.cell? ⟨B + 1, 0, none⟩ = some (.int .u8 (q.r.toNat : Int)) := blk_cell kq 0
          have cq1 : wr.cell? ⟨B + 1, 1, none⟩ = some (.int .u8 (q.g.toNat : Int)) := blk_cell kq 1
          have cq2 : wr.cell? ⟨B + 1, 2, none⟩ = some (.int .u8 (q.b.toNat : Int)) := blk_cell kq 2
          have cq3 : wr.cell? ⟨B + 1, 3, none⟩ = some (.int .u8 (q.a.toNat : Int)) := blk_cell kq 3
          have hlz : B + 2 < wr.heap.size := blk_lt kz
          have cz0 : wr.cell? ⟨B + 2, 0, none⟩ = some (.int .i64 0) := blk_cell kz 0
          have cz1 : wr.cell? ⟨B + 2, 1, none⟩ = some (.int .i64 0) := blk_cell kz 1
          have cz2 : wr.cell? ⟨B + 2, 2, none⟩ = some (.slice none 0 0) := blk_cell kz 2
          have hlO : bO < wr.heap.size := blk_lt kO
          have cO0 : wr.cell? ⟨bO, 0, none⟩ = some (.int .i64 (W : Int)) := blk_cell kO 0
          have cO1 : wr.cell? ⟨bO, 1, none⟩ = some (.int .i64 (H : Int)) := blk_cell kO 1
          have cO2 : wr.cell? ⟨bO, 2, none⟩ = some (.slice (some ⟨g, 0, none⟩) n cg) := blk_cell kO 2
          go_wp2_with fail
          clear cp0 cp1 cp2 cq0 cq1 cq2 cq3 cz0 cz1 cz2 cO0 cO1 cO2 hlp hlq hlz hlO
          refine (unhide HDx _).mono ?_
          rintro e wr ⟨rfl, rfl⟩
          have hlp : B < wr.heap.size := blk_lt kp
          have cp0 : wr.cell? ⟨B, 0, none⟩ = some (.int .i64 (W : Int)) := blk_cell kp 0
          have cp1 : wr.cell? ⟨B, 1, none⟩ = some (.int .i64 (H : Int)) := blk_cell kp 1
          have cp2 : wr.cell? ⟨B, 2, none⟩ = some (.slice a n c) := blk_cell kp 2
          have hlq : B + 1 < wr.heap.size := blk_lt kq
          have cq0 : wr.cell? ⟨B + 1, 0, none⟩ = some (.int .u8 (q.r.toNat : Int)) := blk_cell kq 0
          have cq1 : wr.cell? ⟨B + 1, 1, none⟩ = some (.int .u8 (q.g.toNat : Int)) := blk_cell kq 1
          have cq2 : wr.cell? ⟨B + 1, 2, none⟩ = some (.int .u8 (q.b.toNat : Int)) := blk_cell kq 2
          have cq3 : wr.cell? ⟨B + 1, 3, none⟩ = some (.int .u8 (q.a.toNat : Int)) := blk_cell kq 3
          have hlz : B + 2 < wr.heap.size := blk_lt kz
          have cz0 : wr.cell? ⟨B + 2, 0, none⟩ = some (.int .i64 0) := blk_cell kz 0
          have cz1 : wr.cell? ⟨B + 2, 1, none⟩ = some (.int .i64 0) := blk_cell kz 1
          have cz2 : wr.cell? ⟨B + 2, 2, none⟩ = some (.slice none 0 0) := blk_cell kz 2
          have hlO : bO < wr.heap.size := blk_lt kO
          have cO0 : wr.cell? ⟨bO, 0, none⟩ = some (.int .i64 (W : Int)) := blk_cell kO 0
          have cO1 : wr.cell? ⟨bO, 1, none⟩ = some (.int .i64 (H : Int)) := blk_cell kO 1
          have cO2 : wr.cell? ⟨bO, 2, none⟩ = some (.slice (some ⟨g, 0, none⟩) n cg) := blk_cell kO 2
          go_wp2_with fail
          clear cp0 cp1 cp2 cq0 cq1 cq2 cq3 cz0 cz1 cz2 cO0 cO1 cO2 hlp hlq hlz hlO
          refine (unhide HDy _).mono ?_
          rintro e wr ⟨rfl, rfl⟩
          have hlp : B < wr.heap.size := blk_lt kp
          have cp0 : wr.cell? ⟨B, 0, none⟩ = some (.int .i64 (W : Int)) := blk_cell kp 0
          have cp1 : wr.cell? ⟨B, 1, none⟩ = some (.int .i64 (H : Int)) := blk_cell kp 1
          have cp2 : wr.cell? ⟨B, 2, none⟩ = some (.slice a n c) := blk_cell kp 2
          have hlq : B + 1 < wr.heap.size := blk_lt kq
          have cq0 : wr.cell? ⟨B + 1, 0, none⟩ = some (.int .u8 (q.r.toNat : Int)) := blk_cell kq 0
          have cq1 : wr.cell? ⟨B + 1, 1, none⟩ = some (.int .u8 (q.g.toNat : Int)) := blk_cell kq 1
          have cq2 : wr.cell? ⟨B + 1, 2, none⟩ = some (.int .u8 (q.b.toNat : Int)) := blk_cell kq 2
          have cq3 : wr.cell? ⟨B + 1, 3, none⟩ = some (.int .u8 (q.a.toNat : Int)) := blk_cell kq 3
          have hlz : B + 2 < wr.heap.size := blk_lt kz
          have cz0 : wr.cell? ⟨B + 2, 0, none⟩ = some (.int .i64 0) := blk_cell kz 0
          have cz1 : wr.cell? ⟨B + 2, 1, none⟩ = some (.int .i64 0) := blk_cell kz 1
          have cz2 : wr.cell? ⟨B + 2, 2, none⟩ = some (.slice none 0 0) := blk_cell kz 2
          have hlO : bO < wr.heap.size := blk_lt kO
          have cO0 : wr.cell? ⟨bO, 0, none⟩ = some (.int .i64 (W : Int)) := blk_cell kO 0
          have cO1 : wr.cell? ⟨bO, 1, none⟩ = some (.int .i64 (H : Int)) := blk_cell kO 1
          have cO2 : wr.cell? ⟨bO, 2, none⟩ = some (.slice (some ⟨g, 0, none⟩) n cg) := blk_cell kO 2
          go_wp2_with fail
          clear cp0 cp1 cp2 cq0 cq1 cq2 cq3 cz0 cz1 cz2 cO0 cO1 cO2 hlp hlq hlz hlO
          refine (unhide HIN _).mono ?_
          rintro e w19 ⟨rfl, hbN⟩
          have HPR := hide ((unhide HPR).below hbN (unhide HPR).lt)
          have hsz := hbN.size
          have kp := blk_below kp hbN (blk_lt kp)
          have kq := blk_below kq hbN (blk_lt kq)
          have kz := blk_below kz hbN (blk_lt kz)
          have kO := blk_below kO hbN (blk_lt kO)
          have HB := hide ((unhide HB).trans (hbN.mono (by omega)))
          have hs : B + 3 ≤ w19.heap.size := by omega
          clear hbN hsz
          go_wp2
          go_roundw
          case rel => exact ⟨k + 1, by omega, by go_num, (by show PR _ _ _ _; rw [unhide HLS]; exact unhide HPR), HB, kp, kq, kz, kO⟩
          case measure => simp [intOf]; omega
    · have c1 : decide ((k : Int) ≤ d3) = false := decide_eq_false (by omega)
      have hkN : k = N + 1 := by omega
      have HF : Hid (PR wr g n (lnP W H X Y q p (N + 1))) := by show PR _ _ _ _; rw [← hkN]; exact unhide HPR
      clear hkN HPR hLN
      have kp := unhide Kp
      have kq := unhide Kq
      have kz := unhide Kz
      have kO := unhide KO
      have hs : B + 3 ≤ wr.heap.size := by have := blk_lt kz; omega
      have r0 := blk_frozen kz 0
      have r1 := blk_frozen kz 1
      have r2 := blk_frozen kz 2
      have hlp : B < wr.heap.size := blk_lt kp
      have cp0 : wr.cell? ⟨B, 0, none⟩ = some (.int .i64 (W : Int)) := blk_cell kp 0
      have cp1 : wr.cell? ⟨B, 1, none⟩ = some (.int .i64 (H : Int)) := blk_cell kp 1
      have cp2 : wr.cell? ⟨B, 2, none⟩ = some (.slice a n c) := blk_cell kp 2
      have hlq : B + 1 < wr.heap.size := blk_lt kq
      have cq0 : wr.cell? ⟨B + 1, 0, none⟩ = some (.int .u8 (q.r.toNat : Int)) := blk_cell kq 0
      have cq1 : wr.cell? ⟨B + 1, 1, none⟩ = some (.int .u8 (q.g.toNat : Int)) := blk_cell kq 1
      have cq2 : wr.cell? ⟨B + 1, 2, none⟩ = some (.int .u8 (q.b.toNat : Int)) := blk_cell kq 2
      have cq3 : wr.cell? ⟨B + 1, 3, none⟩ = some (.int .u8 (q.a.toNat : Int)) := blk_cell kq 3
      have hlz : B + 2 < wr.heap.size := blk_lt kz
      have cz0 : wr.cell? ⟨B + 2, 0, none⟩ = some (.int .i64 0) := blk_cell kz 0
      have cz1 : wr.cell? ⟨B + 2, 1, none⟩ = some (.int .i64 0) := blk_cell kz 1
      have cz2 : wr.cell? ⟨B + 2, 2, none⟩ = some (.slice none 0 0) := blk_cell kz 2
      have hlO : bO < wr.heap.size := blk_lt kO
      have cO0 : wr.cell? ⟨bO, 0, none⟩ = some (.int .i64 (W : Int)) := blk_cell kO 0
      have cO1 : wr.cell? ⟨bO, 1, none⟩ = some (.int .i64 (H : Int)) := blk_cell kO 1
      have cO2 : wr.cell? ⟨bO, 2, none⟩ = some (.slice (some ⟨g, 0, none⟩) n cg) := blk_cell kO 2
      clear kp kq kz kO
      go_wp2
      refine bodyPost_ret (v := .agg #[.int .i64 (W : Int), .int .i64 (H : Int), .slice (some ⟨g, 0, none⟩) n cg]) ?_ rfl ⟨g, cg, rfl, ?_, ?_⟩
      · rw [results_cellP (p := 12) (ty := 26) (by kernel_rfl)]
        go_simp
      · exact (unhide HF).block (by rw [Below.heap_setCell _ _ _ _ (by show g ≠ B + 2; omega), Below.heap_setCell _ _ _ _ (by show g ≠ B + 2; omega), Below.heap_setCell _ _ _ _ (by show g ≠ B + 2; omega)])
      · rw [← unhide HBE]
        exact ((((unhide HB).setCell (p := ⟨B + 2, 0, none⟩) (by show B ≤ B + 2; omega) _).setCell (p := ⟨B + 2, 1, none⟩) (by show B ≤ B + 2; omega) _).setCell (p := ⟨B + 2, 2, none⟩) (by show B ≤ B + 2; omega) _)

set_option maxHeartbeats 4000000 in
set_option maxRecDepth 100000 in
theorem lineOf_pnx (W H : Nat) (a : Option Addr) (n c : Nat) (p : Nat → Px) (x0 y0 x1 y1 : Int) (q : Px) (w : World) (hW0 : 1 ≤ W) (hW : W ≤ 256) (hH0 : 1 ≤ H) (hH : H ≤ 256) (hn : n = W * H) (hP : IsPx w a n p) (hb : Nr x0 ∧ Nr y0 ∧ Nr x1 ∧ Nr y1) (N : Nat) (hN : N = lnN x0 y0 x1 y1) (hsx : 0 ≤ x1 - x0) (hsy : y1 - y0 < 0) (hbg : (y1 - y0).natAbs ≤ (x1 - x0).natAbs) :
    Calls Tryd.prog 39 #[.agg #[.int .i64 (W : Int), .int .i64 (H : Int), .slice a n c], .int .i64 x0, .int .i64 y0, .int .i64 x1, .int .i64 y1, q.val] w fun e w' => ∃ g c2, e = .returned (.agg #[.int .i64 (W : Int), .int .i64 (H : Int), .slice (some ⟨g, 0, none⟩) (W * H) c2]) ∧ PR w' g (W * H) (lnP W H (fun k : Nat => aft (k : Int) (N : Int) x0 x1) (fun k : Nat => aft (k : Int) (N : Int) y0 y1) q p (N + 1)) ∧ Below w.heap.size w w' := by
  have hn0 : 1 ≤ n := by rw [hn]; exact Nat.mul_le_mul hW0 hH0
  have hn1 : n ≤ 100000 := by rw [hn]; exact Nat.le_trans (Nat.mul_le_mul hW hH) (by omega)
  have hNn : n ≤ 65536 := by rw [hn]; exact Nat.mul_le_mul hW hH
  have HO := hide (fun w (h : IsPx w a n p) => own_rowP W H a n c p w h hn1 hn0)
  have HPW := hide (fun wr (h : Below w.heap.size w wr) => hP.below h)
  have HNW := hide hn
  obtain ⟨b0, b1, b2, b3⟩ := hb
  unfold Nr at b0 b1 b2 b3
  obtain ⟨d1, hd1⟩ : ∃ d, d = x1 - x0 := ⟨_, rfl⟩
  obtain ⟨d3, hd3⟩ : ∃ d, d = y1 - y0 := ⟨_, rfl⟩
  obtain ⟨e1, he1⟩ : ∃ d, d = -d1 := ⟨_, rfl⟩
  obtain ⟨e3, he3⟩ : ∃ d, d = -d3 := ⟨_, rfl⟩
  have z1 : x1 - x0 = d1 := hd1.symm
  have z3 : y1 - y0 = d3 := hd3.symm
  have y1' : -d1 = e1 := he1.symm
  have y3' : -d3 = e3 := he3.symm
  have wd1 : IntKind.i64.wrap d1 = d1 := by rw [IntKind.wrap_i64]; omega
  have wd3 : IntKind.i64.wrap d3 = d3 := by rw [IntKind.wrap_i64]; omega
  have we1 : IntKind.i64.wrap e1 = e1 := by rw [IntKind.wrap_i64]; omega
  have we3 : IntKind.i64.wrap e3 = e3 := by rw [IntKind.wrap_i64]; omega
  have q1 : decide (e1 > d1) = false := decide_eq_false (by omega)
  have q2 : decide (e3 > d3) = true := decide_eq_true (by omega)
  have q3 : decide (e3 > d1) = false := decide_eq_false (by omega)
  have HL : Hid (d1 = (N : Int)) := by show _ = _; rw [hN]; unfold lnN; omega
  have hNb : N ≤ 20000 := by have := unhide HL; omega
  obtain ⟨X, hX⟩ : ∃ X : Nat → Int, X = fun (k : Nat) => aft (k : Int) (N : Int) x0 x1 := ⟨_, rfl⟩
  obtain ⟨Y, hY⟩ : ∃ Y : Nat → Int, Y = fun (k : Nat) => aft (k : Int) (N : Int) y0 y1 := ⟨_, rfl⟩
  have HXe : Hid (∀ k : Nat, X k = if N = 0 then x0 else x0 + (2 * (k : Int) * d1 + d1) / (2 * d1)) := fun k => by
    rw [hX]
    unfold aft
    dsimp only
    by_cases h : N = 0
    · rw [if_pos (by omega), if_pos h]
    · rw [if_neg (by omega), if_neg h, ← hd1, unhide HL]
  have HYe : Hid (∀ k : Nat, Y k = if N = 0 then y0 else y0 + (2 * (k : Int) * d3 + d1) / (2 * d1)) := fun k => by
    rw [hY]
    unfold aft
    dsimp only
    by_cases h : N = 0
    · rw [if_pos (by omega), if_pos h]
    · rw [if_neg (by omega), if_neg h, ← hd3, unhide HL]
  rw [← hX, ← hY]
  obtain ⟨M, hM⟩ : ∃ M, M = W * H := ⟨_, rfl⟩
  have hnM : n = M := by rw [hn, hM]
  rw [← hM]
  subst hnM
  have hD1 : -20000 ≤ d1 ∧ d1 ≤ 20000 := by omega
  have hD3 : -20000 ≤ d3 ∧ d3 ≤ 20000 := by omega
  unfold Px.val
  clear hP hn hN hX hY hM hd1 hd3 he1 he3 hsx hsy hbg hn0 hn1
  have HA := hide (al3 w (.cells #[.int .i64 (W : Int), .int .i64 (H : Int), .slice a n c] 26) (.cells #[.int .u8 (q.r.toNat : Int), .int .u8 (q.g.toNat : Int), .int .u8 (q.b.toNat : Int), .int .u8 (q.a.toNat : Int)] 23) (.cells #[.int .i64 0, .int .i64 0, .slice none 0 0] 26))
  obtain ⟨B, hB⟩ : ∃ B, B = w.heap.size := ⟨_, rfl⟩
  go_enter Tryd.func39, Tryd.ntmps39
  go_wp2_with fail
  generalize (((w.alloc (.cells #[.int .i64 (W : Int), .int .i64 (H : Int), .slice a n c] 26)).alloc (.cells #[.int .u8 (q.r.toNat : Int), .int .u8 (q.g.toNat : Int), .int .u8 (q.b.toNat : Int), .int .u8 (q.a.toNat : Int)] 23)).alloc (.cells #[.int .i64 0, .int .i64 0, .slice none 0 0] 26)) = w1 at *
  rw [← hB] at HA ⊢
  obtain ⟨hs1, kp, kq, kz, hb1⟩ := unhide HA
  have HBE := hide hB
  clear HA hB
  have hs : B + 3 ≤ w1.heap.size := by omega
  have HB := hide hb1
  clear hs1 hb1
  refine (unhide HO _ (unhide HPW _ (by rw [← unhide HBE]; exact unhide HB))).mono ?_
  rintro e w2 ⟨g, cg, rfl, hg, hpr, hbN⟩
  have hgl : B + 3 ≤ g := by omega
  have hsz := hbN.size
  have kp := blk_below kp hbN (blk_lt kp)
  have kq := blk_below kq hbN (blk_lt kq)
  have kz := blk_below kz hbN (blk_lt kz)
  have HB := hide ((unhide HB).trans (hbN.mono (by omega)))
  have hs : B + 3 ≤ w2.heap.size := by omega
  clear hbN hsz
  have hgs : g < w2.heap.size := hpr.lt
  have hlp : B < w2.heap.size := blk_lt kp
  have cp0 : w2.cell? ⟨B, 0, none⟩ = some (.int .i64 (W : Int)) := blk_cell kp 0
  have cp1 : w2.cell? ⟨B, 1, none⟩ = some (.int .i64 (H : Int)) := blk_cell kp 1
  have cp2 : w2.cell? ⟨B, 2, none⟩ = some (.slice a n c) := blk_cell kp 2
  have hlq : B + 1 < w2.heap.size := blk_lt kq
  have cq0 : w2.cell? ⟨B + 1, 0, none⟩ = some (.int .u8 (q.r.toNat : Int)) := blk_cell kq 0
  have cq1 : w2.cell? ⟨B + 1, 1, none⟩ = some (.int .u8 (q.g.toNat : Int)) := blk_cell kq 1
  have cq2 : w2.cell? ⟨B + 1, 2, none⟩ = some (.int .u8 (q.b.toNat : Int)) := blk_cell kq 2
  have cq3 : w2.cell? ⟨B + 1, 3, none⟩ = some (.int .u8 (q.a.toNat : Int)) := blk_cell kq 3
  have hlz : B + 2 < w2.heap.size := blk_lt kz
  have cz0 : w2.cell? ⟨B + 2, 0, none⟩ = some (.int .i64 0) := blk_cell kz 0
  have cz1 : w2.cell? ⟨B + 2, 1, none⟩ = some (.int .i64 0) := blk_cell kz 1
  have cz2 : w2.cell? ⟨B + 2, 2, none⟩ = some (.slice none 0 0) := blk_cell kz 2
  have HA := hide (al1 w2 (.cells #[.int .i64 (W : Int), .int .i64 (H : Int), .slice (some ⟨g, 0, none⟩) n cg] 26))
  obtain ⟨bO, heqO⟩ : ∃ b, b = w2.heap.size := ⟨_, rfl⟩
  go_wp2
  clear cp0 cp1 cp2 cq0 cq1 cq2 cq3 cz0 cz1 cz2 hlp hlq hlz
  have hgO : g < bO := by rw [heqO]; exact hgs
  generalize w2.alloc (.cells #[.int .i64 (W : Int), .int .i64 (H : Int), .slice (some ⟨g, 0, none⟩) n cg] 26) = w3 at *
  rw [← heqO] at HA ⊢
  obtain ⟨hsA, kO, hbA⟩ := unhide HA
  have hblkO := fun j (h : j < bO) => hbA.block j h
  rw [heqO] at hbA
  have ltOp : B < bO := by rw [heqO]; exact blk_lt kp
  have ltOq : B + 1 < bO := by rw [heqO]; exact blk_lt kq
  have ltOz : B + 2 < bO := by rw [heqO]; exact blk_lt kz
  have hgB : B ≤ bO := by rw [heqO]; omega
  clear HA
  have hsz := hbA.size
  have kp := blk_below kp hbA (blk_lt kp)
  have kq := blk_below kq hbA (blk_lt kq)
  have kz := blk_below kz hbA (blk_lt kz)
  have HB := hide ((unhide HB).trans (hbA.mono (by omega)))
  have hs : B + 3 ≤ w3.heap.size := by omega
  clear hbA hsz
  clear heqO hsA
  have HPR := hide (hpr.block (hblkO g hgO))
  clear hpr hgs hg hblkO
  have hgB : B ≤ g := by omega
  have Kp := hide kp
  have Kq := hide kq
  have Kz := hide kz
  have KO := hide kO
  clear kp kq kz kO hs q1 q2 q3
  go_loopw [16] (fun kv wr => ∃ k : Nat, k ≤ N + 1 ∧ kv = .int .i64 (k : Int) ∧ Hid (PR wr g n (lnP W H X Y q p k)) ∧ Hid (Below B w wr) ∧ Hid (wr.heap[B]? = some (.cells #[.int .i64 (W : Int), .int .i64 (H : Int), .slice a n c] 26)) ∧ Hid (wr.heap[B + 1]? = some (.cells #[.int .u8 (q.r.toNat : Int), .int .u8 (q.g.toNat : Int), .int .u8 (q.b.toNat : Int), .int .u8 (q.a.toNat : Int)] 23)) ∧ Hid (wr.heap[B + 2]? = some (.cells #[.int .i64 0, .int .i64 0, .slice none 0 0] 26)) ∧ Hid (wr.heap[bO]? = some (.cells #[.int .i64 (W : Int), .int .i64 (H : Int), .slice (some ⟨g, 0, none⟩) n cg] 26))) (fun kv _ => N + 1 - (intOf kv).toNat)
  case atStart => exact ⟨0, by omega, rfl, by show PR _ _ _ _; rw [lnP_zero]; exact unhide HPR, HB, Kp, Kq, Kz, KO⟩
  case round =>
    clear HPR HB Kp Kq Kz KO
    obtain ⟨k, hk, rfl, HPR, HB, Kp, Kq, Kz, KO⟩ := hrel
    have hLN := unhide HL
    by_cases hlt : k < N + 1
    · have c1 : decide ((k : Int) ≤ d1) = true := decide_eq_true (by omega)
      by_cases hN0 : N = 0
      · have cz : decide (d1 > 0) = false := decide_eq_false (by omega)
        have hXk : X k = x0 := by rw [unhide HXe, if_pos hN0]
        have hYk : Y k = y0 := by rw [unhide HYe, if_pos hN0]
        obtain ⟨xv, hxv⟩ : ∃ x, x = x0 := ⟨_, rfl⟩
        obtain ⟨yv, hyv⟩ : ∃ x, x = y0 := ⟨_, rfl⟩
        rw [← hxv] at hXk
        rw [← hyv] at hYk
        have hxv2 : x0 = xv := hxv.symm
        have hyv2 : y0 = yv := hyv.symm
        have HXK := hide hXk
        have HYK := hide hYk
        clear hXk hYk hLN
        by_cases hin : 0 ≤ xv ∧ 0 ≤ yv ∧ xv < (W : Int) ∧ yv < (H : Int)
        · have HIN := hide (fun w => inP_any W H xv yv a n c w)
          rw [decide_eq_true hin] at HIN
          rw [hxv, hyv] at HIN
          obtain ⟨xn, hxn⟩ := Int.eq_ofNat_of_zero_le hin.1
          obtain ⟨yn, hyn⟩ := Int.eq_ofNat_of_zero_le hin.2.1
          have hxl : xn < W := by omega
          have hyl : yn < H := by omega
          have HLS : Hid (lnP W H X Y q p (k + 1) = updP (lnP W H X Y q p k) (yn * W + xn) q) := lnP_in W H X Y q p k xn yn ((unhide HXK).trans hxn) ((unhide HYK).trans hyn) hxl hyl
          have hiN : yn * W + xn < n := by rw [unhide HNW]; exact place_lt hxl hyl
          obtain ⟨t, ht⟩ : ∃ t, t = yn * W := ⟨_, rfl⟩
          have htb : t ≤ 65536 := by rw [ht]; exact Nat.mul_le_mul (show yn ≤ 256 by omega) hW
          have zt : y0 * (W : Int) = (t : Int) := by rw [hyv2, hyn, ht]; simp
          obtain ⟨i, hi⟩ : ∃ i, i = t + xn := ⟨_, rfl⟩
          have e0 : (t : Int) + x0 = (i : Int) := by rw [hxv2, hxn, hi]; simp
          rw [← ht, ← hi] at HLS hiN
          have wrt : IntKind.i64.wrap (t : Int) = (t : Int) := by rw [IntKind.wrap_i64]; omega
          have wri : IntKind.i64.wrap (i : Int) = (i : Int) := by rw [IntKind.wrap_i64]; omega
          have hiI : (i : Int) < (n : Int) := by omega
          clear hxn hyn ht hi hin hxv hyv hxv2 hyv2
          have kp := unhide Kp
          have kq := unhide Kq
          have kz := unhide Kz
          have kO := unhide KO
          have hs : B + 3 ≤ wr.heap.size := by have := blk_lt kz; omega
          have hlp : B < wr.heap.size := blk_lt kp
          have cp0 : wr.cell? ⟨B, 0, none⟩ = some (.int .i64 (W : Int)) := blk_cell kp 0
          have cp1 : wr.cell? ⟨B, 1, none⟩ = some (.int .i64 (H : Int)) := blk_cell kp 1
          have cp2 : wr.cell? ⟨B, 2, none⟩ = some (.slice a n c) := blk_cell kp 2
          have hlq : B + 1 < wr.heap.size := blk_lt kq
          have cq0 : wr.cell? ⟨B + 1, 0, none⟩ = some (.int .u8 (q.r.toNat : Int)) := blk_cell kq 0
          have cq1 : wr.cell? ⟨B + 1, 1, none⟩ = some (.int .u8 (q.g.toNat : Int)) := blk_cell kq 1
          have cq2 : wr.cell? ⟨B + 1, 2, none⟩ = some (.int .u8 (q.b.toNat : Int)) := blk_cell kq 2
          have cq3 : wr.cell? ⟨B + 1, 3, none⟩ = some (.int .u8 (q.a.toNat : Int)) := blk_cell kq 3
          have hlz : B + 2 < wr.heap.size := blk_lt kz
          have cz0 : wr.cell? ⟨B + 2, 0, none⟩ = some (.int .i64 0) := blk_cell kz 0
          have cz1 : wr.cell? ⟨B + 2, 1, none⟩ = some (.int .i64 0) := blk_cell kz 1
          have cz2 : wr.cell? ⟨B + 2, 2, none⟩ = some (.slice none 0 0) := blk_cell kz 2
          have hlO : bO < wr.heap.size := blk_lt kO
          have cO0 : wr.cell? ⟨bO, 0, none⟩ = some (.int .i64 (W : Int)) := blk_cell kO 0
          have cO1 : wr.cell? ⟨bO, 1, none⟩ = some (.int .i64 (H : Int)) := blk_cell kO 1
          have cO2 : wr.cell? ⟨bO, 2, none⟩ = some (.slice (some ⟨g, 0, none⟩) n cg) := blk_cell kO 2
          go_wp2_with fail
          clear cp0 cp1 cp2 cq0 cq1 cq2 cq3 cz0 cz1 cz2 cO0 cO1 cO2 hlp hlq hlz hlO
          refine (unhide HIN _).mono ?_
          rintro e w4 ⟨rfl, hbN⟩
          have HPR := hide ((unhide HPR).below hbN (unhide HPR).lt)
          have hsz := hbN.size
          have kp := blk_below kp hbN (blk_lt kp)
          have kq := blk_below kq hbN (blk_lt kq)
          have kz := blk_below kz hbN (blk_lt kz)
          have kO := blk_below kO hbN (blk_lt kO)
          have HB := hide ((unhide HB).trans (hbN.mono (by omega)))
          have hs : B + 3 ≤ w4.heap.size := by omega
          clear hbN hsz
          have hlp : B < w4.heap.size := blk_lt kp
          have cp0 : w4.cell? ⟨B, 0, none⟩ = some (.int .i64 (W : Int)) := blk_cell kp 0
          have cp1 : w4.cell? ⟨B, 1, none⟩ = some (.int .i64 (H : Int)) := blk_cell kp 1
          have cp2 : w4.cell? ⟨B, 2, none⟩ = some (.slice a n c) := blk_cell kp 2
          have hlq : B + 1 < w4.heap.size := blk_lt kq
          have cq0 : w4.cell? ⟨B + 1, 0, none⟩ = some (.int .u8 (q.r.toNat : Int)) := blk_cell kq 0
          have cq1 : w4.cell? ⟨B + 1, 1, none⟩ = some (.int .u8 (q.g.toNat : Int)) := blk_cell kq 1
          have cq2 : w4.cell? ⟨B + 1, 2, none⟩ = some (.int .u8 (q.b.toNat : Int)) := blk_cell kq 2
          have cq3 : w4.cell? ⟨B + 1, 3, none⟩ = some (.int .u8 (q.a.toNat : Int)) := blk_cell kq 3
          have hlz : B + 2 < w4.heap.size := blk_lt kz
          have cz0 : w4.cell? ⟨B + 2, 0, none⟩ = some (.int .i64 0) := blk_cell kz 0
          have cz1 : w4.cell? ⟨B + 2, 1, none⟩ = some (.int .i64 0) := blk_cell kz 1
          have cz2 : w4.cell? ⟨B + 2, 2, none⟩ = some (.slice none 0 0) := blk_cell kz 2
          have hlO : bO < w4.heap.size := blk_lt kO
          have cO0 : w4.cell? ⟨bO, 0, none⟩ = some (.int .i64 (W : Int)) := blk_cell kO 0
          have cO1 : w4.cell? ⟨bO, 1, none⟩ = some (.int .i64 (H : Int)) := blk_cell kO 1
          have cO2 : w4.cell? ⟨bO, 2, none⟩ = some (.slice (some ⟨g, 0, none⟩) n cg) := blk_cell kO 2
          obtain ⟨t0, t1, t2, t3⟩ := (unhide HPR).px i hiN
          have f0 := (unhide HPR).fr (i * 4)
          have f1 := (unhide HPR).fr (i * 4 + 1)
          have f2 := (unhide HPR).fr (i * 4 + 2)
          have f3 := (unhide HPR).fr (i * 4 + 3)
          go_wp2
          go_roundw
          case rel => exact ⟨k + 1, by omega, by go_num, (by show PR _ _ _ _; rw [unhide HLS]; exact (unhide HPR).put hiN q), put4_below (unhide HB) hgB _, (put4_far _ _ _ _ _ (by omega)).trans kp, (put4_far _ _ _ _ _ (by omega)).trans kq, (put4_far _ _ _ _ _ (by omega)).trans kz, (put4_far _ _ _ _ _ (by omega)).trans kO⟩
          case measure => simp [intOf]; omega
        · have HIN := hide (fun w => inP_any W H xv yv a n c w)
          rw [decide_eq_false hin] at HIN
          rw [hxv, hyv] at HIN
          have HLS : Hid (lnP W H X Y q p (k + 1) = lnP W H X Y q p k) := lnP_out W H X Y q p k (by rw [unhide HXK, unhide HYK]; exact hin)
          clear hin hxv hyv hxv2 hyv2
          have kp := unhide Kp
          have kq := unhide Kq
          have kz := unhide Kz
          have kO := unhide KO
          have hs : B + 3 ≤ wr.heap.size := by have := blk_lt kz; omega
          have hlp : B < wr.heap.size := blk_lt kp
          have cp0 : wr.cell? ⟨B, 0, none⟩ = some (.int .i64 (W : Int)) := blk_cell kp 0
          have cp1 : wr.cell? ⟨B, 1, none⟩ = some (.int .i64 (H : Int)) := blk_cell kp 1
          have cp2 : wr.cell? ⟨B, 2, none⟩ = some (.slice a n c) := blk_cell kp 2
          have hlq : B + 1 < wr.heap.size := blk_lt kq
          have cq0 : wr.cell? ⟨B + 1, 0, none⟩ = some (.int .u8 (q.r.toNat : Int)) := blk_cell kq 0
          have cq1 : wr.cell? ⟨B + 1, 1, none⟩ = some (.int .u8 (q.g.toNat : Int)) := blk_cell kq 1
          have cq2 : wr.cell? ⟨B + 1, 2, none⟩ = some (.int .u8 (q.b.toNat : Int)) := blk_cell kq 2
          have cq3 : wr.cell? ⟨B + 1, 3, none⟩ = some (.int .u8 (q.a.toNat : Int)) := blk_cell kq 3
          have hlz : B + 2 < wr.heap.size := blk_lt kz
          have cz0 : wr.cell? ⟨B + 2, 0, none⟩ = some (.int .i64 0) := blk_cell kz 0
          have cz1 : wr.cell? ⟨B + 2, 1, none⟩ = some (.int .i64 0) := blk_cell kz 1
          have cz2 : wr.cell? ⟨B + 2, 2, none⟩ = some (.slice none 0 0) := blk_cell kz 2
          have hlO : bO < wr.heap.size := blk_lt kO
          have cO0 : wr.cell? ⟨bO, 0, none⟩ = some (.int .i64 (W : Int)) := blk_cell kO 0
          have cO1 : wr.cell? ⟨bO, 1, none⟩ = some (.int .i64 (H : Int)) := blk_cell kO 1
          have cO2 : wr.cell? ⟨bO, 2, none⟩ = some (.slice (some ⟨g, 0, none⟩) n cg) := blk_cell kO 2
          go_wp2_with fail
          clear cp0 cp1 cp2 cq0 cq1 cq2 cq3 cz0 cz1 cz2 cO0 cO1 cO2 hlp hlq hlz hlO
          refine (unhide HIN _).mono ?_
          rintro e w9 ⟨rfl, hbN⟩
          have HPR := hide ((unhide HPR).below hbN (unhide HPR).lt)
          have hsz := hbN.size
          have kp := blk_below kp hbN (blk_lt kp)
          have kq := blk_below kq hbN (blk_lt kq)
          have kz := blk_below kz hbN (blk_lt kz)
          have kO := blk_below kO hbN (blk_lt kO)
          have HB := hide ((unhide HB).trans (hbN.mono (by omega)))
          have hs : B + 3 ≤ w9.heap.size := by omega
          clear hbN hsz
          go_wp2
          go_roundw
          case rel => exact ⟨k + 1, by omega, by go_num, (by show PR _ _ _ _; rw [unhide HLS]; exact unhide HPR), HB, kp, kq, kz, kO⟩
          case measure => simp [intOf]; omega
      · have cz : decide (d1 > 0) = true := decide_eq_true (by omega)
        obtain ⟨k2, hk2⟩ : ∃ x, x = 2 * (k : Int) := ⟨_, rfl⟩
        obtain ⟨n2, hn2⟩ : ∃ x, x = 2 * d1 := ⟨_, rfl⟩
        have y1 : 2 * (k : Int) = k2 := hk2.symm
        have y2 : 2 * d1 = n2 := hn2.symm
        obtain ⟨mx, hmx⟩ : ∃ x, x = k2 * d1 := ⟨_, rfl⟩
        obtain ⟨sx, hsx⟩ : ∃ x, x = mx + d1 := ⟨_, rfl⟩
        have ux : k2 * d1 = mx := hmx.symm
        have vx : mx + d1 = sx := hsx.symm
        have hmxb : -800000000 ≤ mx ∧ mx ≤ 800000000 := by
          have h := mul_in (A := 40000) (B := 20000) (show -40000 ≤ k2 ∧ k2 ≤ 40000 by omega) hD1 (by omega)
          rw [← hmx] at h
          omega
        obtain ⟨qx, hqx⟩ : ∃ x, x = sx / n2 := ⟨_, rfl⟩
        have HDx := hide (fun w => downPart_any sx n2 w (by omega) (by omega) (by omega))
        rw [← hqx] at HDx
        have hqxb : -900000000 ≤ qx ∧ qx ≤ 900000000 := by rw [hqx]; exact quo_in sx n2 (by omega) (by omega)
        have wx1 : IntKind.i64.wrap mx = mx := by rw [IntKind.wrap_i64]; omega
        have wx2 : IntKind.i64.wrap sx = sx := by rw [IntKind.wrap_i64]; omega
        have wx3 : IntKind.i64.wrap (x0 + qx) = x0 + qx := by rw [IntKind.wrap_i64]; omega
        obtain ⟨my, hmy⟩ : ∃ x, x = k2 * d3 := ⟨_, rfl⟩
        obtain ⟨sy, hsy⟩ : ∃ x, x = my + d1 := ⟨_, rfl⟩
        have uy : k2 * d3 = my := hmy.symm
        have vy : my + d1 = sy := hsy.symm
        have hmyb : -800000000 ≤ my ∧ my ≤ 800000000 := by
          have h := mul_in (A := 40000) (B := 20000) (show -40000 ≤ k2 ∧ k2 ≤ 40000 by omega) hD3 (by omega)
          rw [← hmy] at h
          omega
        obtain ⟨qy, hqy⟩ : ∃ x, x = sy / n2 := ⟨_, rfl⟩
        have HDy := hide (fun w => downPart_any sy n2 w (by omega) (by omega) (by omega))
        rw [← hqy] at HDy
        have hqyb : -900000000 ≤ qy ∧ qy ≤ 900000000 := by rw [hqy]; exact quo_in sy n2 (by omega) (by omega)
        have wy1 : IntKind.i64.wrap my = my := by rw [IntKind.wrap_i64]; omega
        have wy2 : IntKind.i64.wrap sy = sy := by rw [IntKind.wrap_i64]; omega
        have wy3 : IntKind.i64.wrap (y0 + qy) = y0 + qy := by rw [IntKind.wrap_i64]; omega
        have wk2 : IntKind.i64.wrap k2 = k2 := by rw [IntKind.wrap_i64]; omega
        have wn2 : IntKind.i64.wrap n2 = n2 := by rw [IntKind.wrap_i64]; omega
        have hXk : X k = x0 + qx := by rw [unhide HXe, if_neg hN0, hqx, hsx, hmx, hk2, hn2]
        have hYk : Y k = y0 + qy := by rw [unhide HYe, if_neg hN0, hqy, hsy, hmy, hk2, hn2]
        clear hqx hqy hsx hsy hmx hmy hk2 hn2 hmxb hmyb hqxb hqyb
        obtain ⟨xv, hxv⟩ : ∃ x, x = x0 + qx := ⟨_, rfl⟩
        obtain ⟨yv, hyv⟩ : ∃ x, x = y0 + qy := ⟨_, rfl⟩
        rw [← hxv] at hXk
        rw [← hyv] at hYk
        have zxv : x0 + qx = xv := hxv.symm
        have zyv : y0 + qy = yv := hyv.symm
        have wxv : IntKind.i64.wrap xv = xv := by rw [hxv]; exact wx3
        have wyv : IntKind.i64.wrap yv = yv := by rw [hyv]; exact wy3
        clear wx3 wy3
        have HXK := hide hXk
        have HYK := hide hYk
        clear hXk hYk hLN
        clear hxv hyv
        by_cases hin : 0 ≤ xv ∧ 0 ≤ yv ∧ xv < (W : Int) ∧ yv < (H : Int)
        · have HIN := hide (fun w => inP_any W H xv yv a n c w)
          rw [decide_eq_true hin] at HIN
          obtain ⟨xn, hxn⟩ := Int.eq_ofNat_of_zero_le hin.1
          obtain ⟨yn, hyn⟩ := Int.eq_ofNat_of_zero_le hin.2.1
          have hxl : xn < W := by omega
          have hyl : yn < H := by omega
          have HLS : Hid (lnP W H X Y q p (k + 1) = updP (lnP W H X Y q p k) (yn * W + xn) q) := lnP_in W H X Y q p k xn yn ((unhide HXK).trans hxn) ((unhide HYK).trans hyn) hxl hyl
          have hiN : yn * W + xn < n := by rw [unhide HNW]; exact place_lt hxl hyl
          obtain ⟨t, ht⟩ : ∃ t, t = yn * W := ⟨_, rfl⟩
          have htb : t ≤ 65536 := by rw [ht]; exact Nat.mul_le_mul (show yn ≤ 256 by omega) hW
          have zt : yv * (W : Int) = (t : Int) := by rw [hyn, ht]; simp
          obtain ⟨i, hi⟩ : ∃ i, i = t + xn := ⟨_, rfl⟩
          have e0 : (t : Int) + xv = (i : Int) := by rw [hxn, hi]; simp
          rw [← ht, ← hi] at HLS hiN
          have wrt : IntKind.i64.wrap (t : Int) = (t : Int) := by rw [IntKind.wrap_i64]; omega
          have wri : IntKind.i64.wrap (i : Int) = (i : Int) := by rw [IntKind.wrap_i64]; omega
          have hiI : (i : Int) < (n : Int) := by omega
          clear hxn hyn ht hi hin
          have kp := unhide Kp
          have kq := unhide Kq
          have kz := unhide Kz
          have kO := unhide KO
          have hs : B + 3 ≤ wr.heap.size := by have := blk_lt kz; omega
          have hlp : B < wr.heap.size := blk_lt kp
          have cp0 : wr.cell? ⟨B, 0, none⟩ = some (.int .i64 (W : Int)) := blk_cell kp 0
          have cp1 : wr.cell? ⟨B, 1, none⟩ = some (.int .i64 (H : Int)) := blk_cell kp 1
          have cp2 : wr.cell? ⟨B, 2, none⟩ = some (.slice a n c) := blk_cell kp 2
          have hlq : B + 1 < wr.heap.size := blk_lt kq
          have cq0 : wr.cell? ⟨B + 1, 0, none⟩ = some (.int .u8 (q.r.toNat : Int)) := blk_cell kq 0
          have cq1 : wr.cell? ⟨B + 1, 1, none⟩ = some (.int .u8 (q.g.toNat : Int)) := blk_cell kq 1
          have cq2 : wr.cell? ⟨B + 1, 2, none⟩ = some (.int .u8 (q.b.toNat : Int)) := blk_cell kq 2
          have cq3 : wr.cell? ⟨B + 1, 3, none⟩ = some (.int .u8 (q.a.toNat : Int)) := blk_cell kq 3
          have hlz : B + 2 < wr.heap.size := blk_lt kz
          have cz0 : wr.cell? ⟨B + 2, 0, none⟩ = some (.int .i64 0) := blk_cell kz 0
          have cz1 : wr.cell? ⟨B + 2, 1, none⟩ = some (.int .i64 0) := blk_cell kz 1
          have cz2 : wr.cell? ⟨B + 2, 2, none⟩ = some (.slice none 0 0) := blk_cell kz 2
          have hlO : bO < wr.heap.size := blk_lt kO
          have cO0 : wr.cell? ⟨bO, 0, none⟩ = some (.int .i64 (W : Int)) := blk_cell kO 0
          have cO1 : wr.cell? ⟨bO, 1, none⟩ = some (.int .i64 (H : Int)) := blk_cell kO 1
          have cO2 : wr.cell? ⟨bO, 2, none⟩ = some (.slice (some ⟨g, 0, none⟩) n cg) := blk_cell kO 2
          go_wp2_with fail
          clear cp0 cp1 cp2 cq0 cq1 cq2 cq3 cz0 cz1 cz2 cO0 cO1 cO2 hlp hlq hlz hlO
          refine (unhide HDx _).mono ?_
          rintro e wr ⟨rfl, rfl⟩
          have hlp : B < wr.heap.size := blk_lt kp
          have cp0 : wr.cell? ⟨B, 0, none⟩ = some (.int .i64 (W : Int)) := blk_cell kp 0
          have cp1 : wr.cell? ⟨B, 1, none⟩ = some (.int .i64 (H : Int)) := blk_cell kp 1
          have cp2 : wr.cell? ⟨B, 2, none⟩ = some (.slice a n c) := blk_cell kp 2
          have hlq : B + 1 < wr.heap.size := blk_lt kq
          have cq0 : wr.cell? ⟨B + 1, 0, none⟩ = some (.int .u8 (q.r.toNat : Int)) := blk_cell kq 0
          have cq1 : wr.cell? ⟨B + 1, 1, none⟩ = some (.int .u8 (q.g.toNat : Int)) := blk_cell kq 1
          have cq2 : wr.cell? ⟨B + 1, 2, none⟩ = some (.int .u8 (q.b.toNat : Int)) := blk_cell kq 2
          have cq3 : wr.cell? ⟨B + 1, 3, none⟩ = some (.int .u8 (q.a.toNat : Int)) := blk_cell kq 3
          have hlz : B + 2 < wr.heap.size := blk_lt kz
          have cz0 : wr.cell? ⟨B + 2, 0, none⟩ = some (.int .i64 0) := blk_cell kz 0
          have cz1 : wr.cell? ⟨B + 2, 1, none⟩ = some (.int .i64 0) := blk_cell kz 1
          have cz2 : wr.cell? ⟨B + 2, 2, none⟩ = some (.slice none 0 0) := blk_cell kz 2
          have hlO : bO < wr.heap.size := blk_lt kO
          have cO0 : wr.cell? ⟨bO, 0, none⟩ = some (.int .i64 (W : Int)) := blk_cell kO 0
          have cO1 : wr.cell? ⟨bO, 1, none⟩ = some (.int .i64 (H : Int)) := blk_cell kO 1
          have cO2 : wr.cell? ⟨bO, 2, none⟩ = some (.slice (some ⟨g, 0, none⟩) n cg) := blk_cell kO 2
          go_wp2_with fail
          clear cp0 cp1 cp2 cq0 cq1 cq2 cq3 cz0 cz1 cz2 cO0 cO1 cO2 hlp hlq hlz hlO
          refine (unhide HDy _).mono ?_
          rintro e wr ⟨rfl, rfl⟩
          have hlp : B < wr.heap.size := blk_lt kp
          have cp0 : wr.cell? ⟨B, 0, none⟩ = some (.int .i64 (W : Int)) := blk_cell kp 0
          have cp1 : wr.cell? ⟨B, 1, none⟩ = some (.int .i64 (H : Int)) := blk_cell kp 1
          have cp2 : wr.cell? ⟨B, 2, none⟩ = some (.slice a n c) := blk_cell kp 2
          have hlq : B + 1 < wr.heap.size := blk_lt kq
          have cq0 : wr.cell? ⟨B + 1, 0, none⟩ = some (.int .u8 (q.r.toNat : Int)) := blk_cell kq 0
          have cq1 : wr.cell? ⟨B + 1, 1, none⟩ = some (.int .u8 (q.g.toNat : Int)) := blk_cell kq 1
          have cq2 : wr.cell? ⟨B + 1, 2, none⟩ = some (.int .u8 (q.b.toNat : Int)) := blk_cell kq 2
          have cq3 : wr.cell? ⟨B + 1, 3, none⟩ = some (.int .u8 (q.a.toNat : Int)) := blk_cell kq 3
          have hlz : B + 2 < wr.heap.size := blk_lt kz
          have cz0 : wr.cell? ⟨B + 2, 0, none⟩ = some (.int .i64 0) := blk_cell kz 0
          have cz1 : wr.cell? ⟨B + 2, 1, none⟩ = some (.int .i64 0) := blk_cell kz 1
          have cz2 : wr.cell? ⟨B + 2, 2, none⟩ = some (.slice none 0 0) := blk_cell kz 2
          have hlO : bO < wr.heap.size := blk_lt kO
          have cO0 : wr.cell? ⟨bO, 0, none⟩ = some (.int .i64 (W : Int)) := blk_cell kO 0
          have cO1 : wr.cell? ⟨bO, 1, none⟩ = some (.int .i64 (H : Int)) := blk_cell kO 1
          have cO2 : wr.cell? ⟨bO, 2, none⟩ = some (.slice (some ⟨g, 0, none⟩) n cg) := blk_cell kO 2
          go_wp2_with fail
          clear cp0 cp1 cp2 cq0 cq1 cq2 cq3 cz0 cz1 cz2 cO0 cO1 cO2 hlp hlq hlz hlO
          refine (unhide HIN _).mono ?_
          rintro e w14 ⟨rfl, hbN⟩
          have HPR := hide ((unhide HPR).below hbN (unhide HPR).lt)
          have hsz := hbN.size
          have kp := blk_below kp hbN (blk_lt kp)
          have kq := blk_below kq hbN (blk_lt kq)
          have kz := blk_below kz hbN (blk_lt kz)
          have kO := blk_below kO hbN (blk_lt kO)
          have HB := hide ((unhide HB).trans (hbN.mono (by omega)))
          have hs : B + 3 ≤ w14.heap.size := by omega
          clear hbN hsz
          have hlp : B < w14.heap.size := blk_lt kp
          have cp0 : w14.cell? ⟨B, 0, none⟩ = some (.int .i64 (W : Int)) := blk_cell kp 0
          have cp1 : w14.cell? ⟨B, 1, none⟩ = some (.int .i64 (H : Int)) := blk_cell kp 1
          have cp2 : w14.cell? ⟨B, 2, none⟩ = some (.slice a n c) := blk_cell kp 2
          have hlq : B + 1 < w14.heap.size := blk_lt kq
          have cq0 : w14.cell? ⟨B + 1, 0, none⟩ = some (.int .u8 (q.r.toNat : Int)) := blk_cell kq 0
          have cq1 : w14.cell? ⟨B + 1, 1, none⟩ = some (.int .u8 (q.g.toNat : Int)) := blk_cell kq 1
          have cq2 : w14.cell? ⟨B + 1, 2, none⟩ = some (.int .u8 (q.b.toNat : Int)) := blk_cell kq 2
          have cq3 : w14.cell? ⟨B + 1, 3, none⟩ = some (.int .u8 (q.a.toNat : Int)) := blk_cell kq 3
          have hlz : B + 2 < w14.heap.size := blk_lt kz
          have cz0 : w14.cell? ⟨B + 2, 0, none⟩ = some (.int .i64 0) := blk_cell kz 0
          have cz1 : w14.cell? ⟨B + 2, 1, none⟩ = some (.int .i64 0) := blk_cell kz 1
          have cz2 : w14.cell? ⟨B + 2, 2, none⟩ = some (.slice none 0 0) := blk_cell kz 2
          have hlO : bO < w14.heap.size := blk_lt kO
          have cO0 : w14.cell? ⟨bO, 0, none⟩ = some (.int .i64 (W : Int)) := blk_cell kO 0
          have cO1 : w14.cell? ⟨bO, 1, none⟩ = some (.int .i64 (H : Int)) := blk_cell kO 1
          have cO2 : w14.cell? ⟨bO, 2, none⟩ = some (.slice (some ⟨g, 0, none⟩) n cg) := blk_cell kO 2
          obtain ⟨t0, t1, t2, t3⟩ := (unhide HPR).px i hiN
          have f0 := (unhide HPR).fr (i * 4)
          have f1 := (unhide HPR).fr (i * 4 + 1)
          have f2 := (unhide HPR).fr (i * 4 + 2)
          have f3 := (unhide HPR).fr (i * 4 + 3)
          go_wp2
          go_roundw
          case rel => exact ⟨k + 1, by omega, by go_num, (by show PR _ _ _ _; rw [unhide HLS]; exact (unhide HPR).put hiN q), put4_below (unhide HB) hgB _, (put4_far _ _ _ _ _ (by omega)).trans kp, (put4_far _ _ _ _ _ (by omega)).trans kq, (put4_far _ _ _ _ _ (by omega)).trans kz, (put4_far _ _ _ _ _ (by omega)).trans kO⟩
          case measure => simp [intOf]; omega
        · have HIN := hide (fun w => inP_any W H xv yv a n c w)
          rw [decide_eq_false hin] at HIN
          have HLS : Hid (lnP W H X Y q p (k + 1) = lnP W H X Y q p k) := lnP_out W H X Y q p k (by rw [unhide HXK, unhide HYK]; exact hin)
          clear hin
          have kp := unhide Kp
          have kq := unhide Kq
          have kz := unhide Kz
          have kO := unhide KO
          have hs : B + 3 ≤ wr.heap.size := by have := blk_lt kz; omega
          have hlp : B < wr.heap.size := blk_lt kp
          have cp0 : wr.cell? ⟨B, 0, none⟩ = some (.int .i64 (W : Int)) := blk_cell kp 0
          have cp1 : wr.cell? ⟨B, 1, none⟩ = some (.int .i64 (H : Int)) := blk_cell kp 1
          have cp2 : wr.cell? ⟨B, 2, none⟩ = some (.slice a n c) := blk_cell kp 2
          have hlq : B + 1 < wr.heap.size := blk_lt kq
          have cq0 : wr.cell? ⟨B + 1, 0, none⟩ = some (.int .u8 (q.r.toNat : Int)) := blk_cell kq 0
          have cq1 : wr.cell? ⟨B + 1, 1, none⟩ = some (.int .u8 (q.g.toNat : Int)) := blk_cell kq 1
          have cq2 : wr.cell? ⟨B + 1, 2, none⟩ = some (.int .u8 (q.b.toNat : Int)) := blk_cell kq 2
          have cq3 : wr.cell? ⟨B + 1, 3, none⟩ = some (.int .u8 (q.a.toNat : Int)) := blk_cell kq 3
          have hlz : B + 2 < wr.heap.size := blk_lt kz
          have cz0 : wr.cell? ⟨B + 2, 0, none⟩ = some (.int .i64 0) := blk_cell kz 0
          have cz1 : wr.cell? ⟨B + 2, 1, none⟩ = some (.int .i64 0) := blk_cell kz 1
          have cz2 : wr.cell? ⟨B + 2, 2, none⟩ = some (.slice none 0 0) := blk_cell kz 2
          have hlO : bO < wr.heap.size := blk_lt kO
          have cO0 : wr.cell? ⟨bO, 0, none⟩ = some (.int .i64 (W : Int)) := blk_cell kO 0
          have cO1 : wr.cell? ⟨bO, 1, none⟩ = some (.int .i64 (H : Int)) := blk_cell kO 1
          have cO2 : wr.cell? ⟨bO, 2, none⟩ = some (.slice (some ⟨g, 0, none⟩) n cg) := blk_cell kO 2
          go_wp2_with fail
          clear cp0 cp1 cp2 cq0 cq1 cq2 cq3 cz0 cz1 cz2 cO0 cO1 cO2 hlp hlq hlz hlO
          refine (unhide HDx _).mono ?_
          rintro e wr ⟨rfl, rfl⟩
          have hlp : B < wr.heap.size := blk_lt kp
          have cp0 : wr.cell? ⟨B, 0, none⟩ = some (.int .i64 (W : Int)) := blk_cell kp 0
          have cp1 : wr.cell? ⟨B, 1, none⟩ = some (.int .i64 (H : Int)) := blk_cell kp 1
          have cp2 : wr.cell? ⟨B, 2, none⟩ = some (.slice a n c) := blk_cell kp 2
          have hlq : B + 1 < wr.heap.size := blk_lt kq
          have cq0 : wr.cell? ⟨B + 1, 0, none⟩ = some (.int .u8 (q.r.toNat : Int)) := blk_cell kq 0
          have cq1 : wr.cell? ⟨B + 1, 1, none⟩ = some (.int .u8 (q.g.toNat : Int)) := blk_cell kq 1
          have cq2 : wr.cell? ⟨B + 1, 2, none⟩ = some (.int .u8 (q.b.toNat : Int)) := blk_cell kq 2
          have cq3 : wr.cell? ⟨B + 1, 3, none⟩ = some (.int .u8 (q.a.toNat : Int)) := blk_cell kq 3
          have hlz : B + 2 < wr.heap.size := blk_lt kz
          have cz0 : wr.cell? ⟨B + 2, 0, none⟩ = some (.int .i64 0) := blk_cell kz 0
          have cz1 : wr.cell? ⟨B + 2, 1, none⟩ = some (.int .i64 0) := blk_cell kz 1
          have cz2 : wr.cell? ⟨B + 2, 2, none⟩ = some (.slice none 0 0) := blk_cell kz 2
          have hlO : bO < wr.heap.size := blk_lt kO
          have cO0 : wr.cell? ⟨bO, 0, none⟩ = some (.int .i64 (W : Int)) := blk_cell kO 0
          have cO1 : wr.cell? ⟨bO, 1, none⟩ = some (.int .i64 (H : Int)) := blk_cell kO 1
          have cO2 : wr.cell? ⟨bO, 2, none⟩ = some (.slice (some ⟨g, 0, none⟩) n cg) := blk_cell kO 2
          go_wp2_with fail
          clear cp0 cp1 cp2 cq0 cq1 cq2 cq3 cz0 cz1 cz2 cO0 cO1 cO2 hlp hlq hlz hlO
          refine (unhide HDy _).mono ?_
          rintro e wr ⟨rfl, rfl⟩
          have hlp : B < wr.heap.size := blk_lt kp
          have cp0 : wr.cell? ⟨B, 0, none⟩ = some (.int .i64 (W : Int)) := blk_cell kp 0
          have cp1 : wr.cell? ⟨B, 1, none⟩ = some (.int .i64 (H : Int)) := blk_cell kp 1
          have cp2 : wr.cell? ⟨B, 2, none⟩ = some (.slice a n c) := blk_cell kp 2
          have hlq : B + 1 < wr.heap.size := blk_lt kq
          have cq0 : wr.cell? ⟨B + 1, 0, none⟩ = some (.int .u8 (q.r.toNat : Int)) := blk_cell kq 0
          have cq1 : wr.cell? ⟨B + 1, 1, none⟩ = some (.int .u8 (q.g.toNat : Int)) := blk_cell kq 1
          have cq2 : wr.cell? ⟨B + 1, 2, none⟩ = some (.int .u8 (q.b.toNat : Int)) := blk_cell kq 2
          have cq3 : wr.cell? ⟨B + 1, 3, none⟩ = some (.int .u8 (q.a.toNat : Int)) := blk_cell kq 3
          have hlz : B + 2 < wr.heap.size := blk_lt kz
          have cz0 : wr.cell? ⟨B + 2, 0, none⟩ = some (.int .i64 0) := blk_cell kz 0
          have cz1 : wr.cell? ⟨B + 2, 1, none⟩ = some (.int .i64 0) := blk_cell kz 1
          have cz2 : wr.cell? ⟨B + 2, 2, none⟩ = some (.slice none 0 0) := blk_cell kz 2
          have hlO : bO < wr.heap.size := blk_lt kO
          have cO0 : wr.cell? ⟨bO, 0, none⟩ = some (.int .i64 (W : Int)) := blk_cell kO 0
          have cO1 : wr.cell? ⟨bO, 1, none⟩ = some (.int .i64 (H : Int)) := blk_cell kO 1
          have cO2 : wr.cell? ⟨bO, 2, none⟩ = some (.slice (some ⟨g, 0, none⟩) n cg) := blk_cell kO 2
          go_wp2_with fail
          clear cp0 cp1 cp2 cq0 cq1 cq2 cq3 cz0 cz1 cz2 cO0 cO1 cO2 hlp hlq hlz hlO
          refine (unhide HIN _).mono ?_
          rintro e w19 ⟨rfl, hbN⟩
          have HPR := hide ((unhide HPR).below hbN (unhide HPR).lt)
          have hsz := hbN.size
          have kp := blk_below kp hbN (blk_lt kp)
          have kq := blk_below kq hbN (blk_lt kq)
          have kz := blk_below kz hbN (blk_lt kz)
          have kO := blk_below kO hbN (blk_lt kO)
          have HB := hide ((unhide HB).trans (hbN.mono (by omega)))
          have hs : B + 3 ≤ w19.heap.size := by omega
          clear hbN hsz
          go_wp2
          go_roundw
          case rel => exact ⟨k + 1, by omega, by go_num, (by show PR _ _ _ _; rw [unhide HLS]; exact unhide HPR), HB, kp, kq, kz, kO⟩
          case measure => simp [intOf]; omega
    · have c1 : decide ((k : Int) ≤ d1) = false := decide_eq_false (by omega)
      have hkN : k = N + 1 := by omega
      have HF : Hid (PR wr g n (lnP W H X Y q p (N + 1))) := by show PR _ _ _ _; rw [← hkN]; exact unhide HPR
      clear hkN HPR hLN
      have kp := unhide Kp
      have kq := unhide Kq
      have kz := unhide Kz
      have kO := unhide KO
      have hs : B + 3 ≤ wr.heap.size := by have := blk_lt kz; omega
      have r0 := blk_frozen kz 0
      have r1 := blk_frozen kz 1
      have r2 := blk_frozen kz 2
      have hlp : B < wr.heap.size := blk_lt kp
      have cp0 : wr.cell? ⟨B, 0, none⟩ = some (.int .i64 (W : Int)) := blk_cell kp 0
      have cp1 : wr.cell? ⟨B, 1, none⟩ = some (.int .i64 (H : Int)) := blk_cell kp 1
      have cp2 : wr.cell? ⟨B, 2, none⟩ = some (.slice a n c) := blk_cell kp 2
      have hlq : B + 1 < wr.heap.size := blk_lt kq
      have cq0 : wr.cell? ⟨B + 1, 0, none⟩ = some (.int .u8 (q.r.toNat : Int)) := blk_cell kq 0
      have cq1 : wr.cell? ⟨B + 1, 1, none⟩ = some (.int .u8 (q.g.toNat : Int)) := blk_cell kq 1
      have cq2 : wr.cell? ⟨B + 1, 2, none⟩ = some (.int .u8 (q.b.toNat : Int)) := blk_cell kq 2
      have cq3 : wr.cell? ⟨B + 1, 3, none⟩ = some (.int .u8 (q.a.toNat : Int)) := blk_cell kq 3
      have hlz : B + 2 < wr.heap.size := blk_lt kz
      have cz0 : wr.cell? ⟨B + 2, 0, none⟩ = some (.int .i64 0) := blk_cell kz 0
      have cz1 : wr.cell? ⟨B + 2, 1, none⟩ = some (.int .i64 0) := blk_cell kz 1
      have cz2 : wr.cell? ⟨B + 2, 2, none⟩ = some (.slice none 0 0) := blk_cell kz 2
      have hlO : bO < wr.heap.size := blk_lt kO
      have cO0 : wr.cell? ⟨bO, 0, none⟩ = some (.int .i64 (W : Int)) := blk_cell kO 0
      have cO1 : wr.cell? ⟨bO, 1, none⟩ = some (.int .i64 (H : Int)) := blk_cell kO 1
      have cO2 : wr.cell? ⟨bO, 2, none⟩ = some (.slice (some ⟨g, 0, none⟩) n cg) := blk_cell kO 2
      clear kp kq kz kO
      go_wp2
      refine bodyPost_ret (v := .agg #[.int .i64 (W : Int), .int .i64 (H : Int), .slice (some ⟨g, 0, none⟩) n cg]) ?_ rfl ⟨g, cg, rfl, ?_, ?_⟩
      · rw [results_cellP (p := 12) (ty := 26) (by kernel_rfl)]
        go_simp
      · exact (unhide HF).block (by rw [Below.heap_setCell _ _ _ _ (by show g ≠ B + 2; omega), Below.heap_setCell _ _ _ _ (by show g ≠ B + 2; omega), Below.heap_setCell _ _ _ _ (by show g ≠ B + 2; omega)])
      · rw [← unhide HBE]
        exact ((((unhide HB).setCell (p := ⟨B + 2, 0, none⟩) (by show B ≤ B + 2; omega) _).setCell (p := ⟨B + 2, 1, none⟩) (by show B ≤ B + 2; omega) _).setCell (p := ⟨B + 2, 2, none⟩) (by show B ≤ B + 2; omega) _)

set_option maxHeartbeats 4000000 in
set_option maxRecDepth 100000 in
theorem lineOf_pny (W H : Nat) (a : Option Addr) (n c : Nat) (p : Nat → Px) (x0 y0 x1 y1 : Int) (q : Px) (w : World) (hW0 : 1 ≤ W) (hW : W ≤ 256) (hH0 : 1 ≤ H) (hH : H ≤ 256) (hn : n = W * H) (hP : IsPx w a n p) (hb : Nr x0 ∧ Nr y0 ∧ Nr x1 ∧ Nr y1) (N : Nat) (hN : N = lnN x0 y0 x1 y1) (hsx : 0 ≤ x1 - x0) (hsy : y1 - y0 < 0) (hbg : (x1 - x0).natAbs < (y1 - y0).natAbs) :
    Calls Tryd.prog 39 #[.agg #[.int .i64 (W : Int), .int .i64 (H : Int), .slice a n c], .int .i64 x0, .int .i64 y0, .int .i64 x1, .int .i64 y1, q.val] w fun e w' => ∃ g c2, e = .returned (.agg #[.int .i64 (W : Int), .int .i64 (H : Int), .slice (some ⟨g, 0, none⟩) (W * H) c2]) ∧ PR w' g (W * H) (lnP W H (fun k : Nat => aft (k : Int) (N : Int) x0 x1) (fun k : Nat => aft (k : Int) (N : Int) y0 y1) q p (N + 1)) ∧ Below w.heap.size w w' := by
  have hn0 : 1 ≤ n := by rw [hn]; exact Nat.mul_le_mul hW0 hH0
  have hn1 : n ≤ 100000 := by rw [hn]; exact Nat.le_trans (Nat.mul_le_mul hW hH) (by omega)
  have hNn : n ≤ 65536 := by rw [hn]; exact Nat.mul_le_mul hW hH
  have HO := hide (fun w (h : IsPx w a n p) => own_rowP W H a n c p w h hn1 hn0)
  have HPW := hide (fun wr (h : Below w.heap.size w wr) => hP.below h)
  have HNW := hide hn
  obtain ⟨b0, b1, b2, b3⟩ := hb
  unfold Nr at b0 b1 b2 b3
  obtain ⟨d1, hd1⟩ : ∃ d, d = x1 - x0 := ⟨_, rfl⟩
  obtain ⟨d3, hd3⟩ : ∃ d, d = y1 - y0 := ⟨_, rfl⟩
  obtain ⟨e1, he1⟩ : ∃ d, d = -d1 := ⟨_, rfl⟩
  obtain ⟨e3, he3⟩ : ∃ d, d = -d3 := ⟨_, rfl⟩
  have z1 : x1 - x0 = d1 := hd1.symm
  have z3 : y1 - y0 = d3 := hd3.symm
  have y1' : -d1 = e1 := he1.symm
  have y3' : -d3 = e3 := he3.symm
  have wd1 : IntKind.i64.wrap d1 = d1 := by rw [IntKind.wrap_i64]; omega
  have wd3 : IntKind.i64.wrap d3 = d3 := by rw [IntKind.wrap_i64]; omega
  have we1 : IntKind.i64.wrap e1 = e1 := by rw [IntKind.wrap_i64]; omega
  have we3 : IntKind.i64.wrap e3 = e3 := by rw [IntKind.wrap_i64]; omega
  have q1 : decide (e1 > d1) = false := decide_eq_false (by omega)
  have q2 : decide (e3 > d3) = true := decide_eq_true (by omega)
  have q3 : decide (e3 > d1) = true := decide_eq_true (by omega)
  have HL : Hid (e3 = (N : Int)) := by show _ = _; rw [hN]; unfold lnN; omega
  have hNb : N ≤ 20000 := by have := unhide HL; omega
  obtain ⟨X, hX⟩ : ∃ X : Nat → Int, X = fun (k : Nat) => aft (k : Int) (N : Int) x0 x1 := ⟨_, rfl⟩
  obtain ⟨Y, hY⟩ : ∃ Y : Nat → Int, Y = fun (k : Nat) => aft (k : Int) (N : Int) y0 y1 := ⟨_, rfl⟩
  have HXe : Hid (∀ k : Nat, X k = if N = 0 then x0 else x0 + (2 * (k : Int) * d1 + e3) / (2 * e3)) := fun k => by
    rw [hX]
    unfold aft
    dsimp only
    by_cases h : N = 0
    · rw [if_pos (by omega), if_pos h]
    · rw [if_neg (by omega), if_neg h, ← hd1, unhide HL]
  have HYe : Hid (∀ k : Nat, Y k = if N = 0 then y0 else y0 + (2 * (k : Int) * d3 + e3) / (2 * e3)) := fun k => by
    rw [hY]
    unfold aft
    dsimp only
    by_cases h : N = 0
    · rw [if_pos (by omega), if_pos h]
    · rw [if_neg (by omega), if_neg h, ← hd3, unhide HL]
  rw [← hX, ← hY]
  obtain ⟨M, hM⟩ : ∃ M, M = W * H := ⟨_, rfl⟩
  have hnM : n = M := by rw [hn, hM]
  rw [← hM]
  subst hnM
  have hD1 : -20000 ≤ d1 ∧ d1 ≤ 20000 := by omega
  have hD3 : -20000 ≤ d3 ∧ d3 ≤ 20000 := by omega
  unfold Px.val
  clear hP hn hN hX hY hM hd1 hd3 he1 he3 hsx hsy hbg hn0 hn1
  have HA := hide (al3 w (.cells #[.int .i64 (W : Int), .int .i64 (H : Int), .slice a n c] 26) (.cells #[.int .u8 (q.r.toNat : Int), .int .u8 (q.g.toNat : Int), .int .u8 (q.b.toNat : Int), .int .u8 (q.a.toNat : Int)] 23) (.cells #[.int .i64 0, .int .i64 0, .slice none 0 0] 26))
  obtain ⟨B, hB⟩ : ∃ B, B = w.heap.size := ⟨_, rfl⟩
  go_enter Tryd.func39, Tryd.ntmps39
  go_wp2_with fail
  generalize (((w.alloc (.cells #[.int .i64 (W : Int), .int .i64 (H : Int), .slice a n c] 26)).alloc (.cells #[.int .u8 (q.r.toNat : Int), .int .u8 (q.g.toNat : Int), .int .u8 (q.b.toNat : Int), .int .u8 (q.a.toNat : Int)] 23)).alloc (.cells #[.int .i64 0, .int .i64 0, .slice none 0 0] 26)) = w1 at *
  rw [← hB] at HA ⊢
  obtain ⟨hs1, kp, kq, kz, hb1⟩ := unhide HA
  have HBE := hide hB
  clear HA hB
  have hs : B + 3 ≤ w1.heap.size := by omega
  have HB := hide hb1
  clear hs1 hb1
  refine (unhide HO _ (unhide HPW _ (by rw [← unhide HBE]; exact unhide HB))).mono ?_
  rintro e w2 ⟨g, cg, rfl, hg, hpr, hbN⟩
  have hgl : B + 3 ≤ g := by omega
  have hsz := hbN.size
  have kp := blk_below kp hbN (blk_lt kp)
  have kq := blk_below kq hbN (blk_lt kq)
  have kz := blk_below kz hbN (blk_lt kz)
  have HB := hide ((unhide HB).trans (hbN.mono (by omega)))
  have hs : B + 3 ≤ w2.heap.size := by omega
  clear hbN hsz
  have hgs : g < w2.heap.size := hpr.lt
  have hlp : B < w2.heap.size := blk_lt kp
  have cp0 : w2.cell? ⟨B, 0, none⟩ = some (.int .i64 (W : Int)) := blk_cell kp 0
  have cp1 : w2.cell? ⟨B, 1, none⟩ = some (.int .i64 (H : Int)) := blk_cell kp 1
  have cp2 : w2.cell? ⟨B, 2, none⟩ = some (.slice a n c) := blk_cell kp 2
  have hlq : B + 1 < w2.heap.size := blk_lt kq
  have cq0 : w2.cell? ⟨B + 1, 0, none⟩ = some (.int .u8 (q.r.toNat : Int)) := blk_cell kq 0
  have cq1 : w2.cell? ⟨B + 1, 1, none⟩ = some (.int .u8 (q.g.toNat : Int)) := blk_cell kq 1
  have cq2 : w2.cell? ⟨B + 1, 2, none⟩ = some (.int .u8 (q.b.toNat : Int)) := blk_cell kq 2
  have cq3 : w2.cell? ⟨B + 1, 3, none⟩ = some (.int .u8 (q.a.toNat : Int)) := blk_cell kq 3
  have hlz : B + 2 < w2.heap.size := blk_lt kz
  have cz0 : w2.cell? ⟨B + 2, 0, none⟩ = some (.int .i64 0) := blk_cell kz 0
  have cz1 : w2.cell? ⟨B + 2, 1, none⟩ = some (.int .i64 0) := blk_cell kz 1
  have cz2 : w2.cell? ⟨B + 2, 2, none⟩ = some (.slice none 0 0) := blk_cell kz 2
  have HA := hide (al1 w2 (.cells #[.int .i64 (W : Int), .int .i64 (H : Int), .slice (some ⟨g, 0, none⟩) n cg] 26))
  obtain ⟨bO, heqO⟩ : ∃ b, b = w2.heap.size := ⟨_, rfl⟩
  go_wp2
  clear cp0 cp1 cp2 cq0 cq1 cq2 cq3 cz0 cz1 cz2 hlp hlq hlz
  have hgO : g < bO := by rw [heqO]; exact hgs
  generalize w2.alloc (.cells #[.int .i64 (W : Int), .int .i64 (H : Int), .slice (some ⟨g, 0, none⟩) n cg] 26) = w3 at *
  rw [← heqO] at HA ⊢
  obtain ⟨hsA, kO, hbA⟩ := unhide HA
  have hblkO := fun j (h : j < bO) => hbA.block j h
  rw [heqO] at hbA
  have ltOp : B < bO := by rw [heqO]; exact blk_lt kp
  have ltOq : B + 1 < bO := by rw [heqO]; exact blk_lt kq
  have ltOz : B + 2 < bO := by rw [heqO]; exact blk_lt kz
  have hgB : B ≤ bO := by rw [heqO]; omega
  clear HA
  have hsz := hbA.size
  have kp := blk_below kp hbA (blk_lt kp)
  have kq := blk_below kq hbA (blk_lt kq)
  have kz := blk_below kz hbA (blk_lt kz)
  have HB := hide ((unhide HB).trans (hbA.mono (by omega)))
  have hs : B + 3 ≤ w3.heap.size := by omega
  clear hbA hsz
  clear heqO hsA
  have HPR := hide (hpr.block (hblkO g hgO))
  clear hpr hgs hg hblkO
  have hgB : B ≤ g := by omega
  have Kp := hide kp
  have Kq := hide kq
  have Kz := hide kz
  have KO := hide kO
  clear kp kq kz kO hs q1 q2 q3
  go_loopw [16] (fun kv wr => ∃ k : Nat, k ≤ N + 1 ∧ kv = .int .i64 (k : Int) ∧ Hid (PR wr g n (lnP W H X Y q p k)) ∧ Hid (Below B w wr) ∧ Hid (wr.heap[B]? = some (.cells #[.int .i64 (W : Int), .int .i64 (H : Int), .slice a n c] 26)) ∧ Hid (wr.heap[B + 1]? = some (.cells #[.int .u8 (q.r.toNat : Int), .int .u8 (q.g.toNat : Int), .int .u8 (q.b.toNat : Int), .int .u8 (q.a.toNat : Int)] 23)) ∧ Hid (wr.heap[B + 2]? = some (.cells #[.int .i64 0, .int .i64 0, .slice none 0 0] 26)) ∧ Hid (wr.heap[bO]? = some (.cells #[.int .i64 (W : Int), .int .i64 (H : Int), .slice (some ⟨g, 0, none⟩) n cg] 26))) (fun kv _ => N + 1 - (intOf kv).toNat)
  case atStart => exact ⟨0, by omega, rfl, by show PR _ _ _ _; rw [lnP_zero]; exact unhide HPR, HB, Kp, Kq, Kz, KO⟩
  case round =>
    clear HPR HB Kp Kq Kz KO
    obtain ⟨k, hk, rfl, HPR, HB, Kp, Kq, Kz, KO⟩ := hrel
    have hLN := unhide HL
    by_cases hlt : k < N + 1
    · have c1 : decide ((k : Int) ≤ e3) = true := decide_eq_true (by omega)
      by_cases hN0 : N = 0
      · have cz : decide (e3 > 0) = false := decide_eq_false (by omega)
        have hXk : X k = x0 := by rw [unhide HXe, if_pos hN0]
        have hYk : Y k = y0 := by rw [unhide HYe, if_pos hN0]
        obtain ⟨xv, hxv⟩ : ∃ x, x = x0 := ⟨_, rfl⟩
        obtain ⟨yv, hyv⟩ : ∃ x, x = y0 := ⟨_, rfl⟩
        rw [← hxv] at hXk
        rw [← hyv] at hYk
        have hxv2 : x0 = xv := hxv.symm
        have hyv2 : y0 = yv := hyv.symm
        have HXK := hide hXk
        have HYK := hide hYk
        clear hXk hYk hLN
        by_cases hin : 0 ≤ xv ∧ 0 ≤ yv ∧ xv < (W : Int) ∧ yv < (H : Int)
        · have HIN := hide (fun w => inP_any W H xv yv a n c w)
          rw [decide_eq_true hin] at HIN
          rw [hxv, hyv] at HIN
          obtain ⟨xn, hxn⟩ := Int.eq_ofNat_of_zero_le hin.1
          obtain ⟨yn, hyn⟩ := Int.eq_ofNat_of_zero_le hin.2.1
          have hxl : xn < W := by omega
          have hyl : yn < H := by omega
          have HLS : Hid (lnP W H X Y q p (k + 1) = updP (lnP W H X Y q p k) (yn * W + xn) q) := lnP_in W H X Y q p k xn yn ((unhide HXK).trans hxn) ((unhide HYK).trans hyn) hxl hyl
          have hiN : yn * W + xn < n := by rw [unhide HNW]; exact place_lt hxl hyl
          obtain ⟨t, ht⟩ : ∃ t, t = yn * W := ⟨_, rfl⟩
          have htb : t ≤ 65536 := by rw [ht]; exact Nat.mul_le_mul (show yn ≤ 256 by omega) hW
          have zt : y0 * (W : Int) = (t : Int) := by rw [hyv2, hyn, ht]; simp
          obtain ⟨i, hi⟩ : ∃ i, i = t + xn := ⟨_, rfl⟩
          have e0 : (t : Int) + x0 = (i : Int) := by rw [hxv2, hxn, hi]; simp
          rw [← ht, ← hi] at HLS hiN
          have wrt : IntKind.i64.wrap (t : Int) = (t : Int) := by rw [IntKind.wrap_i64]; omega
          have wri : IntKind.i64.wrap (i : Int) = (i : Int) := by rw [IntKind.wrap_i64]; omega
          have hiI : (i : Int) < (n : Int) := by omega
          clear hxn hyn ht hi hin hxv hyv hxv2 hyv2
          have kp := unhide Kp
          have kq := unhide Kq
          have kz := unhide Kz
          have kO := unhide KO
          have hs : B + 3 ≤ wr.heap.size := by have := blk_lt kz; omega
          have hlp : B < wr.heap.size := blk_lt kp
          have cp0 : wr.cell? ⟨B, 0, none⟩ = some (.int .i64 (W : Int)) := blk_cell kp 0
          have cp1 : wr.cell? ⟨B, 1, none⟩ = some (.int .i64 (H : Int)) := blk_cell kp 1
          have cp2 : wr.cell? ⟨B, 2, none⟩ = some (.slice a n c) := blk_cell kp 2
          have hlq : B + 1 < wr.heap.size := blk_lt kq
          have cq0 : wr.cell? ⟨B + 1, 0, none⟩ = some (.int .u8 (q.r.toNat : Int)) := blk_cell kq 0
          have cq1 : wr.cell? ⟨B + 1, 1, none⟩ = some (.int .u8 (q.g.toNat : Int)) := blk_cell kq 1
          have cq2 : wr.cell? ⟨B + 1, 2, none⟩ = some (.int .u8 (q.b.toNat : Int)) := blk_cell kq 2
          have cq3 : wr.cell? ⟨B + 1, 3, none⟩ = some (.int .u8 (q.a.toNat : Int)) := blk_cell kq 3
          have hlz : B + 2 < wr.heap.size := blk_lt kz
          have cz0 : wr.cell? ⟨B + 2, 0, none⟩ = some (.int .i64 0) := blk_cell kz 0
          have cz1 : wr.cell? ⟨B + 2, 1, none⟩ = some (.int .i64 0) := blk_cell kz 1
          have cz2 : wr.cell? ⟨B + 2, 2, none⟩ = some (.slice none 0 0) := blk_cell kz 2
          have hlO : bO < wr.heap.size := blk_lt kO
          have cO0 : wr.cell? ⟨bO, 0, none⟩ = some (.int .i64 (W : Int)) := blk_cell kO 0
          have cO1 : wr.cell? ⟨bO, 1, none⟩ = some (.int .i64 (H : Int)) := blk_cell kO 1
          have cO2 : wr.cell? ⟨bO, 2, none⟩ = some (.slice (some ⟨g, 0, none⟩) n cg) := blk_cell kO 2
          go_wp2_with fail
          clear cp0 cp1 cp2 cq0 cq1 cq2 cq3 cz0 cz1 cz2 cO0 cO1 cO2 hlp hlq hlz hlO
          refine (unhide HIN _).mono ?_
          rintro e w4 ⟨rfl, hbN⟩
          have HPR := hide ((unhide HPR).below hbN (unhide HPR).lt)
          have hsz := hbN.size
          have kp := blk_below kp hbN (blk_lt kp)
          have kq := blk_below kq hbN (blk_lt kq)
          have kz := blk_below kz hbN (blk_lt kz)
          have kO := blk_below kO hbN (blk_lt kO)
          have HB := hide ((unhide HB).trans (hbN.mono (by omega)))
          have hs : B + 3 ≤ w4.heap.size := by omega
          clear hbN hsz
          have hlp : B < w4.heap.size := blk_lt kp
          have cp0 : w4.cell? ⟨B, 0, none⟩ = some (.int .i64 (W : Int)) := blk_cell kp 0
          have cp1 : w4.cell? ⟨B, 1, none⟩ = some (.int .i64 (H : Int)) := blk_cell kp 1
          have cp2 : w4.cell? ⟨B, 2, none⟩ = some (.slice a n c) := blk_cell kp 2
          have hlq : B + 1 < w4.heap.size := blk_lt kq
          have cq0 : w4.cell? ⟨B + 1, 0, none⟩ = some (.int .u8 (q.r.toNat : Int)) := blk_cell kq 0
          have cq1 : w4.cell? ⟨B + 1, 1, none⟩ = some (.int .u8 (q.g.toNat : Int)) := blk_cell kq 1
          have cq2 : w4.cell? ⟨B + 1, 2, none⟩ = some (.int .u8 (q.b.toNat : Int)) := blk_cell kq 2
          have cq3 : w4.cell? ⟨B + 1, 3, none⟩ = some (.int .u8 (q.a.toNat : Int)) := blk_cell kq 3
          have hlz : B + 2 < w4.heap.size := blk_lt kz
          have cz0 : w4.cell? ⟨B + 2, 0, none⟩ = some (.int .i64 0) := blk_cell kz 0
          have cz1 : w4.cell? ⟨B + 2, 1, none⟩ = some (.int .i64 0) := blk_cell kz 1
          have cz2 : w4.cell? ⟨B + 2, 2, none⟩ = some (.slice none 0 0) := blk_cell kz 2
          have hlO : bO < w4.heap.size := blk_lt kO
          have cO0 : w4.cell? ⟨bO, 0, none⟩ = some (.int .i64 (W : Int)) := blk_cell kO 0
          have cO1 : w4.cell? ⟨bO, 1, none⟩ = some (.int .i64 (H : Int)) := blk_cell kO 1
          have cO2 : w4.cell? ⟨bO, 2, none⟩ = some (.slice (some ⟨g, 0, none⟩) n cg) := blk_cell kO 2
          obtain ⟨t0, t1, t2, t3⟩ := (unhide HPR).px i hiN
          have f0 := (unhide HPR).fr (i * 4)
          have f1 := (unhide HPR).fr (i * 4 + 1)
          have f2 := (unhide HPR).fr (i * 4 + 2)
          have f3 := (unhide HPR).fr (i * 4 + 3)
          go_wp2
          go_roundw
          case rel => exact ⟨k + 1, by omega, by go_num, (by show PR _ _ _ _; rw [unhide HLS]; exact (unhide HPR).put hiN q), put4_below (unhide HB) hgB _, (put4_far _ _ _ _ _ (by omega)).trans kp, (put4_far _ _ _ _ _ (by omega)).trans kq, (put4_far _ _ _ _ _ (by omega)).trans kz, (put4_far _ _ _ _ _ (by omega)).trans kO⟩
          case measure => simp [intOf]; omega
        · have HIN := hide (fun w => inP_any W H xv yv a n c w)
          rw [decide_eq_false hin] at HIN
          rw [hxv, hyv] at HIN
          have HLS : Hid (lnP W H X Y q p (k + 1) = lnP W H X Y q p k) := lnP_out W H X Y q p k (by rw [unhide HXK, unhide HYK]; exact hin)
          clear hin hxv hyv hxv2 hyv2
          have kp := unhide Kp
          have kq := unhide Kq
          have kz := unhide Kz
          have kO := unhide KO
          have hs : B + 3 ≤ wr.heap.size := by have := blk_lt kz; omega
          have hlp : B < wr.heap.size := blk_lt kp
          have cp0 : wr.cell? ⟨B, 0, none⟩ = some (.int .i64 (W : Int)) := blk_cell kp 0
          have cp1 : wr.cell? ⟨B, 1, none⟩ = some (.int .i64 (H : Int)) := blk_cell kp 1
          have cp2 : wr.cell? ⟨B, 2, none⟩ = some (.slice a n c) := blk_cell kp 2
          have hlq : B + 1 < wr.heap.size := blk_lt kq
          have cq0 : wr.cell? ⟨B + 1, 0, none⟩ = some (.int .u8 (q.r.toNat : Int)) := blk_cell kq 0
          have cq1 : wr.cell? ⟨B + 1, 1, none⟩ = some (.int .u8 (q.g.toNat : Int)) := blk_cell kq 1
          have cq2 : wr.cell? ⟨B + 1, 2, none⟩ = some (.int .u8 (q.b.toNat : Int)) := blk_cell kq 2
          have cq3 : wr.cell? ⟨B + 1, 3, none⟩ = some (.int .u8 (q.a.toNat : Int)) := blk_cell kq 3
          have hlz : B + 2 < wr.heap.size := blk_lt kz
          have cz0 : wr.cell? ⟨B + 2, 0, none⟩ = some (.int .i64 0) := blk_cell kz 0
          have cz1 : wr.cell? ⟨B + 2, 1, none⟩ = some (.int .i64 0) := blk_cell kz 1
          have cz2 : wr.cell? ⟨B + 2, 2, none⟩ = some (.slice none 0 0) := blk_cell kz 2
          have hlO : bO < wr.heap.size := blk_lt kO
          have cO0 : wr.cell? ⟨bO, 0, none⟩ = some (.int .i64 (W : Int)) := blk_cell kO 0
          have cO1 : wr.cell? ⟨bO, 1, none⟩ = some (.int .i64 (H : Int)) := blk_cell kO 1
          have cO2 : wr.cell? ⟨bO, 2, none⟩ = some (.slice (some ⟨g, 0, none⟩) n cg) := blk_cell kO 2
          go_wp2_with fail
          clear cp0 cp1 cp2 cq0 cq1 cq2 cq3 cz0 cz1 cz2 cO0 cO1 cO2 hlp hlq hlz hlO
          refine (unhide HIN _).mono ?_
          rintro e w9 ⟨rfl, hbN⟩
          have HPR := hide ((unhide HPR).below hbN (unhide HPR).lt)
          have hsz := hbN.size
          have kp := blk_below kp hbN (blk_lt kp)
          have kq := blk_below kq hbN (blk_lt kq)
          have kz := blk_below kz hbN (blk_lt kz)
          have kO := blk_below kO hbN (blk_lt kO)
          have HB := hide ((unhide HB).trans (hbN.mono (by omega)))
          have hs : B + 3 ≤ w9.heap.size := by omega
          clear hbN hsz
          go_wp2
          go_roundw
          case rel => exact ⟨k + 1, by omega, by go_num, (by show PR _ _ _ _; rw [unhide HLS]; exact unhide HPR), HB, kp, kq, kz, kO⟩
          case measure => simp [intOf]; omega
      · have cz : decide (e3 > 0) = true := decide_eq_true (by omega)
        obtain ⟨k2, hk2⟩ : ∃ x, x = 2 * (k : Int) := ⟨_, rfl⟩
        obtain ⟨n2, hn2⟩ : ∃ x, x = 2 * e3 := ⟨_, rfl⟩
        have y1 : 2 * (k : Int) = k2 := hk2.symm
        have y2 : 2 * e3 = n2 := hn2.symm
        obtain ⟨mx, hmx⟩ : ∃ x, x = k2 * d1 := ⟨_, rfl⟩
        obtain ⟨sx, hsx⟩ : ∃ x, x = mx + e3 := ⟨_, rfl⟩
        have ux : k2 * d1 = mx := hmx.symm
        have vx : mx + e3 = sx := hsx.symm
        have hmxb : -800000000 ≤ mx ∧ mx ≤ 800000000 := by
          have h := mul_in (A := 40000) (B := 20000) (show -40000 ≤ k2 ∧ k2 ≤ 40000 by omega) hD1 (by omega)
          rw [← hmx] at h
          omega
        obtain ⟨qx, hqx⟩ : ∃ x, x = sx / n2 := ⟨_, rfl⟩
        have HDx := hide (fun w => downPart_any sx n2 w (by omega) (by omega) (by omega))
        rw [← hqx] at HDx
        have hqxb : -900000000 ≤ qx ∧ qx ≤ 900000000 := by rw [hqx]; exact quo_in sx n2 (by omega) (by omega)
        have wx1 : IntKind.i64.wrap mx = mx := by rw [IntKind.wrap_i64]; omega
        have wx2 : IntKind.i64.wrap sx = sx := by rw [IntKind.wrap_i64]; omega
        have wx3 : IntKind.i64.wrap (x0 + qx) = x0 + qx := by rw [IntKind.wrap_i64]; omega
        obtain ⟨my, hmy⟩ : ∃ x, x = k2 * d3 := ⟨_, rfl⟩
        obtain ⟨sy, hsy⟩ : ∃ x, x = my + e3 := ⟨_, rfl⟩
        have uy : k2 * d3 = my := hmy.symm
        have vy : my + e3 = sy := hsy.symm
        have hmyb : -800000000 ≤ my ∧ my ≤ 800000000 := by
          have h := mul_in (A := 40000) (B := 20000) (show -40000 ≤ k2 ∧ k2 ≤ 40000 by omega) hD3 (by omega)
          rw [← hmy] at h
          omega
        obtain ⟨qy, hqy⟩ : ∃ x, x = sy / n2 := ⟨_, rfl⟩
        have HDy := hide (fun w => downPart_any sy n2 w (by omega) (by omega) (by omega))
        rw [← hqy] at HDy
        have hqyb : -900000000 ≤ qy ∧ qy ≤ 900000000 := by rw [hqy]; exact quo_in sy n2 (by omega) (by omega)
        have wy1 : IntKind.i64.wrap my = my := by rw [IntKind.wrap_i64]; omega
        have wy2 : IntKind.i64.wrap sy = sy := by rw [IntKind.wrap_i64]; omega
        have wy3 : IntKind.i64.wrap (y0 + qy) = y0 + qy := by rw [IntKind.wrap_i64]; omega
        have wk2 : IntKind.i64.wrap k2 = k2 := by rw [IntKind.wrap_i64]; omega
        have wn2 : IntKind.i64.wrap n2 = n2 := by rw [IntKind.wrap_i64]; omega
        have hXk : X k = x0 + qx := by rw [unhide HXe, if_neg hN0, hqx, hsx, hmx, hk2, hn2]
        have hYk : Y k = y0 + qy := by rw [unhide HYe, if_neg hN0, hqy, hsy, hmy, hk2, hn2]
        clear hqx hqy hsx hsy hmx hmy hk2 hn2 hmxb hmyb hqxb hqyb
        obtain ⟨xv, hxv⟩ : ∃ x, x = x0 + qx := ⟨_, rfl⟩
        obtain ⟨yv, hyv⟩ : ∃ x, x = y0 + qy := ⟨_, rfl⟩
        rw [← hxv] at hXk
        rw [← hyv] at hYk
        have zxv : x0 + qx = xv := hxv.symm
        have zyv : y0 + qy = yv := hyv.symm
        have wxv : IntKind.i64.wrap xv = xv := by rw [hxv]; exact wx3
        have wyv : IntKind.i64.wrap yv = yv := by rw [hyv]; exact wy3
        clear wx3 wy3
        have HXK := hide hXk
        have HYK := hide hYk
        clear hXk hYk hLN
        clear hxv hyv
        by_cases hin : 0 ≤ xv ∧ 0 ≤ yv ∧ xv < (W : Int) ∧ yv < (H : Int)
        · have HIN := hide (fun w => inP_any W H xv yv a n c w)
          rw [decide_eq_true hin] at HIN
          obtain ⟨xn, hxn⟩ := Int.eq_ofNat_of_zero_le hin.1
          obtain ⟨yn, hyn⟩ := Int.eq_ofNat_of_zero_le hin.2.1
          have hxl : xn < W := by omega
          have hyl : yn < H := by omega
          have HLS : Hid (lnP W H X Y q p (k + 1) = updP (lnP W H X Y q p k) (yn * W + xn) q) := lnP_in W H X Y q p k xn yn ((unhide HXK).trans hxn) ((unhide HYK).trans hyn) hxl hyl
          have hiN : yn * W + xn < n := by rw [unhide HNW]; exact place_lt hxl hyl
          obtain ⟨t, ht⟩ : ∃ t, t = yn * W := ⟨_, rfl⟩
          have htb : t ≤ 65536 := by rw [ht]; exact Nat.mul_le_mul (show yn ≤ 256 by omega) hW
          have zt : yv * (W : Int) = (t : Int) := by rw [hyn, ht]; simp
          obtain ⟨i, hi⟩ : ∃ i, i = t + xn := ⟨_, rfl⟩
          have e0 : (t : Int) + xv = (i : Int) := by rw [hxn, hi]; simp
          rw [← ht, ← hi] at HLS hiN
          have wrt : IntKind.i64.wrap (t : Int) = (t : Int) := by rw [IntKind.wrap_i64]; omega
          have wri : IntKind.i64.wrap (i : Int) = (i : Int) := by rw [IntKind.wrap_i64]; omega
          have hiI : (i : Int) < (n : Int) := by omega
          clear hxn hyn ht hi hin
          have kp := unhide Kp
          have kq := unhide Kq
          have kz := unhide Kz
          have kO := unhide KO
          have hs : B + 3 ≤ wr.heap.size := by have := blk_lt kz; omega
          have hlp : B < wr.heap.size := blk_lt kp
          have cp0 : wr.cell? ⟨B, 0, none⟩ = some (.int .i64 (W : Int)) := blk_cell kp 0
          have cp1 : wr.cell? ⟨B, 1, none⟩ = some (.int .i64 (H : Int)) := blk_cell kp 1
          have cp2 : wr.cell? ⟨B, 2, none⟩ = some (.slice a n c) := blk_cell kp 2
          have hlq : B + 1 < wr.heap.size := blk_lt kq
          have cq0 : wr.cell? ⟨B + 1, 0, none⟩ = some (.int .u8 (q.r.toNat : Int)) := blk_cell kq 0
          have cq1 : wr.cell? ⟨B + 1, 1, none⟩ = some (.int .u8 (q.g.toNat : Int)) := blk_cell kq 1
          have cq2 : wr.cell? ⟨B + 1, 2, none⟩ = some (.int .u8 (q.b.toNat : Int)) := blk_cell kq 2
          have cq3 : wr.cell? ⟨B + 1, 3, none⟩ = some (.int .u8 (q.a.toNat : Int)) := blk_cell kq 3
          have hlz : B + 2 < wr.heap.size := blk_lt kz
          have cz0 : wr.cell? ⟨B + 2, 0, none⟩ = some (.int .i64 0) := blk_cell kz 0
          have cz1 : wr.cell? ⟨B + 2, 1, none⟩ = some (.int .i64 0) := blk_cell kz 1
          have cz2 : wr.cell? ⟨B + 2, 2, none⟩ = some (.slice none 0 0) := blk_cell kz 2
          have hlO : bO < wr.heap.size := blk_lt kO
          have cO0 : wr.cell? ⟨bO, 0, none⟩ = some (.int .i64 (W : Int)) := blk_cell kO 0
          have cO1 : wr.cell? ⟨bO, 1, none⟩ = some (.int .i64 (H : Int)) := blk_cell kO 1
          have cO2 : wr.cell? ⟨bO, 2, none⟩ = some (.slice (some ⟨g, 0, none⟩) n cg) := blk_cell kO 2
          go_wp2_with fail
          clear cp0 cp1 cp2 cq0 cq1 cq2 cq3 cz0 cz1 cz2 cO0 cO1 cO2 hlp hlq hlz hlO
          refine (unhide HDx _).mono ?_
          rintro e wr ⟨rfl, rfl⟩
          have hlp : B < wr.heap.size := blk_lt kp
          have cp0 : wr.cell? ⟨B, 0, none⟩ = some (.int .i64 (W : Int)) := blk_cell kp 0
          have cp1 : wr.cell? ⟨B, 1, none⟩ = some (.int .i64 (H : Int)) := blk_cell kp 1
          have cp2 : wr.cell? ⟨B, 2, none⟩ = some (.slice a n c) := blk_cell kp 2
          have hlq : B + 1 < wr.heap.size := blk_lt kq
          have cq0 : wr.cell? ⟨B + 1, 0, none⟩ = some (.int .u8 (q.r.toNat : Int)) := blk_cell kq 0
          have cq1 : wr.cell? ⟨B + 1, 1, none⟩ = some (.int .u8 (q.g.toNat : Int)) := blk_cell kq 1
          have cq2 : wr.cell? ⟨B + 1, 2, none⟩ = some (.int .u8 (q.b.toNat : Int)) := blk_cell kq 2
          have cq3 : wr.cell? ⟨B + 1, 3, none⟩ = some (.int .u8 (q.a.toNat : Int)) := blk_cell kq 3
          have hlz : B + 2 < wr.heap.size := blk_lt kz
          have cz0 : wr.cell? ⟨B + 2, 0, none⟩ = some (.int .i64 0) := blk_cell kz 0
          have cz1 : wr.cell? ⟨B + 2, 1, none⟩ = some (.int .i64 0) := blk_cell kz 1
          have cz2 : wr.cell? ⟨B + 2, 2, none⟩ = some (.slice none 0 0) := blk_cell kz 2
          have hlO : bO < wr.heap.size := blk_lt kO
          have cO0 : wr.cell? ⟨bO, 0, none⟩ = some (.int .i64 (W : Int)) := blk_cell kO 0
          have cO1 : wr.cell? ⟨bO, 1, none⟩ = some (.int .i64 (H : Int)) := blk_cell kO 1
          have cO2 : wr.cell? ⟨bO, 2, none⟩ = some (.slice (some ⟨g, 0, none⟩) n cg) := blk_cell kO 2
          go_wp2_with fail
          clear cp0 cp1 cp2 cq0 cq1 cq2 cq3 cz0 cz1 cz2 cO0 cO1 cO2 hlp hlq hlz hlO
          refine (unhide HDy _).mono ?_
          rintro e wr ⟨rfl, rfl⟩
          have hlp : B < wr.heap.size := blk_lt kp
          have cp0 : wr.cell? ⟨B, 0, none⟩ = some (.int .i64 (W : Int)) := blk_cell kp 0
          have cp1 : wr.cell? ⟨B, 1, none⟩ = some (.int .i64 (H : Int)) := blk_cell kp 1
          have cp2 : wr.cell? ⟨B, 2, none⟩ = some (.slice a n c) := blk_cell kp 2
          have hlq : B + 1 < wr.heap.size := blk_lt kq
          have cq0 : wr.cell? ⟨B + 1, 0, none⟩ = some (.int .u8 (q.r.toNat : Int)) := blk_cell kq 0
          have cq1 : wr.cell? ⟨B + 1, 1, none⟩ = some (.int .u8 (q.g.toNat : Int)) := blk_cell kq 1
          have cq2 : wr.cell? ⟨B + 1, 2, none⟩ = some (.int .u8 (q.b.toNat : Int)) := blk_cell kq 2
          have cq3 : wr.cell? ⟨B + 1, 3, none⟩ = some (.int .u8 (q.a.toNat : Int)) := blk_cell kq 3
          have hlz : B + 2 < wr.heap.size := blk_lt kz
          have cz0 : wr.cell? ⟨B + 2, 0, none⟩ = some (.int .i64 0) := blk_cell kz 0
          have cz1 : wr.cell? ⟨B + 2, 1, none⟩ = some (.int .i64 0) := blk_cell kz 1
          have cz2 : wr.cell? ⟨B + 2, 2, none⟩ = some (.slice none 0 0) := blk_cell kz 2
          have hlO : bO < wr.heap.size := blk_lt kO
          have cO0 : wr.cell? ⟨bO, 0, none⟩ = some (.int .i64 (W : Int)) := blk_cell kO 0
          have cO1 : wr.cell? ⟨bO, 1, none⟩ = some (.int .i64 (H : Int)) := blk_cell kO 1
          have cO2 : wr.cell? ⟨bO, 2, none⟩ = some (.slice (some ⟨g, 0, none⟩) n cg) := blk_cell kO 2
          go_wp2_with fail
          clear cp0 cp1 cp2 cq0 cq1 cq2 cq3 cz0 cz1 cz2 cO0 cO1 cO2 hlp hlq hlz hlO
          refine (unhide HIN _).mono ?_
          rintro e w14 ⟨rfl, hbN⟩
          have HPR := hide ((unhide HPR).below hbN (unhide HPR).lt)
          have hsz := hbN.size
          have kp := blk_below kp hbN (blk_lt kp)
          have kq := blk_below kq hbN (blk_lt kq)
          have kz := blk_below kz hbN (blk_lt kz)
          have kO := blk_below kO hbN (blk_lt kO)
          have HB := hide ((unhide HB).trans (hbN.mono (by omega)))
          have hs : B + 3 ≤ w14.heap.size := by omega
          clear hbN hsz
          have hlp : B < w14.heap.size := blk_lt kp
          have cp0 : w14.cell? ⟨B, 0, none⟩ = some (.int .i64 (W : Int)) := blk_cell kp 0
          have cp1 : w14.cell? ⟨B, 1, none⟩ = some (.int .i64 (H : Int)) := blk_cell kp 1
          have cp2 : w14.cell? ⟨B, 2, none⟩ = some (.slice a n c) := blk_cell kp 2
          have hlq : B + 1 < w14.heap.size := blk_lt kq
          have cq0 : w14.cell? ⟨B + 1, 0, none⟩ = some (.int .u8 (q.r.toNat : Int)) := blk_cell kq 0
          have cq1 : w14.cell? ⟨B + 1, 1, none⟩ = some (.int .u8 (q.g.toNat : Int)) := blk_cell kq 1
          have cq2 : w14.cell? ⟨B + 1, 2, none⟩ = some (.int .u8 (q.b.toNat : Int)) := blk_cell kq 2
          have cq3 : w14.cell? ⟨B + 1, 3, none⟩ = some (.int .u8 (q.a.toNat : Int)) := blk_cell kq 3
          have hlz : B + 2 < w14.heap.size := blk_lt kz
          have cz0 : w14.cell? ⟨B + 2, 0, none⟩ = some (.int .i64 0) := blk_cell kz 0
          have cz1 : w14.cell? ⟨B + 2, 1, none⟩ = some (.int .i64 0) := blk_cell kz 1
          have cz2 : w14.cell? ⟨B + 2, 2, none⟩ = some (.slice none 0 0) := blk_cell kz 2
          have hlO : bO < w14.heap.size := blk_lt kO
          have cO0 : w14.cell? ⟨bO, 0, none⟩ = some (.int .i64 (W : Int)) := blk_cell kO 0
          have cO1 : w14.cell? ⟨bO, 1, none⟩ = some (.int .i64 (H : Int)) := blk_cell kO 1
          have cO2 : w14.cell? ⟨bO, 2, none⟩ = some (.slice (some ⟨g, 0, none⟩) n cg) := blk_cell kO 2
          obtain ⟨t0, t1, t2, t3⟩ := (unhide HPR).px i hiN
          have f0 := (unhide HPR).fr (i * 4)
          have f1 := (unhide HPR).fr (i * 4 + 1)
          have f2 := (unhide HPR).fr (i * 4 + 2)
          have f3 := (unhide HPR).fr (i * 4 + 3)
          go_wp2
          go_roundw
          case rel => exact ⟨k + 1, by omega, by go_num, (by show PR _ _ _ _; rw [unhide HLS]; exact (unhide HPR).put hiN q), put4_below (unhide HB) hgB _, (put4_far _ _ _ _ _ (by omega)).trans kp, (put4_far _ _ _ _ _ (by omega)).trans kq, (put4_far _ _ _ _ _ (by omega)).trans kz, (put4_far _ _ _ _ _ (by omega)).trans kO⟩
          case measure => simp [intOf]; omega
        · have HIN := hide (fun w => inP_any W H xv yv a n c w)
          rw [decide_eq_false hin] at HIN
          have HLS : Hid (lnP W H X Y q p (k + 1) = lnP W H X Y q p k) := lnP_out W H X Y q p k (by rw [unhide HXK, unhide HYK]; exact hin)
          clear hin
          have kp := unhide Kp
          have kq := unhide Kq
          have kz := unhide Kz
          have kO := unhide KO
          have hs : B + 3 ≤ wr.heap.size := by have := blk_lt kz; omega
          have hlp : B < wr.heap.size := blk_lt kp
          have cp0 : wr.cell? ⟨B, 0, none⟩ = some (.int .i64 (W : Int)) := blk_cell kp 0
          have cp1 : wr.cell? ⟨B, 1, none⟩ = some (.int .i64 (H : Int)) := blk_cell kp 1
          have cp2 : wr.cell? ⟨B, 2, none⟩ = some (.slice a n c) := blk_cell kp 2
          have hlq : B + 1 < wr.heap.size := blk_lt kq
          have cq0 : wr.cell? ⟨B + 1, 0, none⟩ = some (.int .u8 (q.r.toNat : Int)) := blk_cell kq 0
          have cq1 : wr.cell? ⟨B + 1, 1, none⟩ = some (.int .u8 (q.g.toNat : Int)) := blk_cell kq 1
          have cq2 : wr.cell? ⟨B + 1, 2, none⟩ = some (.int .u8 (q.b.toNat : Int)) := blk_cell kq 2
          have cq3 : wr.cell? ⟨B + 1, 3, none⟩ = some (.int .u8 (q.a.toNat : Int)) := blk_cell kq 3
          have hlz : B + 2 < wr.heap.size := blk_lt kz
          have cz0 : wr.cell? ⟨B + 2, 0, none⟩ = some (.int .i64 0) := blk_cell kz 0
          have cz1 : wr.cell? ⟨B + 2, 1, none⟩ = some (.int .i64 0) := blk_cell kz 1
          have cz2 : wr.cell? ⟨B + 2, 2, none⟩ = some (.slice none 0 0) := blk_cell kz 2
          have hlO : bO < wr.heap.size := blk_lt kO
          have cO0 : wr.cell? ⟨bO, 0, none⟩ = some (.int .i64 (W : Int)) := blk_cell kO 0
          have cO1 : wr.cell? ⟨bO, 1, none⟩ = some (.int .i64 (H : Int)) := blk_cell kO 1
          have cO2 : wr.cell? ⟨bO, 2, none⟩ = some (.slice (some ⟨g, 0, none⟩) n cg) := blk_cell kO 2
          go_wp2_with fail
          clear cp0 cp1 cp2 cq0 cq1 cq2 cq3 cz0 cz1 cz2 cO0 cO1 cO2 hlp hlq hlz hlO
          refine (unhide HDx _).mono ?_
          rintro e wr ⟨rfl, rfl⟩
          have hlp : B < wr.heap.size := blk_lt kp
          have cp0 : wr.cell? ⟨B, 0, none⟩ = some (.int .i64 (W : Int)) := blk_cell kp 0
          have cp1 : wr.cell? ⟨B, 1, none⟩ = some (.int .i64 (H : Int)) := blk_cell kp 1
          have cp2 : wr.cell? ⟨B, 2, none⟩ = some (.slice a n c) := blk_cell kp 2
          have hlq : B + 1 < wr.heap.size := blk_lt kq
          have cq0 : wr.cell? ⟨B + 1, 0, none⟩ = some (.int .u8 (q.r.toNat : Int)) := blk_cell kq 0
          have cq1 : wr.cell? ⟨B + 1, 1, none⟩ = some (.int .u8 (q.g.toNat : Int)) := blk_cell kq 1
          have cq2 : wr.cell? ⟨B + 1, 2, none⟩ = some (.int .u8 (q.b.toNat : Int)) := blk_cell kq 2
          have cq3 : wr.cell? ⟨B + 1, 3, none⟩ = some (.int .u8 (q.a.toNat : Int)) := blk_cell kq 3
          have hlz : B + 2 < wr.heap.size := blk_lt kz
          have cz0 : wr.cell? ⟨B + 2, 0, none⟩ = some (.int .i64 0) := blk_cell kz 0
          have cz1 : wr.cell? ⟨B + 2, 1, none⟩ = some (.int .i64 0) := blk_cell kz 1
          have cz2 : wr.cell? ⟨B + 2, 2, none⟩ = some (.slice none 0 0) := blk_cell kz 2
          have hlO : bO < wr.heap.size := blk_lt kO
          have cO0 : wr.cell? ⟨bO, 0, none⟩ = some (.int .i64 (W : Int)) := blk_cell kO 0
          have cO1 : wr.cell? ⟨bO, 1, none⟩ = some (.int .i64 (H : Int)) := blk_cell kO 1
          have cO2 : wr.cell? ⟨bO, 2, none⟩ = some (.slice (some ⟨g, 0, none⟩) n cg) := blk_cell kO 2
          go_wp2_with fail
          clear cp0 cp1 cp2 cq0 cq1 cq2 cq3 cz0 cz1 cz2 cO0 cO1 cO2 hlp hlq hlz hlO
          refine (unhide HDy _).mono ?_
          rintro e wr ⟨rfl, rfl⟩
          have hlp : B < wr.heap.size := blk_lt kp
          have cp0 : wr.cell? ⟨B, 0, none⟩ = some (.int .i64 (W : Int)) := blk_cell kp 0
          have cp1 : wr.cell? ⟨B, 1, none⟩ = some (.int .i64 (H : Int)) := blk_cell kp 1
          have cp2 : wr.cell? ⟨B, 2, none⟩ = some (.slice a n c) := blk_cell kp 2
          have hlq : B + 1 < wr.heap.size := blk_lt kq
          have cq0 : wr.cell? ⟨B + 1, 0, none⟩ = some (.int .u8 (q.r.toNat : Int)) := blk_cell kq 0
          have cq1 : wr.cell? ⟨B + 1, 1, none⟩ = some (.int .u8 (q.g.toNat : Int)) := blk_cell kq 1
          have cq2 : wr.cell? ⟨B + 1, 2, none⟩ = some (.int .u8 (q.b.toNat : Int)) := blk_cell kq 2
          have cq3 : wr.cell? ⟨B + 1, 3, none⟩ = some (.int .u8 (q.a.toNat : Int)) := blk_cell kq 3
          have hlz : B + 2 < wr.heap.size := blk_lt kz
          have cz0 : wr.cell? ⟨B + 2, 0, none⟩ = some (.int .i64 0) := blk_cell kz 0
          have cz1 : wr.cell? ⟨B + 2, 1, none⟩ = some (.int .i64 0) := blk_cell kz 1
          have cz2 : wr.cell? ⟨B + 2, 2, none⟩ = some (.slice none 0 0) := blk_cell kz 2
          have hlO : bO < wr.heap.size := blk_lt kO
          have cO0 : wr.cell? ⟨bO, 0, none⟩ = some (.int .i64 (W : Int)) := blk_cell kO 0
          have cO1 : wr.cell? ⟨bO, 1, none⟩ = some (.int .i64 (H : Int)) := blk_cell kO 1
          have cO2 : wr.cell? ⟨bO, 2, none⟩ = some (.slice (some ⟨g, 0, none⟩) n cg) := blk_cell kO 2
          go_wp2_with fail
          clear cp0 cp1 cp2 cq0 cq1 cq2 cq3 cz0 cz1 cz2 cO0 cO1 cO2 hlp hlq hlz hlO
          refine (unhide HIN _).mono ?_
          rintro e w19 ⟨rfl, hbN⟩
          have HPR := hide ((unhide HPR).below hbN (unhide HPR).lt)
          have hsz := hbN.size
          have kp := blk_below kp hbN (blk_lt kp)
          have kq := blk_below kq hbN (blk_lt kq)
          have kz := blk_below kz hbN (blk_lt kz)
          have kO := blk_below kO hbN (blk_lt kO)
          have HB := hide ((unhide HB).trans (hbN.mono (by omega)))
          have hs : B + 3 ≤ w19.heap.size := by omega
          clear hbN hsz
          go_wp2
          go_roundw
          case rel => exact ⟨k + 1, by omega, by go_num, (by show PR _ _ _ _; rw [unhide HLS]; exact unhide HPR), HB, kp, kq, kz, kO⟩
          case measure => simp [intOf]; omega
    · have c1 : decide ((k : Int) ≤ e3) = false := decide_eq_false (by omega)
      have hkN : k = N + 1 := by omega
      have HF : Hid (PR wr g n (lnP W H X Y q p (N + 1))) := by show PR _ _ _ _; rw [← hkN]; exact unhide HPR
      clear hkN HPR hLN
      have kp := unhide Kp
      have kq := unhide Kq
      have kz := unhide Kz
      have kO := unhide KO
      have hs : B + 3 ≤ wr.heap.size := by have := blk_lt kz; omega
      have r0 := blk_frozen kz 0
      have r1 := blk_frozen kz 1
      have r2 := blk_frozen kz 2
      have hlp : B < wr.heap.size := blk_lt kp
      have cp0 : wr.cell? ⟨B, 0, none⟩ = some (.int .i64 (W : Int)) := blk_cell kp 0
      have cp1 : wr.cell? ⟨B, 1, none⟩ = some (.int .i64 (H : Int)) := blk_cell kp 1
      have cp2 : wr.cell? ⟨B, 2, none⟩ = some (.slice a n c) := blk_cell kp 2
      have hlq : B + 1 < wr.heap.size := blk_lt kq
      have cq0 : wr.cell? ⟨B + 1, 0, none⟩ = some (.int .u8 (q.r.toNat : Int)) := blk_cell kq 0
      have cq1 : wr.cell? ⟨B + 1, 1, none⟩ = some (.int .u8 (q.g.toNat : Int)) := blk_cell kq 1
      have cq2 : wr.cell? ⟨B + 1, 2, none⟩ = some (.int .u8 (q.b.toNat : Int)) := blk_cell kq 2
      have cq3 : wr.cell? ⟨B + 1, 3, none⟩ = some (.int .u8 (q.a.toNat : Int)) := blk_cell kq 3
      have hlz : B + 2 < wr.heap.size := blk_lt kz
      have cz0 : wr.cell? ⟨B + 2, 0, none⟩ = some (.int .i64 0) := blk_cell kz 0
      have cz1 : wr.cell? ⟨B + 2, 1, none⟩ = some (.int .i64 0) := blk_cell kz 1
      have cz2 : wr.cell? ⟨B + 2, 2, none⟩ = some (.slice none 0 0) := blk_cell kz 2
      have hlO : bO < wr.heap.size := blk_lt kO
      have cO0 : wr.cell? ⟨bO, 0, none⟩ = some (.int .i64 (W : Int)) := blk_cell kO 0
      have cO1 : wr.cell? ⟨bO, 1, none⟩ = some (.int .i64 (H : Int)) := blk_cell kO 1
      have cO2 : wr.cell? ⟨bO, 2, none⟩ = some (.slice (some ⟨g, 0, none⟩) n cg) := blk_cell kO 2
      clear kp kq kz kO
      go_wp2
      refine bodyPost_ret (v := .agg #[.int .i64 (W : Int), .int .i64 (H : Int), .slice (some ⟨g, 0, none⟩) n cg]) ?_ rfl ⟨g, cg, rfl, ?_, ?_⟩
      · rw [results_cellP (p := 12) (ty := 26) (by kernel_rfl)]
        go_simp
      · exact (unhide HF).block (by rw [Below.heap_setCell _ _ _ _ (by show g ≠ B + 2; omega), Below.heap_setCell _ _ _ _ (by show g ≠ B + 2; omega), Below.heap_setCell _ _ _ _ (by show g ≠ B + 2; omega)])
      · rw [← unhide HBE]
        exact ((((unhide HB).setCell (p := ⟨B + 2, 0, none⟩) (by show B ≤ B + 2; omega) _).setCell (p := ⟨B + 2, 1, none⟩) (by show B ≤ B + 2; omega) _).setCell (p := ⟨B + 2, 2, none⟩) (by show B ≤ B + 2; omega) _)

end Go.Proofs.YtjhnneplknhmkahDoor
