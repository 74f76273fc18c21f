/- Parts of pictures: the document's. Written by genrl.py. -/
import Derived.Test.YtjhnneplknhmkahDoorRo3
import Derived.Test.YtjhnneplknhmkahDoorRt7
namespace Go.Proofs.YtjhnneplknhmkahDoor
open Go.RowKit

set_option maxHeartbeats 4000000 in
set_option maxRecDepth 100000 in
theorem fillOf_any (W H : Nat) (a : Option Addr) (n c : Nat) (p : Nat → Px) (X Y RW RH : Int) (q : Px) (w : World) (hW0 : 1 ≤ W) (hW : W ≤ 256) (hH0 : 1 ≤ H) (hH : H ≤ 256) (hn : n = W * H) (hP : IsPx w a n p) (hb : Nr X ∧ Nr Y ∧ Nr RW ∧ Nr RH) :
    Calls Tryd.prog 23 #[.agg #[.int .i64 (W : Int), .int .i64 (H : Int), .slice a n c], .agg #[.int .i64 X, .int .i64 Y, .int .i64 RW, .int .i64 RH], q.val] w fun e w' => ∃ g c2, e = .returned (.agg #[.int .i64 (W : Int), .int .i64 (H : Int), .slice (some ⟨g, 0, none⟩) (W * H) c2]) ∧ PR w' g (W * H) (grid W fun x y => if decide (X ≤ (x : Int) ∧ (x : Int) < X + RW ∧ Y ≤ (y : Int) ∧ (y : Int) < Y + RH) then q else p (y * W + x)) ∧ Below w.heap.size w w' := by
  have hn0 : 1 ≤ n := by rw [hn]; exact Nat.mul_le_mul hW0 hH0
  have hn1 : n ≤ 100000 := by rw [hn]; exact Nat.le_trans (Nat.mul_le_mul hW hH) (by omega)
  obtain ⟨N, hN⟩ : ∃ N, N = W * H := ⟨_, rfl⟩
  have HNE : Hid (N = H * W) := by show N = H * W; rw [hN, Nat.mul_comm]
  obtain ⟨G, hG⟩ : ∃ G, G = grid W fun x y => if decide (X ≤ (x : Int) ∧ (x : Int) < X + RW ∧ Y ≤ (y : Int) ∧ (y : Int) < Y + RH) then q else p (y * W + x) := ⟨_, rfl⟩
  have HG : Hid (∀ x y, x < W → G (y * W + x) = if decide (X ≤ (x : Int) ∧ (x : Int) < X + RW ∧ Y ≤ (y : Int) ∧ (y : Int) < Y + RH) then q else p (y * W + x)) := fun x y hx => by rw [hG]; exact grid_at _ _ _ _ hx
  have HNr := hide hb
  rw [← hN, ← hG]
  have hnN : n = N := by rw [hn, hN]
  subst hnN
  have HO := hide (fun w (h : IsPx w a n p) => own_rowP W H a n c p w h hn1 hn0)
  have HPW := hide (fun wr (h : Below w.heap.size w wr) => hP.below h)
  have hNb : n ≤ 65536 := by rw [hn]; exact Nat.mul_le_mul hW hH
  clear hP hn hG hb hn0 hn1 hN
  unfold Px.val
  have HA := hide (al4 w (.cells #[.int .i64 (W : Int), .int .i64 (H : Int), .slice a n c] 26) (.cells #[.int .i64 X, .int .i64 Y, .int .i64 RW, .int .i64 RH] 43) (.cells #[.int .u8 (q.r.toNat : Int), .int .u8 (q.g.toNat : Int), .int .u8 (q.b.toNat : Int), .int .u8 (q.a.toNat : Int)] 23) (.cells #[.int .i64 0, .int .i64 0, .slice none 0 0] 26))
  obtain ⟨B, hB⟩ : ∃ B, B = w.heap.size := ⟨_, rfl⟩
  go_enter Tryd.func23, Tryd.ntmps23
  go_wp2_with fail
  generalize ((((w.alloc (.cells #[.int .i64 (W : Int), .int .i64 (H : Int), .slice a n c] 26)).alloc (.cells #[.int .i64 X, .int .i64 Y, .int .i64 RW, .int .i64 RH] 43)).alloc (.cells #[.int .u8 (q.r.toNat : Int), .int .u8 (q.g.toNat : Int), .int .u8 (q.b.toNat : Int), .int .u8 (q.a.toNat : Int)] 23)).alloc (.cells #[.int .i64 0, .int .i64 0, .slice none 0 0] 26)) = w1 at *
  rw [← hB] at HA ⊢
  obtain ⟨hs1, kp, kr, kq, kz, hb1⟩ := unhide HA
  have HBE := hide hB
  clear HA hB
  have hs : B + 4 ≤ w1.heap.size := by omega
  have HB := hide hb1
  clear hs1 hb1
  have hwB : ∀ wr, Below B w wr → Below w.heap.size w wr := fun wr h => by rw [← unhide HBE]; exact h
  have HWB := hide hwB
  clear hwB
  refine (unhide HO w1 (unhide HPW _ (unhide HWB _ (unhide HB)))).mono ?_
  rintro e w2 ⟨g, cg, rfl, hg, hpr, hbN⟩
  have hgl : B + 4 ≤ g := by omega
  have hsz := hbN.size
  have kp := blk_below kp hbN (blk_lt kp)
  have kr := blk_below kr hbN (blk_lt kr)
  have kq := blk_below kq hbN (blk_lt kq)
  have kz := blk_below kz hbN (blk_lt kz)
  have HB := hide ((unhide HB).trans (hbN.mono (by omega)))
  have hs : B + 4 ≤ w2.heap.size := by omega
  clear hbN hsz
  have hgs : g < w2.heap.size := hpr.lt
  have hlp : B < w2.heap.size := blk_lt kp
  have cp0 : w2.cell? ⟨B, 0, none⟩ = some (.int .i64 (W : Int)) := blk_cell kp 0
  have cp1 : w2.cell? ⟨B, 1, none⟩ = some (.int .i64 (H : Int)) := blk_cell kp 1
  have cp2 : w2.cell? ⟨B, 2, none⟩ = some (.slice a n c) := blk_cell kp 2
  have hlr : B + 1 < w2.heap.size := blk_lt kr
  have cr0 : w2.cell? ⟨B + 1, 0, none⟩ = some (.int .i64 X) := blk_cell kr 0
  have cr1 : w2.cell? ⟨B + 1, 1, none⟩ = some (.int .i64 Y) := blk_cell kr 1
  have cr2 : w2.cell? ⟨B + 1, 2, none⟩ = some (.int .i64 RW) := blk_cell kr 2
  have cr3 : w2.cell? ⟨B + 1, 3, none⟩ = some (.int .i64 RH) := blk_cell kr 3
  have hlq : B + 2 < w2.heap.size := blk_lt kq
  have cq0 : w2.cell? ⟨B + 2, 0, none⟩ = some (.int .u8 (q.r.toNat : Int)) := blk_cell kq 0
  have cq1 : w2.cell? ⟨B + 2, 1, none⟩ = some (.int .u8 (q.g.toNat : Int)) := blk_cell kq 1
  have cq2 : w2.cell? ⟨B + 2, 2, none⟩ = some (.int .u8 (q.b.toNat : Int)) := blk_cell kq 2
  have cq3 : w2.cell? ⟨B + 2, 3, none⟩ = some (.int .u8 (q.a.toNat : Int)) := blk_cell kq 3
  have hlz : B + 3 < w2.heap.size := blk_lt kz
  have cz0 : w2.cell? ⟨B + 3, 0, none⟩ = some (.int .i64 0) := blk_cell kz 0
  have cz1 : w2.cell? ⟨B + 3, 1, none⟩ = some (.int .i64 0) := blk_cell kz 1
  have cz2 : w2.cell? ⟨B + 3, 2, none⟩ = some (.slice none 0 0) := blk_cell kz 2
  have HA := hide (al1 w2 (.cells #[.int .i64 (W : Int), .int .i64 (H : Int), .slice (some ⟨g, 0, none⟩) n cg] 26))
  obtain ⟨bO, heqO⟩ : ∃ b, b = w2.heap.size := ⟨_, rfl⟩
  go_wp2
  clear cp0 cp1 cp2 cr0 cr1 cr2 cr3 cq0 cq1 cq2 cq3 cz0 cz1 cz2 hlp hlr hlq hlz
  have hgO : g < bO := by rw [heqO]; exact hgs
  generalize w2.alloc (.cells #[.int .i64 (W : Int), .int .i64 (H : Int), .slice (some ⟨g, 0, none⟩) n cg] 26) = w3 at *
  rw [← heqO] at HA ⊢
  obtain ⟨hsA, kO, hbA⟩ := unhide HA
  have hblkO := fun j (h : j < bO) => hbA.block j h
  rw [heqO] at hbA
  have ltOp : B < bO := by rw [heqO]; exact blk_lt kp
  have ltOr : B + 1 < bO := by rw [heqO]; exact blk_lt kr
  have ltOq : B + 2 < bO := by rw [heqO]; exact blk_lt kq
  have ltOz : B + 3 < bO := by rw [heqO]; exact blk_lt kz
  have hgB : B ≤ bO := by rw [heqO]; omega
  clear HA
  have hsz := hbA.size
  have kp := blk_below kp hbA (blk_lt kp)
  have kr := blk_below kr hbA (blk_lt kr)
  have kq := blk_below kq hbA (blk_lt kq)
  have kz := blk_below kz hbA (blk_lt kz)
  have HB := hide ((unhide HB).trans (hbA.mono (by omega)))
  have hs : B + 4 ≤ w3.heap.size := by omega
  clear hbA hsz
  clear heqO hsA
  have HPR := hide (hpr.block (hblkO g hgO))
  clear hpr hgs hg hblkO
  have hgB : B ≤ g := by omega
  have Kp := hide kp
  have Kr := hide kr
  have Kq := hide kq
  have Kz := hide kz
  have KO := hide kO
  clear kp kr kq kz kO
  go_loopw [8] (fun yv wr => ∃ y : Nat, y ≤ H ∧ yv = .int .i64 (y : Int) ∧ Hid (PR wr g n (ord G p (y * W))) ∧ Hid (Below B w wr) ∧ Hid (wr.heap[B]? = some (.cells #[.int .i64 (W : Int), .int .i64 (H : Int), .slice a n c] 26)) ∧ Hid (wr.heap[B + 1]? = some (.cells #[.int .i64 X, .int .i64 Y, .int .i64 RW, .int .i64 RH] 43)) ∧ Hid (wr.heap[B + 2]? = some (.cells #[.int .u8 (q.r.toNat : Int), .int .u8 (q.g.toNat : Int), .int .u8 (q.b.toNat : Int), .int .u8 (q.a.toNat : Int)] 23)) ∧ Hid (wr.heap[B + 3]? = some (.cells #[.int .i64 0, .int .i64 0, .slice none 0 0] 26)) ∧ Hid (wr.heap[bO]? = some (.cells #[.int .i64 (W : Int), .int .i64 (H : Int), .slice (some ⟨g, 0, none⟩) n cg] 26))) (fun yv _ => H - (intOf yv).toNat)
  case atStart => exact ⟨0, by omega, rfl, by rw [Nat.zero_mul, ord_zero]; exact HPR, HB, Kp, Kr, Kq, Kz, KO⟩
  case round =>
    clear HPR HB Kp Kr Kq Kz KO hs
    obtain ⟨y, hy, rfl, HPR, HB, Kp, Kr, Kq, Kz, KO⟩ := hrel
    by_cases hly : y < H
    · have d1 : decide ((y : Int) < (H : Int)) = true := by simp; omega
      have d1n : decide (y < H) = true := decide_eq_true hly
      have kp := unhide Kp
      have kr := unhide Kr
      have kq := unhide Kq
      have kz := unhide Kz
      have kO := unhide KO
      have hlp : B < wr.heap.size := blk_lt kp
      have cp0 : wr.cell? ⟨B, 0, none⟩ = some (.int .i64 (W : Int)) := blk_cell kp 0
      have cp1 : wr.cell? ⟨B, 1, none⟩ = some (.int .i64 (H : Int)) := blk_cell kp 1
      have cp2 : wr.cell? ⟨B, 2, none⟩ = some (.slice a n c) := blk_cell kp 2
      have hlr : B + 1 < wr.heap.size := blk_lt kr
      have cr0 : wr.cell? ⟨B + 1, 0, none⟩ = some (.int .i64 X) := blk_cell kr 0
      have cr1 : wr.cell? ⟨B + 1, 1, none⟩ = some (.int .i64 Y) := blk_cell kr 1
      have cr2 : wr.cell? ⟨B + 1, 2, none⟩ = some (.int .i64 RW) := blk_cell kr 2
      have cr3 : wr.cell? ⟨B + 1, 3, none⟩ = some (.int .i64 RH) := blk_cell kr 3
      have hlq : B + 2 < wr.heap.size := blk_lt kq
      have cq0 : wr.cell? ⟨B + 2, 0, none⟩ = some (.int .u8 (q.r.toNat : Int)) := blk_cell kq 0
      have cq1 : wr.cell? ⟨B + 2, 1, none⟩ = some (.int .u8 (q.g.toNat : Int)) := blk_cell kq 1
      have cq2 : wr.cell? ⟨B + 2, 2, none⟩ = some (.int .u8 (q.b.toNat : Int)) := blk_cell kq 2
      have cq3 : wr.cell? ⟨B + 2, 3, none⟩ = some (.int .u8 (q.a.toNat : Int)) := blk_cell kq 3
      have hlz : B + 3 < wr.heap.size := blk_lt kz
      have cz0 : wr.cell? ⟨B + 3, 0, none⟩ = some (.int .i64 0) := blk_cell kz 0
      have cz1 : wr.cell? ⟨B + 3, 1, none⟩ = some (.int .i64 0) := blk_cell kz 1
      have cz2 : wr.cell? ⟨B + 3, 2, none⟩ = some (.slice none 0 0) := blk_cell kz 2
      have hlO : bO < wr.heap.size := blk_lt kO
      have cO0 : wr.cell? ⟨bO, 0, none⟩ = some (.int .i64 (W : Int)) := blk_cell kO 0
      have cO1 : wr.cell? ⟨bO, 1, none⟩ = some (.int .i64 (H : Int)) := blk_cell kO 1
      have cO2 : wr.cell? ⟨bO, 2, none⟩ = some (.slice (some ⟨g, 0, none⟩) n cg) := blk_cell kO 2
      clear kp kr kq kz kO
      go_wp2
      clear cp0 cp1 cp2 cr0 cr1 cr2 cr3 cq0 cq1 cq2 cq3 cz0 cz1 cz2 cO0 cO1 cO2 hlp hlr hlq hlz hlO
      go_loopw [9] (fun xv wr => ∃ x : Nat, x ≤ W ∧ xv = .int .i64 (x : Int) ∧ Hid (PR wr g n (ord G p (y * W + x))) ∧ Hid (Below B w wr) ∧ Hid (wr.heap[B]? = some (.cells #[.int .i64 (W : Int), .int .i64 (H : Int), .slice a n c] 26)) ∧ Hid (wr.heap[B + 1]? = some (.cells #[.int .i64 X, .int .i64 Y, .int .i64 RW, .int .i64 RH] 43)) ∧ Hid (wr.heap[B + 2]? = some (.cells #[.int .u8 (q.r.toNat : Int), .int .u8 (q.g.toNat : Int), .int .u8 (q.b.toNat : Int), .int .u8 (q.a.toNat : Int)] 23)) ∧ Hid (wr.heap[B + 3]? = some (.cells #[.int .i64 0, .int .i64 0, .slice none 0 0] 26)) ∧ Hid (wr.heap[bO]? = some (.cells #[.int .i64 (W : Int), .int .i64 (H : Int), .slice (some ⟨g, 0, none⟩) n cg] 26))) (fun xv _ => W - (intOf xv).toNat)
      case atStart => exact ⟨0, by omega, rfl, HPR, HB, Kp, Kr, Kq, Kz, KO⟩
      case round =>
        clear HPR HB Kp Kr Kq Kz KO
        obtain ⟨x, hx, rfl, HPR, HB, Kp, Kr, Kq, Kz, KO⟩ := hrel
        have kp := unhide Kp
        have kr := unhide Kr
        have kq := unhide Kq
        have kz := unhide Kz
        have kO := unhide KO
        have hlp : B < wr.heap.size := blk_lt kp
        have cp0 : wr.cell? ⟨B, 0, none⟩ = some (.int .i64 (W : Int)) := blk_cell kp 0
        have cp1 : wr.cell? ⟨B, 1, none⟩ = some (.int .i64 (H : Int)) := blk_cell kp 1
        have cp2 : wr.cell? ⟨B, 2, none⟩ = some (.slice a n c) := blk_cell kp 2
        have hlr : B + 1 < wr.heap.size := blk_lt kr
        have cr0 : wr.cell? ⟨B + 1, 0, none⟩ = some (.int .i64 X) := blk_cell kr 0
        have cr1 : wr.cell? ⟨B + 1, 1, none⟩ = some (.int .i64 Y) := blk_cell kr 1
        have cr2 : wr.cell? ⟨B + 1, 2, none⟩ = some (.int .i64 RW) := blk_cell kr 2
        have cr3 : wr.cell? ⟨B + 1, 3, none⟩ = some (.int .i64 RH) := blk_cell kr 3
        have hlq : B + 2 < wr.heap.size := blk_lt kq
        have cq0 : wr.cell? ⟨B + 2, 0, none⟩ = some (.int .u8 (q.r.toNat : Int)) := blk_cell kq 0
        have cq1 : wr.cell? ⟨B + 2, 1, none⟩ = some (.int .u8 (q.g.toNat : Int)) := blk_cell kq 1
        have cq2 : wr.cell? ⟨B + 2, 2, none⟩ = some (.int .u8 (q.b.toNat : Int)) := blk_cell kq 2
        have cq3 : wr.cell? ⟨B + 2, 3, none⟩ = some (.int .u8 (q.a.toNat : Int)) := blk_cell kq 3
        have hlz : B + 3 < wr.heap.size := blk_lt kz
        have cz0 : wr.cell? ⟨B + 3, 0, none⟩ = some (.int .i64 0) := blk_cell kz 0
        have cz1 : wr.cell? ⟨B + 3, 1, none⟩ = some (.int .i64 0) := blk_cell kz 1
        have cz2 : wr.cell? ⟨B + 3, 2, none⟩ = some (.slice none 0 0) := blk_cell kz 2
        have hlO : bO < wr.heap.size := blk_lt kO
        have cO0 : wr.cell? ⟨bO, 0, none⟩ = some (.int .i64 (W : Int)) := blk_cell kO 0
        have cO1 : wr.cell? ⟨bO, 1, none⟩ = some (.int .i64 (H : Int)) := blk_cell kO 1
        have cO2 : wr.cell? ⟨bO, 2, none⟩ = some (.slice (some ⟨g, 0, none⟩) n cg) := blk_cell kO 2
        clear kp kr kq kz kO
        by_cases hlx : x < W
        · have d2 : decide ((x : Int) < (W : Int)) = true := by simp; omega
          have d2n : decide (x < W) = true := decide_eq_true hlx
          have HGi : Hid (G (y * W + x) = if decide (X ≤ (x : Int) ∧ (x : Int) < X + RW ∧ Y ≤ (y : Int) ∧ (y : Int) < Y + RH) then q else p (y * W + x)) := unhide HG x y hlx
          have hiN : y * W + x < n := by rw [unhide HNE, Nat.mul_comm H W]; exact place_lt hlx hly
          obtain ⟨t, ht⟩ : ∃ t, t = y * W := ⟨_, rfl⟩
          have zt : (y : Int) * (W : Int) = (t : Int) := by rw [ht]; simp
          obtain ⟨i, hi⟩ : ∃ k, k = t + x := ⟨_, rfl⟩
          have e0 : (t : Int) + (x : Int) = (i : Int) := by rw [hi]; simp
          have htb : t ≤ 65536 := by rw [ht]; exact Nat.mul_le_mul (show y ≤ 256 by omega) hW
          rw [← ht, ← hi] at HGi hiN
          have wt : IntKind.i64.wrap (t : Int) = (t : Int) := by rw [IntKind.wrap_i64]; omega
          have wi : IntKind.i64.wrap (i : Int) = (i : Int) := by rw [IntKind.wrap_i64]; omega
          have hiI : (i : Int) < (n : Int) := by omega
          have HPR : Hid (PR wr g n (ord G p i)) := by show PR _ _ _ _; rw [hi, ht]; exact unhide HPR
          have HIY : Hid (y * W + (x + 1) = i + 1) := by show _ = _; rw [hi, ht]; omega
          have wx : IntKind.i64.wrap ((x : Int) - X) = (x : Int) - X := by rw [IntKind.wrap_i64]; have := unhide HNr; unfold Nr at this; omega
          have wy : IntKind.i64.wrap ((y : Int) - Y) = (y : Int) - Y := by rw [IntKind.wrap_i64]; have := unhide HNr; unfold Nr at this; omega
          obtain ⟨r, hr⟩ : ∃ r, r = decide (X ≤ (x : Int) ∧ (x : Int) < X + RW ∧ Y ≤ (y : Int) ∧ (y : Int) < Y + RH) := ⟨_, rfl⟩
          rw [← hr] at HGi
          have d : (decide ((x : Int) ≥ X) = false ∧ r = false) ∨ (decide ((x : Int) ≥ X) = true ∧ decide ((x : Int) - X < RW) = false ∧ r = false) ∨ (decide ((x : Int) ≥ X) = true ∧ decide ((x : Int) - X < RW) = true ∧ decide ((y : Int) ≥ Y) = false ∧ r = false) ∨ (decide ((x : Int) ≥ X) = true ∧ decide ((x : Int) - X < RW) = true ∧ decide ((y : Int) ≥ Y) = true ∧ decide ((y : Int) - Y < RH) = false ∧ r = false) ∨ (decide ((x : Int) ≥ X) = true ∧ decide ((x : Int) - X < RW) = true ∧ decide ((y : Int) ≥ Y) = true ∧ decide ((y : Int) - Y < RH) = true ∧ r = true) := by
            subst hr
            simp only [decide_eq_true_eq, decide_eq_false_iff_not]
            omega
          clear hr ht hi
          rcases d with ⟨q1, rfl⟩ | ⟨q1, q2, rfl⟩ | ⟨q1, q2, q3, rfl⟩ | ⟨q1, q2, q3, q4, rfl⟩ | ⟨q1, q2, q3, q4, rfl⟩
          · go_wp2
            go_roundw
            case rel => exact ⟨x + 1, by omega, by go_num, (by show PR _ _ _ (ord _ _ (y * W + (x + 1))); rw [unhide HIY, ← ord_skip _ _ _ ((show G i = p i from unhide HGi).symm)]; exact unhide HPR), HB, Kp, Kr, Kq, Kz, KO⟩
            case measure => simp [intOf]; omega
          · go_wp2
            go_roundw
            case rel => exact ⟨x + 1, by omega, by go_num, (by show PR _ _ _ (ord _ _ (y * W + (x + 1))); rw [unhide HIY, ← ord_skip _ _ _ ((show G i = p i from unhide HGi).symm)]; exact unhide HPR), HB, Kp, Kr, Kq, Kz, KO⟩
            case measure => simp [intOf]; omega
          · go_wp2
            go_roundw
            case rel => exact ⟨x + 1, by omega, by go_num, (by show PR _ _ _ (ord _ _ (y * W + (x + 1))); rw [unhide HIY, ← ord_skip _ _ _ ((show G i = p i from unhide HGi).symm)]; exact unhide HPR), HB, Kp, Kr, Kq, Kz, KO⟩
            case measure => simp [intOf]; omega
          · go_wp2
            go_roundw
            case rel => exact ⟨x + 1, by omega, by go_num, (by show PR _ _ _ (ord _ _ (y * W + (x + 1))); rw [unhide HIY, ← ord_skip _ _ _ ((show G i = p i from unhide HGi).symm)]; exact unhide HPR), HB, Kp, Kr, Kq, Kz, KO⟩
            case measure => simp [intOf]; omega
          · obtain ⟨t0, t1, t2, t3⟩ := (unhide HPR).px i hiN
            have f0 := (unhide HPR).fr (i * 4)
            have f1 := (unhide HPR).fr (i * 4 + 1)
            have f2 := (unhide HPR).fr (i * 4 + 2)
            have f3 := (unhide HPR).fr (i * 4 + 3)
            go_wp2
            go_roundw
            case rel => exact ⟨x + 1, by omega, by go_num, (by show PR _ _ _ (ord _ _ (y * W + (x + 1))); rw [unhide HIY, ← ord_put G p i q ((show G i = q from unhide HGi).symm)]; exact (unhide HPR).put hiN q), put4_below (unhide HB) hgB _, (put4_far _ _ _ _ _ (by omega)).trans (unhide Kp), (put4_far _ _ _ _ _ (by omega)).trans (unhide Kr), (put4_far _ _ _ _ _ (by omega)).trans (unhide Kq), (put4_far _ _ _ _ _ (by omega)).trans (unhide Kz), (put4_far _ _ _ _ _ (by omega)).trans (unhide KO)⟩
            case measure => simp [intOf]; omega
        · obtain rfl : W = x := by omega
          have d2 : decide ((W : Int) < (W : Int)) = false := by simp
          go_wp2
          go_roundw
          case rel => exact ⟨y + 1, by omega, by go_num, by rw [Nat.succ_mul]; exact HPR, HB, Kp, Kr, Kq, Kz, KO⟩
          case measure => simp [intOf]; omega
    · obtain rfl : H = y := by omega
      have d1 : decide ((H : Int) < (H : Int)) = false := by simp
      have kp := unhide Kp
      have kr := unhide Kr
      have kq := unhide Kq
      have kz := unhide Kz
      have kO := unhide KO
      have r0 := blk_frozen kz 0
      have r1 := blk_frozen kz 1
      have r2 := blk_frozen kz 2
      have hlp : B < wr.heap.size := blk_lt kp
      have cp0 : wr.cell? ⟨B, 0, none⟩ = some (.int .i64 (W : Int)) := blk_cell kp 0
      have cp1 : wr.cell? ⟨B, 1, none⟩ = some (.int .i64 (H : Int)) := blk_cell kp 1
      have cp2 : wr.cell? ⟨B, 2, none⟩ = some (.slice a n c) := blk_cell kp 2
      have hlr : B + 1 < wr.heap.size := blk_lt kr
      have cr0 : wr.cell? ⟨B + 1, 0, none⟩ = some (.int .i64 X) := blk_cell kr 0
      have cr1 : wr.cell? ⟨B + 1, 1, none⟩ = some (.int .i64 Y) := blk_cell kr 1
      have cr2 : wr.cell? ⟨B + 1, 2, none⟩ = some (.int .i64 RW) := blk_cell kr 2
      have cr3 : wr.cell? ⟨B + 1, 3, none⟩ = some (.int .i64 RH) := blk_cell kr 3
      have hlq : B + 2 < wr.heap.size := blk_lt kq
      have cq0 : wr.cell? ⟨B + 2, 0, none⟩ = some (.int .u8 (q.r.toNat : Int)) := blk_cell kq 0
      have cq1 : wr.cell? ⟨B + 2, 1, none⟩ = some (.int .u8 (q.g.toNat : Int)) := blk_cell kq 1
      have cq2 : wr.cell? ⟨B + 2, 2, none⟩ = some (.int .u8 (q.b.toNat : Int)) := blk_cell kq 2
      have cq3 : wr.cell? ⟨B + 2, 3, none⟩ = some (.int .u8 (q.a.toNat : Int)) := blk_cell kq 3
      have hlz : B + 3 < wr.heap.size := blk_lt kz
      have cz0 : wr.cell? ⟨B + 3, 0, none⟩ = some (.int .i64 0) := blk_cell kz 0
      have cz1 : wr.cell? ⟨B + 3, 1, none⟩ = some (.int .i64 0) := blk_cell kz 1
      have cz2 : wr.cell? ⟨B + 3, 2, none⟩ = some (.slice none 0 0) := blk_cell kz 2
      have hlO : bO < wr.heap.size := blk_lt kO
      have cO0 : wr.cell? ⟨bO, 0, none⟩ = some (.int .i64 (W : Int)) := blk_cell kO 0
      have cO1 : wr.cell? ⟨bO, 1, none⟩ = some (.int .i64 (H : Int)) := blk_cell kO 1
      have cO2 : wr.cell? ⟨bO, 2, none⟩ = some (.slice (some ⟨g, 0, none⟩) n cg) := blk_cell kO 2
      have HF : Hid (PR wr g n G) := ord_all (by have h := unhide HPR; rw [← unhide HNE] at h; exact h)
      clear HPR kp kr kq kz kO
      go_wp2
      refine bodyPost_ret (v := .agg #[.int .i64 (W : Int), .int .i64 (H : Int), .slice (some ⟨g, 0, none⟩) n cg]) ?_ rfl ⟨g, cg, rfl, ?_, ?_⟩
      · rw [results_cellP (p := 6) (ty := 26) (by kernel_rfl)]
        go_simp
      · exact (unhide HF).block (by rw [Below.heap_setCell _ _ _ _ (by show g ≠ B + 3; omega), Below.heap_setCell _ _ _ _ (by show g ≠ B + 3; omega), Below.heap_setCell _ _ _ _ (by show g ≠ B + 3; omega)])
      · rw [← unhide HBE]
        exact ((((unhide HB).setCell (p := ⟨B + 3, 0, none⟩) (by show B ≤ B + 3; omega) _).setCell (p := ⟨B + 3, 1, none⟩) (by show B ≤ B + 3; omega) _).setCell (p := ⟨B + 3, 2, none⟩) (by show B ≤ B + 3; omega) _)

end Go.Proofs.YtjhnneplknhmkahDoor
