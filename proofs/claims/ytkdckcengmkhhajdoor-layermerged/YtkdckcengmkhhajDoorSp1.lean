/- A picture stamped on another one: the document's. Written by genrl.py. -/
import Derived.Test.YtkdckcengmkhhajDoorMg12
import Derived.Test.YtkdckcengmkhhajDoorMg11
import Derived.Test.YtkdckcengmkhhajDoorOo3
namespace Go.Proofs.YtkdckcengmkhhajDoor
open Go.RowKit

/-- A pixel of a picture that is stamped. -/
def stG (W QW QH mo : Nat) (X Y : Int) (p s : Nat → Px) (x y : Nat) : Px := if decide (X ≤ (x : Int) ∧ (x : Int) < X + (QW : Int) ∧ Y ≤ (y : Int) ∧ (y : Int) < Y + (QH : Int)) then overP mo (s (((y : Int) - Y).toNat * QW + ((x : Int) - X).toNat)) (p (y * W + x)) else p (y * W + x)
theorem bel_base {B : Nat} {w C wx : World} (h : Below B w C) (hB : B ≤ C.heap.size) (hb : Below C.heap.size C wx) : Below B w wx := h.trans (hb.mono hB)

set_option maxHeartbeats 4000000 in
set_option maxRecDepth 100000 in
theorem stampOf_any (W H QW QH mo : Nat) (X Y : Int) (a b : Option Addr) (n c m d : Nat) (p s : Nat → Px) (w : World) (hW0 : 1 ≤ W) (hW : W ≤ 256) (hH0 : 1 ≤ H) (hH : H ≤ 256) (hn : n = W * H) (hP : IsPx w a n p) (hQW : QW ≤ 256) (hQH : QH ≤ 256) (hm : m = QW * QH) (hQ : IsPx w b m s) (hmo : mo ≤ 5) (hxy : Nr X ∧ Nr Y) :
    Calls Tryd.prog 45 #[.agg #[.int .i64 (W : Int), .int .i64 (H : Int), .slice a n c], .agg #[.int .i64 (QW : Int), .int .i64 (QH : Int), .slice b m d], .int .i64 X, .int .i64 Y, .int .i64 (mo : Int)] w fun e w' => ∃ g c2, e = .returned (.agg #[.int .i64 (W : Int), .int .i64 (H : Int), .slice (some ⟨g, 0, none⟩) (W * H) c2]) ∧ PR w' g (W * H) (grid W fun x y => stG W QW QH mo X Y p s x y) ∧ Below w.heap.size w w' := by
  have hn0 : 1 ≤ n := by rw [hn]; exact Nat.mul_le_mul hW0 hH0
  have hn1 : n ≤ 100000 := by rw [hn]; exact Nat.le_trans (Nat.mul_le_mul hW hH) (by omega)
  have HNW := hide hn
  have HMW := hide hm
  obtain ⟨N, hN⟩ : ∃ N, N = W * H := ⟨_, rfl⟩
  have HNE : Hid (n = H * W) := by show n = H * W; rw [hn, Nat.mul_comm]
  obtain ⟨G, hG⟩ : ∃ G, G = grid W fun x y => stG W QW QH mo X Y p s x y := ⟨_, rfl⟩
  have HG : Hid (∀ x y, x < W → G (y * W + x) = stG W QW QH mo X Y p s x y) := fun x y hx => by rw [hG]; exact grid_at W (fun x y => stG W QW QH mo X Y p s x y) x y hx
  have HNr := hide hxy
  rw [← hN, ← hG]
  have hnN : n = N := by rw [hn, hN]
  subst hnN
  have HO := hide (fun w (h : IsPx w a n p) => own_rowP W H a n c p w h hn1 hn0)
  have HPW := hide (fun wr (h : Below w.heap.size w wr) => hP.below h)
  have HQW := hide (fun wr (h : Below w.heap.size w wr) => hQ.below h)
  have hNb : n ≤ 65536 := by rw [hn]; exact Nat.mul_le_mul hW hH
  clear hP hQ hn hm hG hxy hn0 hn1 hN
  have HA := hide (al3 w (.cells #[.int .i64 (W : Int), .int .i64 (H : Int), .slice a n c] 32) (.cells #[.int .i64 (QW : Int), .int .i64 (QH : Int), .slice b m d] 32) (.cells #[.int .i64 0, .int .i64 0, .slice none 0 0] 32))
  obtain ⟨B, hB⟩ : ∃ B, B = w.heap.size := ⟨_, rfl⟩
  go_enter Tryd.func45, Tryd.ntmps45
  go_wp2_with fail
  generalize (((w.alloc (.cells #[.int .i64 (W : Int), .int .i64 (H : Int), .slice a n c] 32)).alloc (.cells #[.int .i64 (QW : Int), .int .i64 (QH : Int), .slice b m d] 32)).alloc (.cells #[.int .i64 0, .int .i64 0, .slice none 0 0] 32)) = w1 at *
  rw [← hB] at HA ⊢
  obtain ⟨hs1, kp, kq, kz, hb1⟩ := unhide HA
  have HBE := hide hB
  clear HA hB
  have hs : B + 3 ≤ w1.heap.size := by omega
  have HB := hide hb1
  clear hs1 hb1
  have hwB : ∀ wr, Below B w wr → Below w.heap.size w wr := fun wr h => by rw [← unhide HBE]; exact h
  have HWB := hide hwB
  clear hwB
  refine (unhide HO w1 (unhide HPW _ (unhide HWB _ (unhide HB)))).mono ?_
  rintro e w2 ⟨g, cg, rfl, hg, hpr, hbN⟩
  have hgl : B + 3 ≤ g := by omega
  have hsz := hbN.size
  have kp := blk_below kp hbN (blk_lt kp)
  have kq := blk_below kq hbN (blk_lt kq)
  have kz := blk_below kz hbN (blk_lt kz)
  have HB := hide ((unhide HB).trans (hbN.mono (by omega)))
  have hs : B + 3 ≤ w2.heap.size := by omega
  clear hbN hsz
  have hgs : g < w2.heap.size := hpr.lt
  have hlp : B < w2.heap.size := blk_lt kp
  have cp0 : w2.cell? ⟨B, 0, none⟩ = some (.int .i64 (W : Int)) := blk_cell kp 0
  have cp1 : w2.cell? ⟨B, 1, none⟩ = some (.int .i64 (H : Int)) := blk_cell kp 1
  have cp2 : w2.cell? ⟨B, 2, none⟩ = some (.slice a n c) := blk_cell kp 2
  have hlq : B + 1 < w2.heap.size := blk_lt kq
  have cq0 : w2.cell? ⟨B + 1, 0, none⟩ = some (.int .i64 (QW : Int)) := blk_cell kq 0
  have cq1 : w2.cell? ⟨B + 1, 1, none⟩ = some (.int .i64 (QH : Int)) := blk_cell kq 1
  have cq2 : w2.cell? ⟨B + 1, 2, none⟩ = some (.slice b m d) := blk_cell kq 2
  have hlz : B + 2 < w2.heap.size := blk_lt kz
  have cz0 : w2.cell? ⟨B + 2, 0, none⟩ = some (.int .i64 0) := blk_cell kz 0
  have cz1 : w2.cell? ⟨B + 2, 1, none⟩ = some (.int .i64 0) := blk_cell kz 1
  have cz2 : w2.cell? ⟨B + 2, 2, none⟩ = some (.slice none 0 0) := blk_cell kz 2
  have HA := hide (al1 w2 (.cells #[.int .i64 (W : Int), .int .i64 (H : Int), .slice (some ⟨g, 0, none⟩) n cg] 32))
  obtain ⟨bO, heqO⟩ : ∃ b, b = w2.heap.size := ⟨_, rfl⟩
  go_wp2
  clear cp0 cp1 cp2 cq0 cq1 cq2 cz0 cz1 cz2 hlp hlq hlz
  have hgO : g < bO := by rw [heqO]; exact hgs
  generalize w2.alloc (.cells #[.int .i64 (W : Int), .int .i64 (H : Int), .slice (some ⟨g, 0, none⟩) n cg] 32) = w3 at *
  rw [← heqO] at HA ⊢
  obtain ⟨hsA, kO, hbA⟩ := unhide HA
  have hblkO := fun j (h : j < bO) => hbA.block j h
  rw [heqO] at hbA
  have ltOp : B < bO := by rw [heqO]; exact blk_lt kp
  have ltOq : B + 1 < bO := by rw [heqO]; exact blk_lt kq
  have ltOz : B + 2 < bO := by rw [heqO]; exact blk_lt kz
  have hgB : B ≤ bO := by rw [heqO]; omega
  clear HA
  have hsz := hbA.size
  have kp := blk_below kp hbA (blk_lt kp)
  have kq := blk_below kq hbA (blk_lt kq)
  have kz := blk_below kz hbA (blk_lt kz)
  have HB := hide ((unhide HB).trans (hbA.mono (by omega)))
  have hs : B + 3 ≤ w3.heap.size := by omega
  clear hbA hsz
  clear heqO hsA
  have HPR := hide (hpr.block (hblkO g hgO))
  clear hpr hgs hg hblkO
  have hgB : B ≤ g := by omega
  have Kp := hide kp
  have Kq := hide kq
  have Kz := hide kz
  have KO := hide kO
  clear kp kq kz kO
  go_loopw [12] (fun yv wr => ∃ y : Nat, y ≤ H ∧ yv = .int .i64 (y : Int) ∧ Hid (PR wr g n (ord G p (y * W))) ∧ Hid (Below B w wr) ∧ Hid (wr.heap[B]? = some (.cells #[.int .i64 (W : Int), .int .i64 (H : Int), .slice a n c] 32)) ∧ Hid (wr.heap[B + 1]? = some (.cells #[.int .i64 (QW : Int), .int .i64 (QH : Int), .slice b m d] 32)) ∧ Hid (wr.heap[B + 2]? = some (.cells #[.int .i64 0, .int .i64 0, .slice none 0 0] 32)) ∧ Hid (wr.heap[bO]? = some (.cells #[.int .i64 (W : Int), .int .i64 (H : Int), .slice (some ⟨g, 0, none⟩) n cg] 32))) (fun yv _ => H - (intOf yv).toNat)
  case atStart => exact ⟨0, by omega, rfl, by rw [Nat.zero_mul, ord_zero]; exact HPR, HB, Kp, Kq, Kz, KO⟩
  case round =>
    clear HPR HB Kp Kq Kz KO hs
    obtain ⟨y, hy, rfl, HPR, HB, Kp, Kq, Kz, KO⟩ := hrel
    by_cases hly : y < H
    · have d1 : decide ((y : Int) < (H : Int)) = true := by simp; omega
      have d1n : decide (y < H) = true := decide_eq_true hly
      have kp := unhide Kp
      have kq := unhide Kq
      have kz := unhide Kz
      have kO := unhide KO
      have hlp : B < wr.heap.size := blk_lt kp
      have cp0 : wr.cell? ⟨B, 0, none⟩ = some (.int .i64 (W : Int)) := blk_cell kp 0
      have cp1 : wr.cell? ⟨B, 1, none⟩ = some (.int .i64 (H : Int)) := blk_cell kp 1
      have cp2 : wr.cell? ⟨B, 2, none⟩ = some (.slice a n c) := blk_cell kp 2
      have hlq : B + 1 < wr.heap.size := blk_lt kq
      have cq0 : wr.cell? ⟨B + 1, 0, none⟩ = some (.int .i64 (QW : Int)) := blk_cell kq 0
      have cq1 : wr.cell? ⟨B + 1, 1, none⟩ = some (.int .i64 (QH : Int)) := blk_cell kq 1
      have cq2 : wr.cell? ⟨B + 1, 2, none⟩ = some (.slice b m d) := blk_cell kq 2
      have hlz : B + 2 < wr.heap.size := blk_lt kz
      have cz0 : wr.cell? ⟨B + 2, 0, none⟩ = some (.int .i64 0) := blk_cell kz 0
      have cz1 : wr.cell? ⟨B + 2, 1, none⟩ = some (.int .i64 0) := blk_cell kz 1
      have cz2 : wr.cell? ⟨B + 2, 2, none⟩ = some (.slice none 0 0) := blk_cell kz 2
      have hlO : bO < wr.heap.size := blk_lt kO
      have cO0 : wr.cell? ⟨bO, 0, none⟩ = some (.int .i64 (W : Int)) := blk_cell kO 0
      have cO1 : wr.cell? ⟨bO, 1, none⟩ = some (.int .i64 (H : Int)) := blk_cell kO 1
      have cO2 : wr.cell? ⟨bO, 2, none⟩ = some (.slice (some ⟨g, 0, none⟩) n cg) := blk_cell kO 2
      clear kp kq kz kO
      go_wp2
      clear cp0 cp1 cp2 cq0 cq1 cq2 cz0 cz1 cz2 cO0 cO1 cO2 hlp hlq hlz hlO
      go_loopw [13] (fun xv wr => ∃ x : Nat, x ≤ W ∧ xv = .int .i64 (x : Int) ∧ Hid (PR wr g n (ord G p (y * W + x))) ∧ Hid (Below B w wr) ∧ Hid (wr.heap[B]? = some (.cells #[.int .i64 (W : Int), .int .i64 (H : Int), .slice a n c] 32)) ∧ Hid (wr.heap[B + 1]? = some (.cells #[.int .i64 (QW : Int), .int .i64 (QH : Int), .slice b m d] 32)) ∧ Hid (wr.heap[B + 2]? = some (.cells #[.int .i64 0, .int .i64 0, .slice none 0 0] 32)) ∧ Hid (wr.heap[bO]? = some (.cells #[.int .i64 (W : Int), .int .i64 (H : Int), .slice (some ⟨g, 0, none⟩) n cg] 32))) (fun xv _ => W - (intOf xv).toNat)
      case atStart => exact ⟨0, by omega, rfl, HPR, HB, Kp, Kq, Kz, KO⟩
      case round =>
        clear HPR HB Kp Kq Kz KO
        obtain ⟨x, hx, rfl, HPR, HB, Kp, Kq, Kz, KO⟩ := hrel
        have kp := unhide Kp
        have kq := unhide Kq
        have kz := unhide Kz
        have kO := unhide KO
        have hlp : B < wr.heap.size := blk_lt kp
        have cp0 : wr.cell? ⟨B, 0, none⟩ = some (.int .i64 (W : Int)) := blk_cell kp 0
        have cp1 : wr.cell? ⟨B, 1, none⟩ = some (.int .i64 (H : Int)) := blk_cell kp 1
        have cp2 : wr.cell? ⟨B, 2, none⟩ = some (.slice a n c) := blk_cell kp 2
        have hlq : B + 1 < wr.heap.size := blk_lt kq
        have cq0 : wr.cell? ⟨B + 1, 0, none⟩ = some (.int .i64 (QW : Int)) := blk_cell kq 0
        have cq1 : wr.cell? ⟨B + 1, 1, none⟩ = some (.int .i64 (QH : Int)) := blk_cell kq 1
        have cq2 : wr.cell? ⟨B + 1, 2, none⟩ = some (.slice b m d) := blk_cell kq 2
        have hlz : B + 2 < wr.heap.size := blk_lt kz
        have cz0 : wr.cell? ⟨B + 2, 0, none⟩ = some (.int .i64 0) := blk_cell kz 0
        have cz1 : wr.cell? ⟨B + 2, 1, none⟩ = some (.int .i64 0) := blk_cell kz 1
        have cz2 : wr.cell? ⟨B + 2, 2, none⟩ = some (.slice none 0 0) := blk_cell kz 2
        have hlO : bO < wr.heap.size := blk_lt kO
        have cO0 : wr.cell? ⟨bO, 0, none⟩ = some (.int .i64 (W : Int)) := blk_cell kO 0
        have cO1 : wr.cell? ⟨bO, 1, none⟩ = some (.int .i64 (H : Int)) := blk_cell kO 1
        have cO2 : wr.cell? ⟨bO, 2, none⟩ = some (.slice (some ⟨g, 0, none⟩) n cg) := blk_cell kO 2
        clear kp kq kz kO
        by_cases hlx : x < W
        · have d2 : decide ((x : Int) < (W : Int)) = true := by simp; omega
          have d2n : decide (x < W) = true := decide_eq_true hlx
          have HGi : Hid (G (y * W + x) = stG W QW QH mo X Y p s x y) := unhide HG x y hlx
          have hiN : y * W + x < n := by rw [unhide HNE, Nat.mul_comm H W]; exact place_lt hlx hly
          obtain ⟨t, ht⟩ : ∃ t, t = y * W := ⟨_, rfl⟩
          have zt : (y : Int) * (W : Int) = (t : Int) := by rw [ht]; simp
          obtain ⟨i, hi⟩ : ∃ k, k = t + x := ⟨_, rfl⟩
          have e0 : (t : Int) + (x : Int) = (i : Int) := by rw [hi]; simp
          have htb : t ≤ 65536 := by rw [ht]; exact Nat.mul_le_mul (show y ≤ 256 by omega) hW
          have HPv : Hid (G (y * W + x) = if decide (X ≤ (x : Int) ∧ (x : Int) < X + (QW : Int) ∧ Y ≤ (y : Int) ∧ (y : Int) < Y + (QH : Int)) then overP mo (s (((y : Int) - Y).toNat * QW + ((x : Int) - X).toNat)) (p (y * W + x)) else p (y * W + x)) := unhide HGi
          have HATp := hide (fun wq (h : Below B w wq) => dat_any W H x y a n c p wq (unhide HPW _ (unhide HWB _ h)) hW hH hlx hly (unhide HNW))
          rw [← ht, ← hi] at HPv hiN HATp
          have wrt : IntKind.i64.wrap (t : Int) = (t : Int) := by rw [IntKind.wrap_i64]; omega
          have wri : IntKind.i64.wrap (i : Int) = (i : Int) := by rw [IntKind.wrap_i64]; omega
          have hiI : (i : Int) < (n : Int) := by omega
          have HPR : Hid (PR wr g n (ord G p i)) := by show PR _ _ _ _; rw [hi, ht]; exact unhide HPR
          have HIY : Hid (y * W + (x + 1) = i + 1) := by show _ = _; rw [hi, ht]; omega
          have hNX := unhide HNr
          unfold Nr at hNX
          obtain ⟨dx, hdx⟩ : ∃ d, d = (x : Int) - X := ⟨_, rfl⟩
          obtain ⟨dy, hdy⟩ : ∃ d, d = (y : Int) - Y := ⟨_, rfl⟩
          have zx : (x : Int) - X = dx := hdx.symm
          have zy : (y : Int) - Y = dy := hdy.symm
          have wdx : IntKind.i64.wrap dx = dx := by rw [IntKind.wrap_i64]; omega
          have wdy : IntKind.i64.wrap dy = dy := by rw [IntKind.wrap_i64]; omega
          have HIN := hide (fun w => inP_any QW QH dx dy b m d w)
          by_cases hin : 0 ≤ dx ∧ 0 ≤ dy ∧ dx < (QW : Int) ∧ dy < (QH : Int)
          · rw [decide_eq_true hin] at HIN
            rw [decide_eq_true (show (X ≤ (x : Int) ∧ (x : Int) < X + (QW : Int) ∧ Y ≤ (y : Int) ∧ (y : Int) < Y + (QH : Int)) by omega)] at HPv
            rw [if_pos rfl, ← hdx, ← hdy] at HPv
            obtain ⟨sx, rfl⟩ := Int.eq_ofNat_of_zero_le hin.1
            obtain ⟨sy, rfl⟩ := Int.eq_ofNat_of_zero_le hin.2.1
            rw [Int.toNat_natCast, Int.toNat_natCast] at HPv
            have HATq := hide (fun wq (h : Below B w wq) => dat_any QW QH sx sy b m d s wq (unhide HQW _ (unhide HWB _ h)) hQW hQH (by omega) (by omega) (unhide HMW))
            have HOO := hide (fun w => overOf_any mo (s (sy * QW + sx)) (p i) w hmo)
            generalize s (sy * QW + sx) = sv at *
            generalize hpi : p i = pv at *
            generalize overP mo sv pv = V at *
            unfold Px.val at HATq HATp HOO
            clear hin hpi
            clear ht hi hdx hdy hNX HGi
            go_wp2_with fail
            refine (unhide HIN _).mono ?_
            rintro e w5 ⟨rfl, hb5⟩
            clear cp0 cp1 cp2 cq0 cq1 cq2 cz0 cz1 cz2 cO0 cO1 cO2 hlp hlq hlz hlO
            have HPR := hide ((unhide HPR).below hb5 (unhide HPR).lt)
            have Kp := hide (blk_below (unhide Kp) hb5 (blk_lt (unhide Kp)))
            have Kq := hide (blk_below (unhide Kq) hb5 (blk_lt (unhide Kq)))
            have Kz := hide (blk_below (unhide Kz) hb5 (blk_lt (unhide Kz)))
            have KO := hide (blk_below (unhide KO) hb5 (blk_lt (unhide KO)))
            have hBw : B ≤ wr.heap.size := by have := (unhide HB).size; have := unhide HBE; omega
            have HB := hide (bel_base (unhide HB) hBw hb5)
            have hB5 : B ≤ w5.heap.size := Nat.le_trans hBw hb5.size
            clear hb5 HIN
            have kp := unhide Kp
            have kq := unhide Kq
            have kz := unhide Kz
            have kO := unhide KO
            have hlp : B < w5.heap.size := blk_lt kp
            have cp0 : w5.cell? ⟨B, 0, none⟩ = some (.int .i64 (W : Int)) := blk_cell kp 0
            have cp1 : w5.cell? ⟨B, 1, none⟩ = some (.int .i64 (H : Int)) := blk_cell kp 1
            have cp2 : w5.cell? ⟨B, 2, none⟩ = some (.slice a n c) := blk_cell kp 2
            have hlq : B + 1 < w5.heap.size := blk_lt kq
            have cq0 : w5.cell? ⟨B + 1, 0, none⟩ = some (.int .i64 (QW : Int)) := blk_cell kq 0
            have cq1 : w5.cell? ⟨B + 1, 1, none⟩ = some (.int .i64 (QH : Int)) := blk_cell kq 1
            have cq2 : w5.cell? ⟨B + 1, 2, none⟩ = some (.slice b m d) := blk_cell kq 2
            have hlz : B + 2 < w5.heap.size := blk_lt kz
            have cz0 : w5.cell? ⟨B + 2, 0, none⟩ = some (.int .i64 0) := blk_cell kz 0
            have cz1 : w5.cell? ⟨B + 2, 1, none⟩ = some (.int .i64 0) := blk_cell kz 1
            have cz2 : w5.cell? ⟨B + 2, 2, none⟩ = some (.slice none 0 0) := blk_cell kz 2
            have hlO : bO < w5.heap.size := blk_lt kO
            have cO0 : w5.cell? ⟨bO, 0, none⟩ = some (.int .i64 (W : Int)) := blk_cell kO 0
            have cO1 : w5.cell? ⟨bO, 1, none⟩ = some (.int .i64 (H : Int)) := blk_cell kO 1
            have cO2 : w5.cell? ⟨bO, 2, none⟩ = some (.slice (some ⟨g, 0, none⟩) n cg) := blk_cell kO 2
            clear kp kq kz kO
            go_wp2
            have np : g ≠ B := by omega
            have mp : B ≠ g := by omega
            have nq : g ≠ B + 1 := by omega
            have mq : B + 1 ≠ g := by omega
            have nz : g ≠ B + 2 := by omega
            have mz : B + 2 ≠ g := by omega
            have nO : g ≠ bO := by omega
            have mO : bO ≠ g := by omega
            have hdr := (Below.refl w5.heap.size w5).drew
            have hgw : g < w5.heap.size := (unhide HPR).lt
            have hKS := hide (fun wx (h : Below w5.heap.size w5 wx) => (⟨bcell h hlp cp0, bcell h hlp cp1, bcell h hlp cp2, bcell h hlq cq0, bcell h hlq cq1, bcell h hlq cq2, bcell h hlO cO0, bcell h hlO cO1, bcell h hlO cO2⟩ : wx.cell? ⟨B, 0, none⟩ = some (.int .i64 (W : Int)) ∧ wx.cell? ⟨B, 1, none⟩ = some (.int .i64 (H : Int)) ∧ wx.cell? ⟨B, 2, none⟩ = some (.slice a n c) ∧ wx.cell? ⟨B + 1, 0, none⟩ = some (.int .i64 (QW : Int)) ∧ wx.cell? ⟨B + 1, 1, none⟩ = some (.int .i64 (QH : Int)) ∧ wx.cell? ⟨B + 1, 2, none⟩ = some (.slice b m d) ∧ wx.cell? ⟨bO, 0, none⟩ = some (.int .i64 (W : Int)) ∧ wx.cell? ⟨bO, 1, none⟩ = some (.int .i64 (H : Int)) ∧ wx.cell? ⟨bO, 2, none⟩ = some (.slice (some ⟨g, 0, none⟩) n cg)))
            go_region_held (fun w' => w'.cell? ⟨B, 0, none⟩ = some (.int .i64 (W : Int)) ∧ w'.cell? ⟨B, 1, none⟩ = some (.int .i64 (H : Int)) ∧ w'.cell? ⟨B, 2, none⟩ = some (.slice a n c) ∧ w'.cell? ⟨B + 1, 0, none⟩ = some (.int .i64 (QW : Int)) ∧ w'.cell? ⟨B + 1, 1, none⟩ = some (.int .i64 (QH : Int)) ∧ w'.cell? ⟨B + 1, 2, none⟩ = some (.slice b m d) ∧ w'.cell? ⟨bO, 0, none⟩ = some (.int .i64 (W : Int)) ∧ w'.cell? ⟨bO, 1, none⟩ = some (.int .i64 (H : Int)) ∧ w'.cell? ⟨bO, 2, none⟩ = some (.slice (some ⟨g, 0, none⟩) n cg)) (first | with_reducible exact ⟨(far4g _ _ _ _ _ _ _ _ _ _ _ _ np).trans (bcell hqo hlp cp0), (far4g _ _ _ _ _ _ _ _ _ _ _ _ np).trans (bcell hqo hlp cp1), (far4g _ _ _ _ _ _ _ _ _ _ _ _ np).trans (bcell hqo hlp cp2), (far4g _ _ _ _ _ _ _ _ _ _ _ _ nq).trans (bcell hqo hlq cq0), (far4g _ _ _ _ _ _ _ _ _ _ _ _ nq).trans (bcell hqo hlq cq1), (far4g _ _ _ _ _ _ _ _ _ _ _ _ nq).trans (bcell hqo hlq cq2), (far4g _ _ _ _ _ _ _ _ _ _ _ _ nO).trans (bcell hqo hlO cO0), (far4g _ _ _ _ _ _ _ _ _ _ _ _ nO).trans (bcell hqo hlO cO1), (far4g _ _ _ _ _ _ _ _ _ _ _ _ nO).trans (bcell hqo hlO cO2)⟩ | exact unhide hKS _ (by (first | with_reducible exact hqo | with_reducible exact hqq | with_reducible exact hqp | with_reducible exact hdr))) (first | (go_at_call_of 68 b; refine (unhide HATq _ (bel_base (unhide HB) hB5 (by (first | with_reducible exact hqo | with_reducible exact hqq | with_reducible exact hqp | with_reducible exact hdr)))).mono ?_; rintro e wq ⟨rfl, hbq⟩; have hqq := bel_trans (w := w5) (by (first | with_reducible exact hqo | with_reducible exact hqq | with_reducible exact hqp | with_reducible exact hdr)) hbq) | (go_at_call_of 68 a; refine (unhide HATp _ (bel_base (unhide HB) hB5 (by (first | with_reducible exact hqo | with_reducible exact hqq | with_reducible exact hqp | with_reducible exact hdr)))).mono ?_; rintro e wp ⟨rfl, hbp⟩; have hqp := bel_trans (w := w5) (by (first | with_reducible exact hqo | with_reducible exact hqq | with_reducible exact hqp | with_reducible exact hdr)) hbp) | (go_at_call 67; refine (unhide HOO _).mono ?_; rintro e wo ⟨rfl, hbo⟩; have hqo := bel_trans (w := w5) (by (first | with_reducible exact hqo | with_reducible exact hqq | with_reducible exact hqp | with_reducible exact hdr)) hbo; have HR1 := hide ((unhide HPR).below hqo hgw); obtain ⟨t0, t1, t2, t3⟩ := (unhide HR1).px i hiN; have f0 := (unhide HR1).fr (i * 4); have f1 := (unhide HR1).fr (i * 4 + 1); have f2 := (unhide HR1).fr (i * 4 + 2); have f3 := (unhide HR1).fr (i * 4 + 3)))
            all_goals
              have HB1 := hide (bel_base (unhide HB) hB5 hqo)
              go_wp2
              go_roundw
              case rel => exact ⟨x + 1, by omega, by go_num, (by show PR _ _ _ (ord _ _ (y * W + (x + 1))); rw [unhide HIY, ← ord_put G p i V (unhide HPv).symm]; exact (unhide HR1).put hiN V), put4_below (unhide HB1) hgB _, (put4_far _ _ _ _ _ mp).trans ((hqo.block _ (blk_lt (unhide Kp))).trans (unhide Kp)), (put4_far _ _ _ _ _ mq).trans ((hqo.block _ (blk_lt (unhide Kq))).trans (unhide Kq)), (put4_far _ _ _ _ _ mz).trans ((hqo.block _ (blk_lt (unhide Kz))).trans (unhide Kz)), (put4_far _ _ _ _ _ mO).trans ((hqo.block _ (blk_lt (unhide KO))).trans (unhide KO))⟩
              case measure => simp [intOf]; omega
          · rw [decide_eq_false hin] at HIN
            rw [decide_eq_false (show ¬ (X ≤ (x : Int) ∧ (x : Int) < X + (QW : Int) ∧ Y ≤ (y : Int) ∧ (y : Int) < Y + (QH : Int)) by omega)] at HPv
            rw [if_neg (by decide)] at HPv
            clear hin
            clear ht hi hdx hdy hNX HGi
            go_wp2_with fail
            refine (unhide HIN _).mono ?_
            rintro e w5 ⟨rfl, hb5⟩
            clear cp0 cp1 cp2 cq0 cq1 cq2 cz0 cz1 cz2 cO0 cO1 cO2 hlp hlq hlz hlO
            have HPR := hide ((unhide HPR).below hb5 (unhide HPR).lt)
            have Kp := hide (blk_below (unhide Kp) hb5 (blk_lt (unhide Kp)))
            have Kq := hide (blk_below (unhide Kq) hb5 (blk_lt (unhide Kq)))
            have Kz := hide (blk_below (unhide Kz) hb5 (blk_lt (unhide Kz)))
            have KO := hide (blk_below (unhide KO) hb5 (blk_lt (unhide KO)))
            have hBw : B ≤ wr.heap.size := by have := (unhide HB).size; have := unhide HBE; omega
            have HB := hide (bel_base (unhide HB) hBw hb5)
            have hB5 : B ≤ w5.heap.size := Nat.le_trans hBw hb5.size
            clear hb5 HIN
            have kp := unhide Kp
            have kq := unhide Kq
            have kz := unhide Kz
            have kO := unhide KO
            have hlp : B < w5.heap.size := blk_lt kp
            have cp0 : w5.cell? ⟨B, 0, none⟩ = some (.int .i64 (W : Int)) := blk_cell kp 0
            have cp1 : w5.cell? ⟨B, 1, none⟩ = some (.int .i64 (H : Int)) := blk_cell kp 1
            have cp2 : w5.cell? ⟨B, 2, none⟩ = some (.slice a n c) := blk_cell kp 2
            have hlq : B + 1 < w5.heap.size := blk_lt kq
            have cq0 : w5.cell? ⟨B + 1, 0, none⟩ = some (.int .i64 (QW : Int)) := blk_cell kq 0
            have cq1 : w5.cell? ⟨B + 1, 1, none⟩ = some (.int .i64 (QH : Int)) := blk_cell kq 1
            have cq2 : w5.cell? ⟨B + 1, 2, none⟩ = some (.slice b m d) := blk_cell kq 2
            have hlz : B + 2 < w5.heap.size := blk_lt kz
            have cz0 : w5.cell? ⟨B + 2, 0, none⟩ = some (.int .i64 0) := blk_cell kz 0
            have cz1 : w5.cell? ⟨B + 2, 1, none⟩ = some (.int .i64 0) := blk_cell kz 1
            have cz2 : w5.cell? ⟨B + 2, 2, none⟩ = some (.slice none 0 0) := blk_cell kz 2
            have hlO : bO < w5.heap.size := blk_lt kO
            have cO0 : w5.cell? ⟨bO, 0, none⟩ = some (.int .i64 (W : Int)) := blk_cell kO 0
            have cO1 : w5.cell? ⟨bO, 1, none⟩ = some (.int .i64 (H : Int)) := blk_cell kO 1
            have cO2 : w5.cell? ⟨bO, 2, none⟩ = some (.slice (some ⟨g, 0, none⟩) n cg) := blk_cell kO 2
            clear kp kq kz kO
            go_wp2
            go_roundw
            case rel => exact ⟨x + 1, by omega, by go_num, (by show PR _ _ _ (ord _ _ (y * W + (x + 1))); rw [unhide HIY, ← ord_skip _ _ _ ((show G i = p i from unhide HPv).symm)]; exact unhide HPR), HB, Kp, Kq, Kz, KO⟩
            case measure => simp [intOf]; omega
        · obtain rfl : W = x := by omega
          have d2 : decide ((W : Int) < (W : Int)) = false := by simp
          go_wp2
          go_roundw
          case rel => exact ⟨y + 1, by omega, by go_num, by rw [Nat.succ_mul]; exact HPR, HB, Kp, Kq, Kz, KO⟩
          case measure => simp [intOf]; omega
    · obtain rfl : H = y := by omega
      have d1 : decide ((H : Int) < (H : Int)) = false := by simp
      have kp := unhide Kp
      have kq := unhide Kq
      have kz := unhide Kz
      have kO := unhide KO
      have r0 := blk_frozen kz 0
      have r1 := blk_frozen kz 1
      have r2 := blk_frozen kz 2
      have hlp : B < wr.heap.size := blk_lt kp
      have cp0 : wr.cell? ⟨B, 0, none⟩ = some (.int .i64 (W : Int)) := blk_cell kp 0
      have cp1 : wr.cell? ⟨B, 1, none⟩ = some (.int .i64 (H : Int)) := blk_cell kp 1
      have cp2 : wr.cell? ⟨B, 2, none⟩ = some (.slice a n c) := blk_cell kp 2
      have hlq : B + 1 < wr.heap.size := blk_lt kq
      have cq0 : wr.cell? ⟨B + 1, 0, none⟩ = some (.int .i64 (QW : Int)) := blk_cell kq 0
      have cq1 : wr.cell? ⟨B + 1, 1, none⟩ = some (.int .i64 (QH : Int)) := blk_cell kq 1
      have cq2 : wr.cell? ⟨B + 1, 2, none⟩ = some (.slice b m d) := blk_cell kq 2
      have hlz : B + 2 < wr.heap.size := blk_lt kz
      have cz0 : wr.cell? ⟨B + 2, 0, none⟩ = some (.int .i64 0) := blk_cell kz 0
      have cz1 : wr.cell? ⟨B + 2, 1, none⟩ = some (.int .i64 0) := blk_cell kz 1
      have cz2 : wr.cell? ⟨B + 2, 2, none⟩ = some (.slice none 0 0) := blk_cell kz 2
      have hlO : bO < wr.heap.size := blk_lt kO
      have cO0 : wr.cell? ⟨bO, 0, none⟩ = some (.int .i64 (W : Int)) := blk_cell kO 0
      have cO1 : wr.cell? ⟨bO, 1, none⟩ = some (.int .i64 (H : Int)) := blk_cell kO 1
      have cO2 : wr.cell? ⟨bO, 2, none⟩ = some (.slice (some ⟨g, 0, none⟩) n cg) := blk_cell kO 2
      have HF : Hid (PR wr g n G) := ord_all (by have h := unhide HPR; rw [← unhide HNE] at h; exact h)
      clear HPR kp kq kz kO
      go_wp2
      refine bodyPost_ret (v := .agg #[.int .i64 (W : Int), .int .i64 (H : Int), .slice (some ⟨g, 0, none⟩) n cg]) ?_ rfl ⟨g, cg, rfl, ?_, ?_⟩
      · rw [results_cellP (p := 10) (ty := 32) (by kernel_rfl)]
        go_simp
      · exact (unhide HF).block (by rw [Below.heap_setCell _ _ _ _ (by show g ≠ B + 2; omega), Below.heap_setCell _ _ _ _ (by show g ≠ B + 2; omega), Below.heap_setCell _ _ _ _ (by show g ≠ B + 2; omega)])
      · rw [← unhide HBE]
        exact ((((unhide HB).setCell (p := ⟨B + 2, 0, none⟩) (by show B ≤ B + 2; omega) _).setCell (p := ⟨B + 2, 1, none⟩) (by show B ≤ B + 2; omega) _).setCell (p := ⟨B + 2, 2, none⟩) (by show B ≤ B + 2; omega) _)

end Go.Proofs.YtkdckcengmkhhajDoor
