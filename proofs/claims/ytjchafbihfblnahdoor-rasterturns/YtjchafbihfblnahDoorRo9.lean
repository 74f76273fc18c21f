/- Pictures halved: the document's. Written by genrl.py. -/
import Derived.Test.YtjchafbihfblnahDoorRo3
import Derived.Test.YtjchafbihfblnahDoorRtC
import Derived.Test.YtjchafbihfblnahDoorMi3
namespace Go.Proofs.YtjchafbihfblnahDoor
open Go.RowKit

set_option maxHeartbeats 4000000 in
set_option maxRecDepth 100000 in
theorem halfOf_any (W H : Nat) (a : Option Addr) (n c : Nat) (p : Nat → Px) (W2 H2 : Nat) (w : World) (hW : W ≤ 256) (hH : H ≤ 256) (hn : n = W * H) (hP : IsPx w a n p) (hw2 : W2 = (W + 1) / 2) (hh2 : H2 = (H + 1) / 2) :
    Calls Tryd.prog 35 #[.agg #[.int .i64 (W : Int), .int .i64 (H : Int), .slice a n c]] w fun e w' => ∃ g c2, e = .returned (.agg #[.int .i64 (W2 : Int), .int .i64 (H2 : Int), .slice (some ⟨g, 0, none⟩) (W2 * H2) c2]) ∧ PR w' g (W2 * H2) (grid W2 fun x y => halfG W H p x y) ∧ Below w.heap.size w w' := by
  obtain ⟨i0, hi, hz0, hz1, hz2⟩ := info_parts px_info
  have Hi := hide hi
  have Hz0 := hide hz0
  have Hz1 := hide hz1
  have Hz2 := hide hz2
  have HW2 := hide hw2
  have HH2 := hide hh2
  have hW2b : W2 ≤ 256 := by omega
  have hH2b : H2 ≤ 256 := by omega
  have z1 : ((W : Int) + 1) / 2 = (W2 : Int) := by omega
  have z1t : ((W : Int) + 1).tdiv 2 = (W2 : Int) := by rw [Int.tdiv_eq_ediv_of_nonneg (by omega)]; exact z1
  have z2 : ((H : Int) + 1) / 2 = (H2 : Int) := by omega
  have z2t : ((H : Int) + 1).tdiv 2 = (H2 : Int) := by rw [Int.tdiv_eq_ediv_of_nonneg (by omega)]; exact z2
  have wwW : IntKind.i64.wrap (W2 : Int) = (W2 : Int) := by rw [IntKind.wrap_i64]; omega
  have wwH : IntKind.i64.wrap (H2 : Int) = (H2 : Int) := by rw [IntKind.wrap_i64]; omega
  obtain ⟨N, hN⟩ : ∃ N, N = W2 * H2 := ⟨_, rfl⟩
  have HNE : Hid (N = H2 * W2) := by show N = H2 * W2; rw [hN, Nat.mul_comm]
  have HNW := hide hn
  have HPW := hide (fun wr (h : Below w.heap.size w wr) => hP.below h)
  have HBl : Hid (∀ w, Calls Tryd.prog 14 #[.int .i64 (W2 : Int), .int .i64 (H2 : Int), .agg #[.int .u8 0, .int .u8 0, .int .u8 0, .int .u8 0]] w fun e w' => ∃ g c, e = .returned (.agg #[.int .i64 (W2 : Int), .int .i64 (H2 : Int), .slice (some ⟨g, 0, none⟩) N c]) ∧ w.heap.size ≤ g ∧ PR w' g N (fun _ => px0) ∧ Below w.heap.size w w') := by
    rw [hN]
    exact fun w => blankP_any W2 H2 px0 w (by omega) (by omega)
  obtain ⟨p0, hp0⟩ : ∃ p0 : Nat → Px, p0 = fun _ => px0 := ⟨_, rfl⟩
  rw [← hp0] at HBl
  have hNb : N ≤ 65536 := by rw [hN]; exact Nat.mul_le_mul (show W2 ≤ 256 by omega) (show H2 ≤ 256 by omega)
  obtain ⟨G, hG⟩ : ∃ G, G = grid W2 fun x y => halfG W H p x y := ⟨_, rfl⟩
  rw [← hN, ← hG]
  have HG : Hid (∀ x y, x < W2 → G (y * W2 + x) = halfG W H p x y) := fun x y hx => by rw [hG]; exact grid_at W2 (fun x y => halfG W H p x y) x y hx
  clear hP hn hG hN hp0 hw2 hh2 hi hz0 hz1 hz2
  have HA := hide (al2 w (.cells #[.int .i64 (W : Int), .int .i64 (H : Int), .slice a n c] 26) (.cells #[.int .i64 0, .int .i64 0, .slice none 0 0] 26))
  obtain ⟨B, hB⟩ : ∃ B, B = w.heap.size := ⟨_, rfl⟩
  go_enter Tryd.func35, Tryd.ntmps35
  go_wp2_with fail
  generalize ((w.alloc (.cells #[.int .i64 (W : Int), .int .i64 (H : Int), .slice a n c] 26)).alloc (.cells #[.int .i64 0, .int .i64 0, .slice none 0 0] 26)) = w1 at *
  rw [← hB] at HA ⊢
  obtain ⟨hs1, kp, kz, hb1⟩ := unhide HA
  have HBE := hide hB
  clear HA hB
  have hs : B + 2 ≤ w1.heap.size := by omega
  have HB := hide hb1
  clear hs1 hb1
  have hwB : ∀ wr, Below B w wr → Below w.heap.size w wr := fun wr h => by rw [← unhide HBE]; exact h
  have HWB := hide hwB
  clear hwB
  refine (unhide HBl w1).mono ?_
  rintro e w2 ⟨g, cg, rfl, hg, hpr, hbN⟩
  have hgl : B + 2 ≤ g := by omega
  have hsz := hbN.size
  have kp := blk_below kp hbN (blk_lt kp)
  have kz := blk_below kz hbN (blk_lt kz)
  have HB := hide ((unhide HB).trans (hbN.mono (by omega)))
  have hs : B + 2 ≤ w2.heap.size := by omega
  clear hbN hsz
  have hgs : g < w2.heap.size := hpr.lt
  have hlp : B < w2.heap.size := blk_lt kp
  have cp0 : w2.cell? ⟨B, 0, none⟩ = some (.int .i64 (W : Int)) := blk_cell kp 0
  have cp1 : w2.cell? ⟨B, 1, none⟩ = some (.int .i64 (H : Int)) := blk_cell kp 1
  have cp2 : w2.cell? ⟨B, 2, none⟩ = some (.slice a n c) := blk_cell kp 2
  have hlz : B + 1 < w2.heap.size := blk_lt kz
  have cz0 : w2.cell? ⟨B + 1, 0, none⟩ = some (.int .i64 0) := blk_cell kz 0
  have cz1 : w2.cell? ⟨B + 1, 1, none⟩ = some (.int .i64 0) := blk_cell kz 1
  have cz2 : w2.cell? ⟨B + 1, 2, none⟩ = some (.slice none 0 0) := blk_cell kz 2
  have HA := hide (al1 w2 (.cells #[.int .i64 (W2 : Int), .int .i64 (H2 : Int), .slice (some ⟨g, 0, none⟩) N cg] 26))
  obtain ⟨bO, heqO⟩ : ∃ b, b = w2.heap.size := ⟨_, rfl⟩
  go_wp2
  clear cp0 cp1 cp2 cz0 cz1 cz2 hlp hlz
  have hgO : g < bO := by rw [heqO]; exact hgs
  generalize w2.alloc (.cells #[.int .i64 (W2 : Int), .int .i64 (H2 : Int), .slice (some ⟨g, 0, none⟩) N cg] 26) = w3 at *
  rw [← heqO] at HA ⊢
  obtain ⟨hsA, kO, hbA⟩ := unhide HA
  have hblkO := fun j (h : j < bO) => hbA.block j h
  rw [heqO] at hbA
  have ltOp : B < bO := by rw [heqO]; exact blk_lt kp
  have ltOz : B + 1 < bO := by rw [heqO]; exact blk_lt kz
  have hgB : B ≤ bO := by rw [heqO]; omega
  clear HA
  have hsz := hbA.size
  have kp := blk_below kp hbA (blk_lt kp)
  have kz := blk_below kz hbA (blk_lt kz)
  have HB := hide ((unhide HB).trans (hbA.mono (by omega)))
  have hs : B + 2 ≤ w3.heap.size := by omega
  clear hbA hsz
  clear heqO hsA
  have HPR := hide (hpr.block (hblkO g hgO))
  clear hpr hgs hg hblkO
  have hgB : B ≤ g := by omega
  have Kp := hide kp
  have Kz := hide kz
  have KO := hide kO
  clear kp kz kO
  go_loopw [4] (fun yv wr => ∃ y : Nat, y ≤ H2 ∧ yv = .int .i64 (y : Int) ∧ Hid (PR wr g N (ord G p0 (y * W2))) ∧ Hid (Below B w wr) ∧ Hid (wr.heap[B]? = some (.cells #[.int .i64 (W : Int), .int .i64 (H : Int), .slice a n c] 26)) ∧ Hid (wr.heap[B + 1]? = some (.cells #[.int .i64 0, .int .i64 0, .slice none 0 0] 26)) ∧ Hid (wr.heap[bO]? = some (.cells #[.int .i64 (W2 : Int), .int .i64 (H2 : Int), .slice (some ⟨g, 0, none⟩) N cg] 26))) (fun yv _ => H2 - (intOf yv).toNat)
  case atStart => exact ⟨0, by omega, rfl, by rw [Nat.zero_mul, ord_zero]; exact HPR, HB, Kp, Kz, KO⟩
  case round =>
    clear HPR HB Kp Kz KO hs
    obtain ⟨y, hy, rfl, HPR, HB, Kp, Kz, KO⟩ := hrel
    by_cases hly : y < H2
    · have d1 : decide ((y : Int) < (H2 : Int)) = true := by simp; omega
      have d1n : decide (y < H2) = true := decide_eq_true hly
      have kp := unhide Kp
      have kz := unhide Kz
      have kO := unhide KO
      have hlp : B < wr.heap.size := blk_lt kp
      have cp0 : wr.cell? ⟨B, 0, none⟩ = some (.int .i64 (W : Int)) := blk_cell kp 0
      have cp1 : wr.cell? ⟨B, 1, none⟩ = some (.int .i64 (H : Int)) := blk_cell kp 1
      have cp2 : wr.cell? ⟨B, 2, none⟩ = some (.slice a n c) := blk_cell kp 2
      have hlz : B + 1 < wr.heap.size := blk_lt kz
      have cz0 : wr.cell? ⟨B + 1, 0, none⟩ = some (.int .i64 0) := blk_cell kz 0
      have cz1 : wr.cell? ⟨B + 1, 1, none⟩ = some (.int .i64 0) := blk_cell kz 1
      have cz2 : wr.cell? ⟨B + 1, 2, none⟩ = some (.slice none 0 0) := blk_cell kz 2
      have hlO : bO < wr.heap.size := blk_lt kO
      have cO0 : wr.cell? ⟨bO, 0, none⟩ = some (.int .i64 (W2 : Int)) := blk_cell kO 0
      have cO1 : wr.cell? ⟨bO, 1, none⟩ = some (.int .i64 (H2 : Int)) := blk_cell kO 1
      have cO2 : wr.cell? ⟨bO, 2, none⟩ = some (.slice (some ⟨g, 0, none⟩) N cg) := blk_cell kO 2
      clear kp kz kO
      go_wp2
      clear cp0 cp1 cp2 cz0 cz1 cz2 cO0 cO1 cO2 hlp hlz hlO
      go_loopw [5] (fun xv wr => ∃ x : Nat, x ≤ W2 ∧ xv = .int .i64 (x : Int) ∧ Hid (PR wr g N (ord G p0 (y * W2 + x))) ∧ Hid (Below B w wr) ∧ Hid (wr.heap[B]? = some (.cells #[.int .i64 (W : Int), .int .i64 (H : Int), .slice a n c] 26)) ∧ Hid (wr.heap[B + 1]? = some (.cells #[.int .i64 0, .int .i64 0, .slice none 0 0] 26)) ∧ Hid (wr.heap[bO]? = some (.cells #[.int .i64 (W2 : Int), .int .i64 (H2 : Int), .slice (some ⟨g, 0, none⟩) N cg] 26))) (fun xv _ => W2 - (intOf xv).toNat)
      case atStart => exact ⟨0, by omega, rfl, HPR, HB, Kp, Kz, KO⟩
      case round =>
        clear HPR HB Kp Kz KO
        obtain ⟨x, hx, rfl, HPR, HB, Kp, Kz, KO⟩ := hrel
        have kp := unhide Kp
        have kz := unhide Kz
        have kO := unhide KO
        have hlp : B < wr.heap.size := blk_lt kp
        have cp0 : wr.cell? ⟨B, 0, none⟩ = some (.int .i64 (W : Int)) := blk_cell kp 0
        have cp1 : wr.cell? ⟨B, 1, none⟩ = some (.int .i64 (H : Int)) := blk_cell kp 1
        have cp2 : wr.cell? ⟨B, 2, none⟩ = some (.slice a n c) := blk_cell kp 2
        have hlz : B + 1 < wr.heap.size := blk_lt kz
        have cz0 : wr.cell? ⟨B + 1, 0, none⟩ = some (.int .i64 0) := blk_cell kz 0
        have cz1 : wr.cell? ⟨B + 1, 1, none⟩ = some (.int .i64 0) := blk_cell kz 1
        have cz2 : wr.cell? ⟨B + 1, 2, none⟩ = some (.slice none 0 0) := blk_cell kz 2
        have hlO : bO < wr.heap.size := blk_lt kO
        have cO0 : wr.cell? ⟨bO, 0, none⟩ = some (.int .i64 (W2 : Int)) := blk_cell kO 0
        have cO1 : wr.cell? ⟨bO, 1, none⟩ = some (.int .i64 (H2 : Int)) := blk_cell kO 1
        have cO2 : wr.cell? ⟨bO, 2, none⟩ = some (.slice (some ⟨g, 0, none⟩) N cg) := blk_cell kO 2
        clear kp kz kO
        by_cases hlx : x < W2
        · have d2 : decide ((x : Int) < (W2 : Int)) = true := by simp; omega
          have d2n : decide (x < W2) = true := decide_eq_true hlx
          have HGi : Hid (G (y * W2 + x) = halfG W H p x y) := unhide HG x y hlx
          have hiN : y * W2 + x < N := by rw [unhide HNE, Nat.mul_comm H2 W2]; exact place_lt hlx hly
          obtain ⟨t, ht⟩ : ∃ t, t = y * W2 := ⟨_, rfl⟩
          have zt : (y : Int) * (W2 : Int) = (t : Int) := by rw [ht]; simp
          obtain ⟨i, hi⟩ : ∃ k, k = t + x := ⟨_, rfl⟩
          have e0 : (t : Int) + (x : Int) = (i : Int) := by rw [hi]; simp
          have htb : t ≤ 65536 := by rw [ht]; exact Nat.mul_le_mul (show y ≤ 256 by omega) (show W2 ≤ 256 by omega)
          rw [← ht, ← hi] at HGi hiN
          have wrt : IntKind.i64.wrap (t : Int) = (t : Int) := by rw [IntKind.wrap_i64]; omega
          have wri : IntKind.i64.wrap (i : Int) = (i : Int) := by rw [IntKind.wrap_i64]; omega
          have hiI : (i : Int) < (N : Int) := by omega
          have HPR : Hid (PR wr g N (ord G p0 i)) := by show PR _ _ _ _; rw [hi, ht]; exact unhide HPR
          have HIY : Hid (y * W2 + (x + 1) = i + 1) := by show _ = _; rw [hi, ht]; omega
          obtain ⟨X, hX⟩ : ∃ m, m = 2 * x := ⟨_, rfl⟩
          have zX : 2 * (x : Int) = (X : Int) := by omega
          obtain ⟨Y, hY⟩ : ∃ m, m = 2 * y := ⟨_, rfl⟩
          have zY : 2 * (y : Int) = (Y : Int) := by omega
          have hX0 : X < W := by have := unhide HW2; omega
          have hY0 : Y < H := by have := unhide HH2; omega
          have wrX : IntKind.i64.wrap (X : Int) = (X : Int) := by rw [IntKind.wrap_i64]; omega
          have wrY : IntKind.i64.wrap (Y : Int) = (Y : Int) := by rw [IntKind.wrap_i64]; omega
          obtain ⟨cw, ecw⟩ : ∃ m, m = hcw W x := ⟨_, rfl⟩
          obtain ⟨ch, ech⟩ : ∃ m, m = hcw H y := ⟨_, rfl⟩
          have HCW : Hid (cw = min (X + 2) W - X) := by show _ = _; rw [ecw, hX]; rfl
          have HCH : Hid (ch = min (Y + 2) H - Y) := by show _ = _; rw [ech, hY]; rfl
          obtain ⟨Gf, hGf⟩ : ∃ Gf, Gf = grid cw fun i j => p ((Y + j) * W + (X + i)) := ⟨_, rfl⟩
          have HGf : Hid (∀ i j, i < cw → Gf (j * cw + i) = p ((Y + j) * W + (X + i))) := fun i j h => by rw [hGf]; exact grid_at cw (fun i j => p ((Y + j) * W + (X + i))) i j h
          have HGi : Hid (G i = mixP Gf (cw * ch)) := by show _ = _; rw [unhide HGi, hGf, ecw, ech, hX, hY]; rfl
          have hc2 : cw ≤ 2 := by have := unhide HCW; omega
          have hc1 : 1 ≤ cw := by have := unhide HCW; omega
          have hd2 : ch ≤ 2 := by have := unhide HCH; omega
          have HM4 : Hid (cw * ch ≤ 4) := Nat.mul_le_mul hc2 hd2
          have HII := hide hi
          clear ht hi hX hY ecw ech hGf
          obtain ⟨w0, hw0⟩ : ∃ w0 : World, w0 = wr := ⟨_, rfl⟩
          subst hw0
          obtain ⟨S0, hS0⟩ : ∃ s, s = w0.heap.size := ⟨_, rfl⟩
          have HSe := hide hS0
          clear hS0
          go_wp2
          clear cp0 cp1 cp2 cz0 cz1 cz2 cO0 cO1 cO2 hlp hlz hlO
          go_loopw [6, 7] (fun lv vv wr => ∃ (sy : Nat) (a1 : Option Addr) (n1 c1 : Nat), Y ≤ sy ∧ sy ≤ Y + 2 ∧ vv = .int .i64 (sy : Int) ∧ lv = .slice a1 n1 c1 ∧ Hid (n1 = (min sy H - Y) * cw) ∧ Hid (wr.ownsRow S0 23 4 (.slice a1 n1 c1) n1 (pxVals Gf n1)) ∧ Hid (Below S0 w0 wr)) (fun _ vv _ => Y + 2 - (intOf vv).toNat)
          case atStart => exact ⟨Y, none, 0, 0, Nat.le_refl _, by omega, rfl, rfl, by show 0 = (min Y H - Y) * cw; rw [show min Y H - Y = 0 by omega, Nat.zero_mul], World.ownsRow_nil _ _ _ _, Below.refl _ _⟩
          case round =>
            obtain ⟨sy, va, vn, vc, hy0, hyE, rfl, rfl, HVN, HO, HBS⟩ := hrel
            have kp := blk_below (unhide Kp) (unhide HBS) (by have := unhide HSe; have := blk_lt (unhide Kp); omega)
            have cp0 : wr.cell? ⟨B, 0, none⟩ = some (.int .i64 (W : Int)) := blk_cell kp 0
            have cp1 : wr.cell? ⟨B, 1, none⟩ = some (.int .i64 (H : Int)) := blk_cell kp 1
            have cp2 : wr.cell? ⟨B, 2, none⟩ = some (.slice a n c) := blk_cell kp 2
            have HBw := hide ((unhide HB).trans ((unhide HBS).mono (by have := unhide HSe; have := (unhide HB).size; have := blk_lt (unhide Kp); omega)))
            clear kp
            have hsb : sy ≤ 300 := by omega
            by_cases hls : sy < Y + 2
            · have d3 : decide ((sy : Int) < (Y : Int) + 2) = true := by simp; omega
              go_wp2
              clear cp0 cp1 cp2
              go_loopw [6, 8] (fun lv uv wr => ∃ (sx : Nat) (a1 : Option Addr) (n1 c1 : Nat), X ≤ sx ∧ sx ≤ X + 2 ∧ uv = .int .i64 (sx : Int) ∧ lv = .slice a1 n1 c1 ∧ Hid (n1 = (min sy H - Y) * cw + (if sy < H then min sx W - X else 0)) ∧ Hid (wr.ownsRow S0 23 4 (.slice a1 n1 c1) n1 (pxVals Gf n1)) ∧ Hid (Below S0 w0 wr)) (fun _ uv _ => X + 2 - (intOf uv).toNat)
              case atStart => exact ⟨X, va, vn, vc, Nat.le_refl _, by omega, rfl, rfl, by show vn = (min sy H - Y) * cw + (if sy < H then min X W - X else 0); rw [show min X W - X = 0 by omega, ite_self, Nat.add_zero]; exact unhide HVN, HO, HBS⟩
              case round =>
                clear HVN HO HBS HBw
                obtain ⟨sx, va, vn, vc, hx0, hxE, rfl, rfl, HVN, HO, HBS⟩ := hrel
                have kp := blk_below (unhide Kp) (unhide HBS) (by have := unhide HSe; have := blk_lt (unhide Kp); omega)
                have cp0 : wr.cell? ⟨B, 0, none⟩ = some (.int .i64 (W : Int)) := blk_cell kp 0
                have cp1 : wr.cell? ⟨B, 1, none⟩ = some (.int .i64 (H : Int)) := blk_cell kp 1
                have cp2 : wr.cell? ⟨B, 2, none⟩ = some (.slice a n c) := blk_cell kp 2
                have HBw := hide ((unhide HB).trans ((unhide HBS).mono (by have := unhide HSe; have := (unhide HB).size; have := blk_lt (unhide Kp); omega)))
                clear kp
                have hxb : sx ≤ 300 := by omega
                by_cases hlu : sx < X + 2
                · have d4 : decide ((sx : Int) < (X : Int) + 2) = true := by simp; omega
                  have HIN := hide (fun w => inP_any W H sx sy a n c w)
                  have hwz : S0 ≤ wr.heap.size := by have := unhide HSe; have := (unhide HBS).size; omega
                  by_cases hin : sx < W ∧ sy < H
                  · rw [decide_eq_true (show (0 : Int) ≤ sx ∧ (0 : Int) ≤ sy ∧ (sx : Int) < W ∧ (sy : Int) < H by omega)] at HIN
                    have HVN2 : Hid (vn = (sy - Y) * cw + (sx - X)) := by show _ = _; rw [unhide HVN, if_pos hin.2, show min sy H - Y = sy - Y by omega, show min sx W - X = sx - X by omega]
                    have hxc : sx - X < cw := by have := unhide HCW; omega
                    have HGv : Hid (Gf vn = p (sy * W + sx)) := by have h := unhide HGf (sx - X) (sy - Y) hxc; rw [← unhide HVN2, show Y + (sy - Y) = sy by omega, show X + (sx - X) = sx by omega] at h; exact h
                    have hv5 : vn < 5 := by
                      have hyc : sy - Y < ch := by have := unhide HCH; omega
                      have h2 := place_lt2 hxc hyc
                      have h1 := unhide HVN2
                      have h4 := unhide HM4
                      omega
                    have HT := hide (fun wq (h : Below B w wq) => dat_any W H sx sy a n c p wq (unhide HPW _ (unhide HWB _ h)) hW hH hin.1 hin.2 (unhide HNW))
                    generalize p (sy * W + sx) = q at *
                    unfold Px.val at HT
                    go_wp2_with fail
                    refine (unhide HIN _).mono ?_
                    rintro e w4 ⟨rfl, hb4⟩
                    have HO := hide (own_belowP (unhide HO) hb4)
                    have HBS := hide ((unhide HBS).trans (hb4.mono hwz))
                    have hw4 : S0 ≤ w4.heap.size := Nat.le_trans hwz hb4.size
                    clear hb4 cp0 cp1 cp2 HBw HIN
                    have kp := blk_below (unhide Kp) (unhide HBS) (by have := unhide HSe; have := blk_lt (unhide Kp); omega)
                    have cp0 : w4.cell? ⟨B, 0, none⟩ = some (.int .i64 (W : Int)) := blk_cell kp 0
                    have cp1 : w4.cell? ⟨B, 1, none⟩ = some (.int .i64 (H : Int)) := blk_cell kp 1
                    have cp2 : w4.cell? ⟨B, 2, none⟩ = some (.slice a n c) := blk_cell kp 2
                    have HBw := hide ((unhide HB).trans ((unhide HBS).mono (by have := unhide HSe; have := (unhide HB).size; have := blk_lt (unhide Kp); omega)))
                    clear kp
                    have HC := hide (unhide HT w4 (unhide HBw))
                    go_wp2_with fail
                    refine (unhide HC).mono ?_
                    rintro e w1 ⟨rfl, hb1⟩
                    have HO1 := hide ((own_belowP (unhide HO) hb1).alloc (.cells #[.int .u8 (q.r.toNat : Int), .int .u8 (q.g.toNat : Int), .int .u8 (q.b.toNat : Int), .int .u8 (q.a.toNat : Int)] 23))
                    have HL := hide (px_cells_lie w1 q)
                    have HN := hide (px_cells_one q)
                    have hz1w := hb1.size
                    have HB1 := hide ((unhide HBS).trans (hb1.mono hw4))
                    have hz2w : (w1.alloc (.cells #[.int .u8 (q.r.toNat : Int), .int .u8 (q.g.toNat : Int), .int .u8 (q.b.toNat : Int), .int .u8 (q.a.toNat : Int)] 23)).heap.size = w1.heap.size + 1 := by simp
                    have HPL : Hid (q.cells.length = 4) := rfl
                    have HPC : Hid (q.cells = [.int .u8 (q.r.toNat : Int), .int .u8 (q.g.toNat : Int), .int .u8 (q.b.toNat : Int), .int .u8 (q.a.toNat : Int)]) := rfl
                    have HXX : Hid (pxVals Gf (vn + 1) = pxVals Gf vn ++ q.cells) := by show _ = _; rw [← unhide HGv]; rfl
                    clear HO HBS HGv hb1 HC HT cp0 cp1 cp2 HBw
                    generalize q.cells = pc at *
                    generalize (q.r.toNat : Int) = pr at *
                    generalize (q.g.toNat : Int) = pg at *
                    generalize (q.b.toNat : Int) = pb at *
                    generalize (q.a.toNat : Int) = pa at *
                    have hown1 := unhide HO1
                    clear HO1
                    go_wp2_with (at_builtin; refine wpList_append_lies _ rfl (.tmp 53) (.tmp 58) 24 rfl S0 23 i0 (.agg #[.int .u8 0, .int .u8 0, .int .u8 0, .int .u8 0]) 4 4 Tryd.underlying24 (unhide Hi) (unhide Hz0) (unhide Hz1) (unhide Hz2) rfl (by omega) (.slice va vn vc) vn (pxVals Gf vn) rfl hown1 ⟨w1.heap.size, 0, none⟩ 1 1 pc rfl (unhide HPL) (unhide HL) (unhide HN) (by omega) (by unfold maxLen; omega) (by omega) (by rw [hz2w]; omega) _ rfl ?_)
                    intro gg cap2 w3 hown hgr hat hlt3
                    have HO3 : Hid (w3.ownsRow S0 23 4 (.slice (some ⟨gg, 0, none⟩) (vn + 1) cap2) (vn + 1) (pxVals Gf (vn + 1))) := by rw [unhide HXX]; exact hown
                    have hne : ∀ k, (Value.slice va vn vc).ownBlock = some k → S0 ≤ k := fun k e => (hown1.lt k e).1
                    have HB3 := hide (((unhide HB1).alloc (by omega) _).grown hgr (by rw [hz2w]; omega) (fun k e => by have := hne k e; omega))
                    clear hown hgr hat hlt3 hown1 HB1 HXX hne HL HN HPC HPL hz2w
                    go_wp2
                    go_roundw
                    case rel => exact ⟨sx + 1, some ⟨gg, 0, none⟩, vn + 1, cap2, by omega, by omega, by go_num, rfl, by show vn + 1 = (min sy H - Y) * cw + (if sy < H then min (sx + 1) W - X else 0); rw [if_pos hin.2, unhide HVN2, show min sy H - Y = sy - Y by omega, show min (sx + 1) W - X = sx - X + 1 by omega]; omega, HO3, HB3⟩
                    case measure => simp [intOf]; omega
                  · rw [decide_eq_false (show ¬ ((0 : Int) ≤ sx ∧ (0 : Int) ≤ sy ∧ (sx : Int) < W ∧ (sy : Int) < H) by omega)] at HIN
                    go_wp2_with fail
                    refine (unhide HIN _).mono ?_
                    rintro e w4 ⟨rfl, hb4⟩
                    have HO := hide (own_belowP (unhide HO) hb4)
                    have HBS := hide ((unhide HBS).trans (hb4.mono hwz))
                    clear hb4 cp0 cp1 cp2 HBw HIN
                    go_wp2
                    go_roundw
                    case rel => exact ⟨sx + 1, va, vn, vc, by omega, by omega, by go_num, rfl, by show vn = (min sy H - Y) * cw + (if sy < H then min (sx + 1) W - X else 0); rw [unhide HVN]; congr 1; by_cases h : sy < H <;> simp only [h, if_true, if_false] <;> omega, HO, HBS⟩
                    case measure => simp [intOf]; omega
                · have d4 : decide ((sx : Int) < (X : Int) + 2) = false := by simp; omega
                  have HVN2 : Hid (vn = (min (sy + 1) H - Y) * cw) := by
                    show vn = _
                    rw [unhide HVN]
                    have hcw := unhide HCW
                    by_cases h : sy < H
                    · rw [if_pos h, show min (sy + 1) H - Y = (min sy H - Y) + 1 by omega, Nat.succ_mul, show min sx W - X = cw by omega]
                    · rw [if_neg h, show min (sy + 1) H - Y = min sy H - Y by omega, Nat.add_zero]
                  clear HBw
                  go_wp2
                  go_roundw
                  case rel => exact ⟨sy + 1, va, vn, vc, by omega, by omega, by go_num, rfl, HVN2, HO, HBS⟩
                  case measure => simp [intOf]; omega
            · have d3 : decide ((sy : Int) < (Y : Int) + 2) = false := by simp; omega
              have HVE : Hid (vn = cw * ch) := by show vn = _; rw [unhide HVN, Nat.mul_comm]; congr 1; have := unhide HCH; omega
              have hpx := own_px (unhide HO) (by rw [unhide HVE]; have := unhide HM4; unfold maxLen; omega)
              have HMX := hide (fun wq (h : Below wr.heap.size wr wq) => mixOf_any va vn vc Gf wq (hpx.below h) (by rw [unhide HVE]; have := unhide HM4; omega))
              rw [← unhide HVE] at HGi
              generalize mixP Gf vn = pv at *
              unfold Px.val at HMX
              have hS0g : g < S0 := by have := unhide HSe; have := (unhide HPR).lt; omega
              have HPR := hide ((unhide HPR).below (unhide HBS) hS0g)
              have Kp := hide (blk_below (unhide Kp) (unhide HBS) (by have := unhide HSe; have := blk_lt (unhide Kp); omega))
              have Kz := hide (blk_below (unhide Kz) (unhide HBS) (by have := unhide HSe; have := blk_lt (unhide Kz); omega))
              have KO := hide (blk_below (unhide KO) (unhide HBS) (by have := unhide HSe; have := blk_lt (unhide KO); omega))
              have HB := hide (unhide HBw)
              clear HBw HVN HO HBS hpx cp0 cp1 cp2 HVE
              have kp := unhide Kp
              have kz := unhide Kz
              have kO := unhide KO
              have hlp : B < wr.heap.size := blk_lt kp
              have cp0 : wr.cell? ⟨B, 0, none⟩ = some (.int .i64 (W : Int)) := blk_cell kp 0
              have cp1 : wr.cell? ⟨B, 1, none⟩ = some (.int .i64 (H : Int)) := blk_cell kp 1
              have cp2 : wr.cell? ⟨B, 2, none⟩ = some (.slice a n c) := blk_cell kp 2
              have hlz : B + 1 < wr.heap.size := blk_lt kz
              have cz0 : wr.cell? ⟨B + 1, 0, none⟩ = some (.int .i64 0) := blk_cell kz 0
              have cz1 : wr.cell? ⟨B + 1, 1, none⟩ = some (.int .i64 0) := blk_cell kz 1
              have cz2 : wr.cell? ⟨B + 1, 2, none⟩ = some (.slice none 0 0) := blk_cell kz 2
              have hlO : bO < wr.heap.size := blk_lt kO
              have cO0 : wr.cell? ⟨bO, 0, none⟩ = some (.int .i64 (W2 : Int)) := blk_cell kO 0
              have cO1 : wr.cell? ⟨bO, 1, none⟩ = some (.int .i64 (H2 : Int)) := blk_cell kO 1
              have cO2 : wr.cell? ⟨bO, 2, none⟩ = some (.slice (some ⟨g, 0, none⟩) N cg) := blk_cell kO 2
              clear kp kz kO
              go_wp2
              have np : g ≠ B := by omega
              have mp : B ≠ g := by omega
              have nz : g ≠ B + 1 := by omega
              have mz : B + 1 ≠ g := by omega
              have nO : g ≠ bO := by omega
              have mO : bO ≠ g := by omega
              have hdr := (Below.refl wr.heap.size wr).drew
              have hgw : g < wr.heap.size := (unhide HPR).lt
              go_region_held (fun w' => w'.cell? ⟨B, 0, none⟩ = some (.int .i64 (W : Int)) ∧ w'.cell? ⟨B, 1, none⟩ = some (.int .i64 (H : Int)) ∧ w'.cell? ⟨B, 2, none⟩ = some (.slice a n c) ∧ w'.cell? ⟨bO, 0, none⟩ = some (.int .i64 (W2 : Int)) ∧ w'.cell? ⟨bO, 1, none⟩ = some (.int .i64 (H2 : Int)) ∧ w'.cell? ⟨bO, 2, none⟩ = some (.slice (some ⟨g, 0, none⟩) N cg)) (first | with_reducible exact ⟨(far4g _ _ _ _ _ _ _ _ _ _ _ _ np).trans ((unhide hk _ _ hlp).trans cp0), (far4g _ _ _ _ _ _ _ _ _ _ _ _ np).trans ((unhide hk _ _ hlp).trans cp1), (far4g _ _ _ _ _ _ _ _ _ _ _ _ np).trans ((unhide hk _ _ hlp).trans cp2), (far4g _ _ _ _ _ _ _ _ _ _ _ _ nO).trans ((unhide hk _ _ hlO).trans cO0), (far4g _ _ _ _ _ _ _ _ _ _ _ _ nO).trans ((unhide hk _ _ hlO).trans cO1), (far4g _ _ _ _ _ _ _ _ _ _ _ _ nO).trans ((unhide hk _ _ hlO).trans cO2)⟩ | with_reducible exact ⟨(unhide hk _ _ hlp).trans cp0, (unhide hk _ _ hlp).trans cp1, (unhide hk _ _ hlp).trans cp2, (unhide hk _ _ hlO).trans cO0, (unhide hk _ _ hlO).trans cO1, (unhide hk _ _ hlO).trans cO2⟩ | exact ⟨cp0, cp1, cp2, cO0, cO1, cO2⟩) (first | (go_at_call 66; refine (unhide HMX wr.drew hdr).mono ?_; rintro e w1 ⟨rfl, hb1⟩; have hq := hdr.trans (hb1.mono (Nat.le_refl _)); have hk := hide (fun (k o : Nat) (h : k < wr.heap.size) => hq.cell (p := ⟨k, o, none⟩) h); have HR1 := hide ((unhide HPR).below hq hgw); obtain ⟨t0, t1, t2, t3⟩ := (unhide HR1).px i hiN; have f0 := (unhide HR1).fr (i * 4); have f1 := (unhide HR1).fr (i * 4 + 1); have f2 := (unhide HR1).fr (i * 4 + 2); have f3 := (unhide HR1).fr (i * 4 + 3)))
              all_goals
                have HB1 := hide ((unhide HB).trans (hq.mono (Nat.le_trans (by omega) (Nat.le_refl _))))
                go_wp2
                go_roundw
                case rel => exact ⟨x + 1, by omega, by go_num, (by show PR _ _ _ (ord _ _ (y * W2 + (x + 1))); rw [unhide HIY, ← ord_put G p0 i pv (unhide HGi).symm]; exact (unhide HR1).put hiN pv), put4_below (unhide HB1) hgB _, (put4_far _ _ _ _ _ mp).trans ((hq.block _ (blk_lt (unhide Kp))).trans (unhide Kp)), (put4_far _ _ _ _ _ mz).trans ((hq.block _ (blk_lt (unhide Kz))).trans (unhide Kz)), (put4_far _ _ _ _ _ mO).trans ((hq.block _ (blk_lt (unhide KO))).trans (unhide KO))⟩
                case measure => simp [intOf]; omega
        · obtain rfl : W2 = x := by omega
          have d2 : decide ((W2 : Int) < (W2 : Int)) = false := by simp
          go_wp2
          go_roundw
          case rel => exact ⟨y + 1, by omega, by go_num, by rw [Nat.succ_mul]; exact HPR, HB, Kp, Kz, KO⟩
          case measure => simp [intOf]; omega
    · obtain rfl : H2 = y := by omega
      have d1 : decide ((H2 : Int) < (H2 : Int)) = false := by simp
      have kp := unhide Kp
      have kz := unhide Kz
      have kO := unhide KO
      have r0 := blk_frozen kz 0
      have r1 := blk_frozen kz 1
      have r2 := blk_frozen kz 2
      have hlp : B < wr.heap.size := blk_lt kp
      have cp0 : wr.cell? ⟨B, 0, none⟩ = some (.int .i64 (W : Int)) := blk_cell kp 0
      have cp1 : wr.cell? ⟨B, 1, none⟩ = some (.int .i64 (H : Int)) := blk_cell kp 1
      have cp2 : wr.cell? ⟨B, 2, none⟩ = some (.slice a n c) := blk_cell kp 2
      have hlz : B + 1 < wr.heap.size := blk_lt kz
      have cz0 : wr.cell? ⟨B + 1, 0, none⟩ = some (.int .i64 0) := blk_cell kz 0
      have cz1 : wr.cell? ⟨B + 1, 1, none⟩ = some (.int .i64 0) := blk_cell kz 1
      have cz2 : wr.cell? ⟨B + 1, 2, none⟩ = some (.slice none 0 0) := blk_cell kz 2
      have hlO : bO < wr.heap.size := blk_lt kO
      have cO0 : wr.cell? ⟨bO, 0, none⟩ = some (.int .i64 (W2 : Int)) := blk_cell kO 0
      have cO1 : wr.cell? ⟨bO, 1, none⟩ = some (.int .i64 (H2 : Int)) := blk_cell kO 1
      have cO2 : wr.cell? ⟨bO, 2, none⟩ = some (.slice (some ⟨g, 0, none⟩) N cg) := blk_cell kO 2
      have HF : Hid (PR wr g N G) := ord_all (by have h := unhide HPR; rw [← unhide HNE] at h; exact h)
      clear HPR kp kz kO
      go_wp2
      refine bodyPost_ret (v := .agg #[.int .i64 (W2 : Int), .int .i64 (H2 : Int), .slice (some ⟨g, 0, none⟩) N cg]) ?_ rfl ⟨g, cg, rfl, ?_, ?_⟩
      · rw [results_cellP (p := 2) (ty := 26) (by kernel_rfl)]
        go_simp
      · exact (unhide HF).block (by rw [Below.heap_setCell _ _ _ _ (by show g ≠ B + 1; omega), Below.heap_setCell _ _ _ _ (by show g ≠ B + 1; omega), Below.heap_setCell _ _ _ _ (by show g ≠ B + 1; omega)])
      · rw [← unhide HBE]
        exact ((((unhide HB).setCell (p := ⟨B + 1, 0, none⟩) (by show B ≤ B + 1; omega) _).setCell (p := ⟨B + 1, 1, none⟩) (by show B ≤ B + 1; omega) _).setCell (p := ⟨B + 1, 2, none⟩) (by show B ≤ B + 1; omega) _)

end Go.Proofs.YtjchafbihfblnahDoor
