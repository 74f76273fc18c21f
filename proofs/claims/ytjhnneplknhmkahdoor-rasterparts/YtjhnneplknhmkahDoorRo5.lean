/- Parts of pictures, cut out: the document's. Written by genrl.py. -/
import Derived.Test.YtjhnneplknhmkahDoorRo3
import Derived.Test.YtjhnneplknhmkahDoorRt7
namespace Go.Proofs.YtjhnneplknhmkahDoor
open Go.RowKit

set_option maxHeartbeats 4000000 in
set_option maxRecDepth 100000 in
theorem cropOf_any (W H : Nat) (a : Option Addr) (n c : Nat) (p : Nat → Px) (X Y RW RH : Nat) (w : World) (hW : W ≤ 256) (hH : H ≤ 256) (hn : n = W * H) (hP : IsPx w a n p) (hXW : X + RW ≤ W) (hYH : Y + RH ≤ H) :
    Calls Tryd.prog 25 #[.agg #[.int .i64 (W : Int), .int .i64 (H : Int), .slice a n c], .agg #[.int .i64 (X : Int), .int .i64 (Y : Int), .int .i64 (RW : Int), .int .i64 (RH : Int)]] w fun e w' => ∃ g c2, e = .returned (.agg #[.int .i64 (RW : Int), .int .i64 (RH : Int), .slice (some ⟨g, 0, none⟩) (RW * RH) c2]) ∧ PR w' g (RW * RH) (grid RW fun x y => p ((Y + y) * W + (X + x))) ∧ Below w.heap.size w w' := by
  obtain ⟨N, hN⟩ : ∃ N, N = RW * RH := ⟨_, rfl⟩
  have HNE : Hid (N = RH * RW) := by show N = RH * RW; rw [hN, Nat.mul_comm]
  have HNW := hide hn
  have HPW := hide (fun wr (h : Below w.heap.size w wr) => hP.below h)
  have HBl : Hid (∀ w, Calls Tryd.prog 14 #[.int .i64 (RW : Int), .int .i64 (RH : Int), .agg #[.int .u8 0, .int .u8 0, .int .u8 0, .int .u8 0]] w fun e w' => ∃ g c, e = .returned (.agg #[.int .i64 (RW : Int), .int .i64 (RH : Int), .slice (some ⟨g, 0, none⟩) N c]) ∧ w.heap.size ≤ g ∧ PR w' g N (fun _ => px0) ∧ Below w.heap.size w w') := by
    rw [hN]
    exact fun w => blankP_any RW RH px0 w (by omega) (by omega)
  obtain ⟨p0, hp0⟩ : ∃ p0 : Nat → Px, p0 = fun _ => px0 := ⟨_, rfl⟩
  rw [← hp0] at HBl
  have hNb : N ≤ 65536 := by rw [hN]; exact Nat.mul_le_mul (show RW ≤ 256 by omega) (show RH ≤ 256 by omega)
  obtain ⟨G, hG⟩ : ∃ G, G = grid RW fun x y => p ((Y + y) * W + (X + x)) := ⟨_, rfl⟩
  rw [← hN, ← hG]
  have HG : Hid (∀ x y, x < RW → G (y * RW + x) = p ((Y + y) * W + (X + x))) := fun x y hx => by rw [hG]; exact grid_at _ _ _ _ hx
  clear hP hn hG hN hp0
  have HA := hide (al3 w (.cells #[.int .i64 (W : Int), .int .i64 (H : Int), .slice a n c] 26) (.cells #[.int .i64 (X : Int), .int .i64 (Y : Int), .int .i64 (RW : Int), .int .i64 (RH : Int)] 43) (.cells #[.int .i64 0, .int .i64 0, .slice none 0 0] 26))
  obtain ⟨B, hB⟩ : ∃ B, B = w.heap.size := ⟨_, rfl⟩
  go_enter Tryd.func25, Tryd.ntmps25
  go_wp2_with fail
  generalize (((w.alloc (.cells #[.int .i64 (W : Int), .int .i64 (H : Int), .slice a n c] 26)).alloc (.cells #[.int .i64 (X : Int), .int .i64 (Y : Int), .int .i64 (RW : Int), .int .i64 (RH : Int)] 43)).alloc (.cells #[.int .i64 0, .int .i64 0, .slice none 0 0] 26)) = w1 at *
  rw [← hB] at HA ⊢
  obtain ⟨hs1, kp, kr, kz, hb1⟩ := unhide HA
  have HBE := hide hB
  clear HA hB
  have hs : B + 3 ≤ w1.heap.size := by omega
  have HB := hide hb1
  clear hs1 hb1
  have hwB : ∀ wr, Below B w wr → Below w.heap.size w wr := fun wr h => by rw [← unhide HBE]; exact h
  have HWB := hide hwB
  clear hwB
  refine (unhide HBl w1).mono ?_
  rintro e w2 ⟨g, cg, rfl, hg, hpr, hbN⟩
  have hgl : B + 3 ≤ g := by omega
  have hsz := hbN.size
  have kp := blk_below kp hbN (blk_lt kp)
  have kr := blk_below kr hbN (blk_lt kr)
  have kz := blk_below kz hbN (blk_lt kz)
  have HB := hide ((unhide HB).trans (hbN.mono (by omega)))
  have hs : B + 3 ≤ w2.heap.size := by omega
  clear hbN hsz
  have hgs : g < w2.heap.size := hpr.lt
  have hlp : B < w2.heap.size := blk_lt kp
  have cp0 : w2.cell? ⟨B, 0, none⟩ = some (.int .i64 (W : Int)) := blk_cell kp 0
  have cp1 : w2.cell? ⟨B, 1, none⟩ = some (.int .i64 (H : Int)) := blk_cell kp 1
  have cp2 : w2.cell? ⟨B, 2, none⟩ = some (.slice a n c) := blk_cell kp 2
  have hlr : B + 1 < w2.heap.size := blk_lt kr
  have cr0 : w2.cell? ⟨B + 1, 0, none⟩ = some (.int .i64 (X : Int)) := blk_cell kr 0
  have cr1 : w2.cell? ⟨B + 1, 1, none⟩ = some (.int .i64 (Y : Int)) := blk_cell kr 1
  have cr2 : w2.cell? ⟨B + 1, 2, none⟩ = some (.int .i64 (RW : Int)) := blk_cell kr 2
  have cr3 : w2.cell? ⟨B + 1, 3, none⟩ = some (.int .i64 (RH : Int)) := blk_cell kr 3
  have hlz : B + 2 < w2.heap.size := blk_lt kz
  have cz0 : w2.cell? ⟨B + 2, 0, none⟩ = some (.int .i64 0) := blk_cell kz 0
  have cz1 : w2.cell? ⟨B + 2, 1, none⟩ = some (.int .i64 0) := blk_cell kz 1
  have cz2 : w2.cell? ⟨B + 2, 2, none⟩ = some (.slice none 0 0) := blk_cell kz 2
  have HA := hide (al1 w2 (.cells #[.int .i64 (RW : Int), .int .i64 (RH : Int), .slice (some ⟨g, 0, none⟩) N cg] 26))
  obtain ⟨bO, heqO⟩ : ∃ b, b = w2.heap.size := ⟨_, rfl⟩
  go_wp2
  clear cp0 cp1 cp2 cr0 cr1 cr2 cr3 cz0 cz1 cz2 hlp hlr hlz
  have hgO : g < bO := by rw [heqO]; exact hgs
  generalize w2.alloc (.cells #[.int .i64 (RW : Int), .int .i64 (RH : Int), .slice (some ⟨g, 0, none⟩) N cg] 26) = w3 at *
  rw [← heqO] at HA ⊢
  obtain ⟨hsA, kO, hbA⟩ := unhide HA
  have hblkO := fun j (h : j < bO) => hbA.block j h
  rw [heqO] at hbA
  have ltOp : B < bO := by rw [heqO]; exact blk_lt kp
  have ltOr : B + 1 < bO := by rw [heqO]; exact blk_lt kr
  have ltOz : B + 2 < bO := by rw [heqO]; exact blk_lt kz
  have hgB : B ≤ bO := by rw [heqO]; omega
  clear HA
  have hsz := hbA.size
  have kp := blk_below kp hbA (blk_lt kp)
  have kr := blk_below kr hbA (blk_lt kr)
  have kz := blk_below kz hbA (blk_lt kz)
  have HB := hide ((unhide HB).trans (hbA.mono (by omega)))
  have hs : B + 3 ≤ w3.heap.size := by omega
  clear hbA hsz
  clear heqO hsA
  have HPR := hide (hpr.block (hblkO g hgO))
  clear hpr hgs hg hblkO
  have hgB : B ≤ g := by omega
  have Kp := hide kp
  have Kr := hide kr
  have Kz := hide kz
  have KO := hide kO
  clear kp kr kz kO
  go_loopw [6] (fun yv wr => ∃ y : Nat, y ≤ RH ∧ yv = .int .i64 (y : Int) ∧ Hid (PR wr g N (ord G p0 (y * RW))) ∧ Hid (Below B w wr) ∧ Hid (wr.heap[B]? = some (.cells #[.int .i64 (W : Int), .int .i64 (H : Int), .slice a n c] 26)) ∧ Hid (wr.heap[B + 1]? = some (.cells #[.int .i64 (X : Int), .int .i64 (Y : Int), .int .i64 (RW : Int), .int .i64 (RH : Int)] 43)) ∧ Hid (wr.heap[B + 2]? = some (.cells #[.int .i64 0, .int .i64 0, .slice none 0 0] 26)) ∧ Hid (wr.heap[bO]? = some (.cells #[.int .i64 (RW : Int), .int .i64 (RH : Int), .slice (some ⟨g, 0, none⟩) N cg] 26))) (fun yv _ => RH - (intOf yv).toNat)
  case atStart => exact ⟨0, by omega, rfl, by rw [Nat.zero_mul, ord_zero]; exact HPR, HB, Kp, Kr, Kz, KO⟩
  case round =>
    clear HPR HB Kp Kr Kz KO hs
    obtain ⟨y, hy, rfl, HPR, HB, Kp, Kr, Kz, KO⟩ := hrel
    by_cases hly : y < RH
    · have d1 : decide ((y : Int) < (RH : Int)) = true := by simp; omega
      have d1n : decide (y < RH) = true := decide_eq_true hly
      have kp := unhide Kp
      have kr := unhide Kr
      have kz := unhide Kz
      have kO := unhide KO
      have hlp : B < wr.heap.size := blk_lt kp
      have cp0 : wr.cell? ⟨B, 0, none⟩ = some (.int .i64 (W : Int)) := blk_cell kp 0
      have cp1 : wr.cell? ⟨B, 1, none⟩ = some (.int .i64 (H : Int)) := blk_cell kp 1
      have cp2 : wr.cell? ⟨B, 2, none⟩ = some (.slice a n c) := blk_cell kp 2
      have hlr : B + 1 < wr.heap.size := blk_lt kr
      have cr0 : wr.cell? ⟨B + 1, 0, none⟩ = some (.int .i64 (X : Int)) := blk_cell kr 0
      have cr1 : wr.cell? ⟨B + 1, 1, none⟩ = some (.int .i64 (Y : Int)) := blk_cell kr 1
      have cr2 : wr.cell? ⟨B + 1, 2, none⟩ = some (.int .i64 (RW : Int)) := blk_cell kr 2
      have cr3 : wr.cell? ⟨B + 1, 3, none⟩ = some (.int .i64 (RH : Int)) := blk_cell kr 3
      have hlz : B + 2 < wr.heap.size := blk_lt kz
      have cz0 : wr.cell? ⟨B + 2, 0, none⟩ = some (.int .i64 0) := blk_cell kz 0
      have cz1 : wr.cell? ⟨B + 2, 1, none⟩ = some (.int .i64 0) := blk_cell kz 1
      have cz2 : wr.cell? ⟨B + 2, 2, none⟩ = some (.slice none 0 0) := blk_cell kz 2
      have hlO : bO < wr.heap.size := blk_lt kO
      have cO0 : wr.cell? ⟨bO, 0, none⟩ = some (.int .i64 (RW : Int)) := blk_cell kO 0
      have cO1 : wr.cell? ⟨bO, 1, none⟩ = some (.int .i64 (RH : Int)) := blk_cell kO 1
      have cO2 : wr.cell? ⟨bO, 2, none⟩ = some (.slice (some ⟨g, 0, none⟩) N cg) := blk_cell kO 2
      clear kp kr kz kO
      go_wp2
      clear cp0 cp1 cp2 cr0 cr1 cr2 cr3 cz0 cz1 cz2 cO0 cO1 cO2 hlp hlr hlz hlO
      go_loopw [7] (fun xv wr => ∃ x : Nat, x ≤ RW ∧ xv = .int .i64 (x : Int) ∧ Hid (PR wr g N (ord G p0 (y * RW + x))) ∧ Hid (Below B w wr) ∧ Hid (wr.heap[B]? = some (.cells #[.int .i64 (W : Int), .int .i64 (H : Int), .slice a n c] 26)) ∧ Hid (wr.heap[B + 1]? = some (.cells #[.int .i64 (X : Int), .int .i64 (Y : Int), .int .i64 (RW : Int), .int .i64 (RH : Int)] 43)) ∧ Hid (wr.heap[B + 2]? = some (.cells #[.int .i64 0, .int .i64 0, .slice none 0 0] 26)) ∧ Hid (wr.heap[bO]? = some (.cells #[.int .i64 (RW : Int), .int .i64 (RH : Int), .slice (some ⟨g, 0, none⟩) N cg] 26))) (fun xv _ => RW - (intOf xv).toNat)
      case atStart => exact ⟨0, by omega, rfl, HPR, HB, Kp, Kr, Kz, KO⟩
      case round =>
        clear HPR HB Kp Kr Kz KO
        obtain ⟨x, hx, rfl, HPR, HB, Kp, Kr, Kz, KO⟩ := hrel
        have kp := unhide Kp
        have kr := unhide Kr
        have kz := unhide Kz
        have kO := unhide KO
        have hlp : B < wr.heap.size := blk_lt kp
        have cp0 : wr.cell? ⟨B, 0, none⟩ = some (.int .i64 (W : Int)) := blk_cell kp 0
        have cp1 : wr.cell? ⟨B, 1, none⟩ = some (.int .i64 (H : Int)) := blk_cell kp 1
        have cp2 : wr.cell? ⟨B, 2, none⟩ = some (.slice a n c) := blk_cell kp 2
        have hlr : B + 1 < wr.heap.size := blk_lt kr
        have cr0 : wr.cell? ⟨B + 1, 0, none⟩ = some (.int .i64 (X : Int)) := blk_cell kr 0
        have cr1 : wr.cell? ⟨B + 1, 1, none⟩ = some (.int .i64 (Y : Int)) := blk_cell kr 1
        have cr2 : wr.cell? ⟨B + 1, 2, none⟩ = some (.int .i64 (RW : Int)) := blk_cell kr 2
        have cr3 : wr.cell? ⟨B + 1, 3, none⟩ = some (.int .i64 (RH : Int)) := blk_cell kr 3
        have hlz : B + 2 < wr.heap.size := blk_lt kz
        have cz0 : wr.cell? ⟨B + 2, 0, none⟩ = some (.int .i64 0) := blk_cell kz 0
        have cz1 : wr.cell? ⟨B + 2, 1, none⟩ = some (.int .i64 0) := blk_cell kz 1
        have cz2 : wr.cell? ⟨B + 2, 2, none⟩ = some (.slice none 0 0) := blk_cell kz 2
        have hlO : bO < wr.heap.size := blk_lt kO
        have cO0 : wr.cell? ⟨bO, 0, none⟩ = some (.int .i64 (RW : Int)) := blk_cell kO 0
        have cO1 : wr.cell? ⟨bO, 1, none⟩ = some (.int .i64 (RH : Int)) := blk_cell kO 1
        have cO2 : wr.cell? ⟨bO, 2, none⟩ = some (.slice (some ⟨g, 0, none⟩) N cg) := blk_cell kO 2
        clear kp kr kz kO
        by_cases hlx : x < RW
        · have d2 : decide ((x : Int) < (RW : Int)) = true := by simp; omega
          have d2n : decide (x < RW) = true := decide_eq_true hlx
          have HGi : Hid (G (y * RW + x) = p ((Y + y) * W + (X + x))) := unhide HG x y hlx
          have hiN : y * RW + x < N := by rw [unhide HNE, Nat.mul_comm RH RW]; exact place_lt hlx hly
          obtain ⟨t, ht⟩ : ∃ t, t = y * RW := ⟨_, rfl⟩
          have zt : (y : Int) * (RW : Int) = (t : Int) := by rw [ht]; simp
          obtain ⟨i, hi⟩ : ∃ k, k = t + x := ⟨_, rfl⟩
          have e0 : (t : Int) + (x : Int) = (i : Int) := by rw [hi]; simp
          have htb : t ≤ 65536 := by rw [ht]; exact Nat.mul_le_mul (show y ≤ 256 by omega) (show RW ≤ 256 by omega)
          rw [← ht, ← hi] at HGi hiN
          have wt : IntKind.i64.wrap (t : Int) = (t : Int) := by rw [IntKind.wrap_i64]; omega
          have wi : IntKind.i64.wrap (i : Int) = (i : Int) := by rw [IntKind.wrap_i64]; omega
          have hiI : (i : Int) < (N : Int) := by omega
          have HPR : Hid (PR wr g N (ord G p0 i)) := by show PR _ _ _ _; rw [hi, ht]; exact unhide HPR
          have HIY : Hid (y * RW + (x + 1) = i + 1) := by show _ = _; rw [hi, ht]; omega
          obtain ⟨sx, hsx⟩ : ∃ s, s = X + x := ⟨_, rfl⟩
          obtain ⟨sy, hsy⟩ : ∃ s, s = Y + y := ⟨_, rfl⟩
          have z1 : (X : Int) + (x : Int) = (sx : Int) := by omega
          have z2 : (Y : Int) + (y : Int) = (sy : Int) := by omega
          have lx : sx < W := by omega
          have ly : sy < H := by omega
          have wrsx : IntKind.i64.wrap (sx : Int) = (sx : Int) := by rw [IntKind.wrap_i64]; omega
          have wrsy : IntKind.i64.wrap (sy : Int) = (sy : Int) := by rw [IntKind.wrap_i64]; omega
          have HAT := hide (fun wq (h : Below B w wq) => dat_any W H sx sy a n c p wq (unhide HPW _ (unhide HWB _ h)) hW hH lx ly (unhide HNW))
          rw [← hsx, ← hsy] at HGi
          obtain ⟨v, hv⟩ : ∃ v, v = p (sy * W + sx) := ⟨_, rfl⟩
          rw [← hv] at HGi HAT
          unfold Px.val at HAT
          clear ht hi hsx hsy hv
          go_wp2
          have np : g ≠ B := by omega
          have mp : B ≠ g := by omega
          have nr : g ≠ B + 1 := by omega
          have mr : B + 1 ≠ g := by omega
          have nz : g ≠ B + 2 := by omega
          have mz : B + 2 ≠ g := by omega
          have nO : g ≠ bO := by omega
          have mO : bO ≠ g := by omega
          have hdr := (Below.refl wr.heap.size wr).drew
          have hgw : g < wr.heap.size := (unhide HPR).lt
          go_region_held (fun w' => w'.cell? ⟨B, 0, none⟩ = some (.int .i64 (W : Int)) ∧ w'.cell? ⟨B, 1, none⟩ = some (.int .i64 (H : Int)) ∧ w'.cell? ⟨B, 2, none⟩ = some (.slice a n c) ∧ w'.cell? ⟨B + 1, 0, none⟩ = some (.int .i64 (X : Int)) ∧ w'.cell? ⟨B + 1, 1, none⟩ = some (.int .i64 (Y : Int)) ∧ w'.cell? ⟨B + 1, 2, none⟩ = some (.int .i64 (RW : Int)) ∧ w'.cell? ⟨B + 1, 3, none⟩ = some (.int .i64 (RH : Int)) ∧ w'.cell? ⟨bO, 0, none⟩ = some (.int .i64 (RW : Int)) ∧ w'.cell? ⟨bO, 1, none⟩ = some (.int .i64 (RH : Int)) ∧ w'.cell? ⟨bO, 2, none⟩ = some (.slice (some ⟨g, 0, none⟩) N cg)) (first | with_reducible exact ⟨(far4g _ _ _ _ _ _ _ _ _ _ _ _ np).trans ((unhide hk _ _ hlp).trans cp0), (far4g _ _ _ _ _ _ _ _ _ _ _ _ np).trans ((unhide hk _ _ hlp).trans cp1), (far4g _ _ _ _ _ _ _ _ _ _ _ _ np).trans ((unhide hk _ _ hlp).trans cp2), (far4g _ _ _ _ _ _ _ _ _ _ _ _ nr).trans ((unhide hk _ _ hlr).trans cr0), (far4g _ _ _ _ _ _ _ _ _ _ _ _ nr).trans ((unhide hk _ _ hlr).trans cr1), (far4g _ _ _ _ _ _ _ _ _ _ _ _ nr).trans ((unhide hk _ _ hlr).trans cr2), (far4g _ _ _ _ _ _ _ _ _ _ _ _ nr).trans ((unhide hk _ _ hlr).trans cr3), (far4g _ _ _ _ _ _ _ _ _ _ _ _ nO).trans ((unhide hk _ _ hlO).trans cO0), (far4g _ _ _ _ _ _ _ _ _ _ _ _ nO).trans ((unhide hk _ _ hlO).trans cO1), (far4g _ _ _ _ _ _ _ _ _ _ _ _ nO).trans ((unhide hk _ _ hlO).trans cO2)⟩ | with_reducible exact ⟨(unhide hk _ _ hlp).trans cp0, (unhide hk _ _ hlp).trans cp1, (unhide hk _ _ hlp).trans cp2, (unhide hk _ _ hlr).trans cr0, (unhide hk _ _ hlr).trans cr1, (unhide hk _ _ hlr).trans cr2, (unhide hk _ _ hlr).trans cr3, (unhide hk _ _ hlO).trans cO0, (unhide hk _ _ hlO).trans cO1, (unhide hk _ _ hlO).trans cO2⟩ | exact ⟨cp0, cp1, cp2, cr0, cr1, cr2, cr3, cO0, cO1, cO2⟩) (first | (go_at_call 53; refine (unhide HAT wr.drew ((unhide HB).drew)).mono ?_; rintro e w1 ⟨rfl, hb1⟩; have hq := hdr.trans (hb1.mono (Nat.le_refl _)); have hk := hide (fun (k o : Nat) (h : k < wr.heap.size) => hq.cell (p := ⟨k, o, none⟩) h); have HR1 := hide ((unhide HPR).below hq hgw); obtain ⟨t0, t1, t2, t3⟩ := (unhide HR1).px i hiN; have f0 := (unhide HR1).fr (i * 4); have f1 := (unhide HR1).fr (i * 4 + 1); have f2 := (unhide HR1).fr (i * 4 + 2); have f3 := (unhide HR1).fr (i * 4 + 3)))
          have HB1 := hide ((unhide HB).trans (hq.mono (Nat.le_trans (by omega) (Nat.le_refl _))))
          go_wp2
          go_roundw
          case rel => exact ⟨x + 1, by omega, by go_num, (by show PR _ _ _ (ord _ _ (y * RW + (x + 1))); rw [unhide HIY, ← ord_put G p0 i v (unhide HGi).symm]; exact (unhide HR1).put hiN v), put4_below (unhide HB1) hgB _, (put4_far _ _ _ _ _ mp).trans ((hq.block _ (blk_lt (unhide Kp))).trans (unhide Kp)), (put4_far _ _ _ _ _ mr).trans ((hq.block _ (blk_lt (unhide Kr))).trans (unhide Kr)), (put4_far _ _ _ _ _ mz).trans ((hq.block _ (blk_lt (unhide Kz))).trans (unhide Kz)), (put4_far _ _ _ _ _ mO).trans ((hq.block _ (blk_lt (unhide KO))).trans (unhide KO))⟩
          case measure => simp [intOf]; omega
        · obtain rfl : RW = x := by omega
          have d2 : decide ((RW : Int) < (RW : Int)) = false := by simp
          go_wp2
          go_roundw
          case rel => exact ⟨y + 1, by omega, by go_num, by rw [Nat.succ_mul]; exact HPR, HB, Kp, Kr, Kz, KO⟩
          case measure => simp [intOf]; omega
    · obtain rfl : RH = y := by omega
      have d1 : decide ((RH : Int) < (RH : Int)) = false := by simp
      have kp := unhide Kp
      have kr := unhide Kr
      have kz := unhide Kz
      have kO := unhide KO
      have r0 := blk_frozen kz 0
      have r1 := blk_frozen kz 1
      have r2 := blk_frozen kz 2
      have hlp : B < wr.heap.size := blk_lt kp
      have cp0 : wr.cell? ⟨B, 0, none⟩ = some (.int .i64 (W : Int)) := blk_cell kp 0
      have cp1 : wr.cell? ⟨B, 1, none⟩ = some (.int .i64 (H : Int)) := blk_cell kp 1
      have cp2 : wr.cell? ⟨B, 2, none⟩ = some (.slice a n c) := blk_cell kp 2
      have hlr : B + 1 < wr.heap.size := blk_lt kr
      have cr0 : wr.cell? ⟨B + 1, 0, none⟩ = some (.int .i64 (X : Int)) := blk_cell kr 0
      have cr1 : wr.cell? ⟨B + 1, 1, none⟩ = some (.int .i64 (Y : Int)) := blk_cell kr 1
      have cr2 : wr.cell? ⟨B + 1, 2, none⟩ = some (.int .i64 (RW : Int)) := blk_cell kr 2
      have cr3 : wr.cell? ⟨B + 1, 3, none⟩ = some (.int .i64 (RH : Int)) := blk_cell kr 3
      have hlz : B + 2 < wr.heap.size := blk_lt kz
      have cz0 : wr.cell? ⟨B + 2, 0, none⟩ = some (.int .i64 0) := blk_cell kz 0
      have cz1 : wr.cell? ⟨B + 2, 1, none⟩ = some (.int .i64 0) := blk_cell kz 1
      have cz2 : wr.cell? ⟨B + 2, 2, none⟩ = some (.slice none 0 0) := blk_cell kz 2
      have hlO : bO < wr.heap.size := blk_lt kO
      have cO0 : wr.cell? ⟨bO, 0, none⟩ = some (.int .i64 (RW : Int)) := blk_cell kO 0
      have cO1 : wr.cell? ⟨bO, 1, none⟩ = some (.int .i64 (RH : Int)) := blk_cell kO 1
      have cO2 : wr.cell? ⟨bO, 2, none⟩ = some (.slice (some ⟨g, 0, none⟩) N cg) := blk_cell kO 2
      have HF : Hid (PR wr g N G) := ord_all (by have h := unhide HPR; rw [← unhide HNE] at h; exact h)
      clear HPR kp kr kz kO
      go_wp2
      refine bodyPost_ret (v := .agg #[.int .i64 (RW : Int), .int .i64 (RH : Int), .slice (some ⟨g, 0, none⟩) N cg]) ?_ rfl ⟨g, cg, rfl, ?_, ?_⟩
      · rw [results_cellP (p := 4) (ty := 26) (by kernel_rfl)]
        go_simp
      · exact (unhide HF).block (by rw [Below.heap_setCell _ _ _ _ (by show g ≠ B + 2; omega), Below.heap_setCell _ _ _ _ (by show g ≠ B + 2; omega), Below.heap_setCell _ _ _ _ (by show g ≠ B + 2; omega)])
      · rw [← unhide HBE]
        exact ((((unhide HB).setCell (p := ⟨B + 2, 0, none⟩) (by show B ≤ B + 2; omega) _).setCell (p := ⟨B + 2, 1, none⟩) (by show B ≤ B + 2; omega) _).setCell (p := ⟨B + 2, 2, none⟩) (by show B ≤ B + 2; omega) _)

end Go.Proofs.YtjhnneplknhmkahDoor
