/- Pictures of another size: the document's. Written by genrl.py. -/
import Derived.Test.YtjchafbihfblnahDoorRo3
import Derived.Test.YtjchafbihfblnahDoorRt8
namespace Go.Proofs.YtjchafbihfblnahDoor
open Go.RowKit

set_option maxHeartbeats 4000000 in
set_option maxRecDepth 100000 in
theorem scaleOf_any (W H : Nat) (a : Option Addr) (n c : Nat) (p : Nat → Px) (u v : Nat) (w : World) (hW0 : 1 ≤ W) (hW : W ≤ 256) (hH0 : 1 ≤ H) (hH : H ≤ 256) (hn : n = W * H) (hP : IsPx w a n p) (hu0 : 1 ≤ u) (hu : u ≤ 256) (hv0 : 1 ≤ v) (hv : v ≤ 256) :
    Calls Tryd.prog 36 #[.agg #[.int .i64 (W : Int), .int .i64 (H : Int), .slice a n c], .int .i64 (u : Int), .int .i64 (v : Int)] w fun e w' => ∃ g c2, e = .returned (.agg #[.int .i64 (u : Int), .int .i64 (v : Int), .slice (some ⟨g, 0, none⟩) (u * v) c2]) ∧ PR w' g (u * v) (grid u fun x y => p ((y * H / v) * W + (x * W / u))) ∧ Below w.heap.size w w' := by
  obtain ⟨N, hN⟩ : ∃ N, N = u * v := ⟨_, rfl⟩
  have HNE : Hid (N = v * u) := by show N = v * u; rw [hN, Nat.mul_comm]
  have HNW := hide hn
  have HPW := hide (fun wr (h : Below w.heap.size w wr) => hP.below h)
  have HBl : Hid (∀ w, Calls Tryd.prog 14 #[.int .i64 (u : Int), .int .i64 (v : Int), .agg #[.int .u8 0, .int .u8 0, .int .u8 0, .int .u8 0]] w fun e w' => ∃ g c, e = .returned (.agg #[.int .i64 (u : Int), .int .i64 (v : Int), .slice (some ⟨g, 0, none⟩) N c]) ∧ w.heap.size ≤ g ∧ PR w' g N (fun _ => px0) ∧ Below w.heap.size w w') := by
    rw [hN]
    exact fun w => blankP_any u v px0 w (by omega) (by omega)
  obtain ⟨p0, hp0⟩ : ∃ p0 : Nat → Px, p0 = fun _ => px0 := ⟨_, rfl⟩
  rw [← hp0] at HBl
  have hNb : N ≤ 65536 := by rw [hN]; exact Nat.mul_le_mul (show u ≤ 256 by omega) (show v ≤ 256 by omega)
  obtain ⟨G, hG⟩ : ∃ G, G = grid u fun x y => p ((y * H / v) * W + (x * W / u)) := ⟨_, rfl⟩
  rw [← hN, ← hG]
  have HG : Hid (∀ x y, x < u → G (y * u + x) = p ((y * H / v) * W + (x * W / u))) := fun x y hx => by rw [hG]; exact grid_at u (fun x y => p ((y * H / v) * W + (x * W / u))) x y hx
  clear hP hn hG hN hp0
  have HA := hide (al2 w (.cells #[.int .i64 (W : Int), .int .i64 (H : Int), .slice a n c] 26) (.cells #[.int .i64 0, .int .i64 0, .slice none 0 0] 26))
  obtain ⟨B, hB⟩ : ∃ B, B = w.heap.size := ⟨_, rfl⟩
  go_enter Tryd.func36, Tryd.ntmps36
  go_wp2_with fail
  generalize ((w.alloc (.cells #[.int .i64 (W : Int), .int .i64 (H : Int), .slice a n c] 26)).alloc (.cells #[.int .i64 0, .int .i64 0, .slice none 0 0] 26)) = w1 at *
  rw [← hB] at HA ⊢
  obtain ⟨hs1, kp, kz, hb1⟩ := unhide HA
  have HBE := hide hB
  clear HA hB
  have hs : B + 2 ≤ w1.heap.size := by omega
  have HB := hide hb1
  clear hs1 hb1
  have hwB : ∀ wr, Below B w wr → Below w.heap.size w wr := fun wr h => by rw [← unhide HBE]; exact h
  have HWB := hide hwB
  clear hwB
  refine (unhide HBl w1).mono ?_
  rintro e w2 ⟨g, cg, rfl, hg, hpr, hbN⟩
  have hgl : B + 2 ≤ g := by omega
  have hsz := hbN.size
  have kp := blk_below kp hbN (blk_lt kp)
  have kz := blk_below kz hbN (blk_lt kz)
  have HB := hide ((unhide HB).trans (hbN.mono (by omega)))
  have hs : B + 2 ≤ w2.heap.size := by omega
  clear hbN hsz
  have hgs : g < w2.heap.size := hpr.lt
  have hlp : B < w2.heap.size := blk_lt kp
  have cp0 : w2.cell? ⟨B, 0, none⟩ = some (.int .i64 (W : Int)) := blk_cell kp 0
  have cp1 : w2.cell? ⟨B, 1, none⟩ = some (.int .i64 (H : Int)) := blk_cell kp 1
  have cp2 : w2.cell? ⟨B, 2, none⟩ = some (.slice a n c) := blk_cell kp 2
  have hlz : B + 1 < w2.heap.size := blk_lt kz
  have cz0 : w2.cell? ⟨B + 1, 0, none⟩ = some (.int .i64 0) := blk_cell kz 0
  have cz1 : w2.cell? ⟨B + 1, 1, none⟩ = some (.int .i64 0) := blk_cell kz 1
  have cz2 : w2.cell? ⟨B + 1, 2, none⟩ = some (.slice none 0 0) := blk_cell kz 2
  have HA := hide (al1 w2 (.cells #[.int .i64 (u : Int), .int .i64 (v : Int), .slice (some ⟨g, 0, none⟩) N cg] 26))
  obtain ⟨bO, heqO⟩ : ∃ b, b = w2.heap.size := ⟨_, rfl⟩
  go_wp2
  clear cp0 cp1 cp2 cz0 cz1 cz2 hlp hlz
  have hgO : g < bO := by rw [heqO]; exact hgs
  generalize w2.alloc (.cells #[.int .i64 (u : Int), .int .i64 (v : Int), .slice (some ⟨g, 0, none⟩) N cg] 26) = w3 at *
  rw [← heqO] at HA ⊢
  obtain ⟨hsA, kO, hbA⟩ := unhide HA
  have hblkO := fun j (h : j < bO) => hbA.block j h
  rw [heqO] at hbA
  have ltOp : B < bO := by rw [heqO]; exact blk_lt kp
  have ltOz : B + 1 < bO := by rw [heqO]; exact blk_lt kz
  have hgB : B ≤ bO := by rw [heqO]; omega
  clear HA
  have hsz := hbA.size
  have kp := blk_below kp hbA (blk_lt kp)
  have kz := blk_below kz hbA (blk_lt kz)
  have HB := hide ((unhide HB).trans (hbA.mono (by omega)))
  have hs : B + 2 ≤ w3.heap.size := by omega
  clear hbA hsz
  clear heqO hsA
  have HPR := hide (hpr.block (hblkO g hgO))
  clear hpr hgs hg hblkO
  have hgB : B ≤ g := by omega
  have Kp := hide kp
  have Kz := hide kz
  have KO := hide kO
  clear kp kz kO
  go_loopw [8] (fun yv wr => ∃ y : Nat, y ≤ v ∧ yv = .int .i64 (y : Int) ∧ Hid (PR wr g N (ord G p0 (y * u))) ∧ Hid (Below B w wr) ∧ Hid (wr.heap[B]? = some (.cells #[.int .i64 (W : Int), .int .i64 (H : Int), .slice a n c] 26)) ∧ Hid (wr.heap[B + 1]? = some (.cells #[.int .i64 0, .int .i64 0, .slice none 0 0] 26)) ∧ Hid (wr.heap[bO]? = some (.cells #[.int .i64 (u : Int), .int .i64 (v : Int), .slice (some ⟨g, 0, none⟩) N cg] 26))) (fun yv _ => v - (intOf yv).toNat)
  case atStart => exact ⟨0, by omega, rfl, by rw [Nat.zero_mul, ord_zero]; exact HPR, HB, Kp, Kz, KO⟩
  case round =>
    clear HPR HB Kp Kz KO hs
    obtain ⟨y, hy, rfl, HPR, HB, Kp, Kz, KO⟩ := hrel
    by_cases hly : y < v
    · have d1 : decide ((y : Int) < (v : Int)) = true := by simp; omega
      have d1n : decide (y < v) = true := decide_eq_true hly
      have kp := unhide Kp
      have kz := unhide Kz
      have kO := unhide KO
      have hlp : B < wr.heap.size := blk_lt kp
      have cp0 : wr.cell? ⟨B, 0, none⟩ = some (.int .i64 (W : Int)) := blk_cell kp 0
      have cp1 : wr.cell? ⟨B, 1, none⟩ = some (.int .i64 (H : Int)) := blk_cell kp 1
      have cp2 : wr.cell? ⟨B, 2, none⟩ = some (.slice a n c) := blk_cell kp 2
      have hlz : B + 1 < wr.heap.size := blk_lt kz
      have cz0 : wr.cell? ⟨B + 1, 0, none⟩ = some (.int .i64 0) := blk_cell kz 0
      have cz1 : wr.cell? ⟨B + 1, 1, none⟩ = some (.int .i64 0) := blk_cell kz 1
      have cz2 : wr.cell? ⟨B + 1, 2, none⟩ = some (.slice none 0 0) := blk_cell kz 2
      have hlO : bO < wr.heap.size := blk_lt kO
      have cO0 : wr.cell? ⟨bO, 0, none⟩ = some (.int .i64 (u : Int)) := blk_cell kO 0
      have cO1 : wr.cell? ⟨bO, 1, none⟩ = some (.int .i64 (v : Int)) := blk_cell kO 1
      have cO2 : wr.cell? ⟨bO, 2, none⟩ = some (.slice (some ⟨g, 0, none⟩) N cg) := blk_cell kO 2
      clear kp kz kO
      go_wp2
      clear cp0 cp1 cp2 cz0 cz1 cz2 cO0 cO1 cO2 hlp hlz hlO
      go_loopw [9] (fun xv wr => ∃ x : Nat, x ≤ u ∧ xv = .int .i64 (x : Int) ∧ Hid (PR wr g N (ord G p0 (y * u + x))) ∧ Hid (Below B w wr) ∧ Hid (wr.heap[B]? = some (.cells #[.int .i64 (W : Int), .int .i64 (H : Int), .slice a n c] 26)) ∧ Hid (wr.heap[B + 1]? = some (.cells #[.int .i64 0, .int .i64 0, .slice none 0 0] 26)) ∧ Hid (wr.heap[bO]? = some (.cells #[.int .i64 (u : Int), .int .i64 (v : Int), .slice (some ⟨g, 0, none⟩) N cg] 26))) (fun xv _ => u - (intOf xv).toNat)
      case atStart => exact ⟨0, by omega, rfl, HPR, HB, Kp, Kz, KO⟩
      case round =>
        clear HPR HB Kp Kz KO
        obtain ⟨x, hx, rfl, HPR, HB, Kp, Kz, KO⟩ := hrel
        have kp := unhide Kp
        have kz := unhide Kz
        have kO := unhide KO
        have hlp : B < wr.heap.size := blk_lt kp
        have cp0 : wr.cell? ⟨B, 0, none⟩ = some (.int .i64 (W : Int)) := blk_cell kp 0
        have cp1 : wr.cell? ⟨B, 1, none⟩ = some (.int .i64 (H : Int)) := blk_cell kp 1
        have cp2 : wr.cell? ⟨B, 2, none⟩ = some (.slice a n c) := blk_cell kp 2
        have hlz : B + 1 < wr.heap.size := blk_lt kz
        have cz0 : wr.cell? ⟨B + 1, 0, none⟩ = some (.int .i64 0) := blk_cell kz 0
        have cz1 : wr.cell? ⟨B + 1, 1, none⟩ = some (.int .i64 0) := blk_cell kz 1
        have cz2 : wr.cell? ⟨B + 1, 2, none⟩ = some (.slice none 0 0) := blk_cell kz 2
        have hlO : bO < wr.heap.size := blk_lt kO
        have cO0 : wr.cell? ⟨bO, 0, none⟩ = some (.int .i64 (u : Int)) := blk_cell kO 0
        have cO1 : wr.cell? ⟨bO, 1, none⟩ = some (.int .i64 (v : Int)) := blk_cell kO 1
        have cO2 : wr.cell? ⟨bO, 2, none⟩ = some (.slice (some ⟨g, 0, none⟩) N cg) := blk_cell kO 2
        clear kp kz kO
        by_cases hlx : x < u
        · have d2 : decide ((x : Int) < (u : Int)) = true := by simp; omega
          have d2n : decide (x < u) = true := decide_eq_true hlx
          have HGi : Hid (G (y * u + x) = p ((y * H / v) * W + (x * W / u))) := unhide HG x y hlx
          have hiN : y * u + x < N := by rw [unhide HNE, Nat.mul_comm v u]; exact place_lt hlx hly
          obtain ⟨t, ht⟩ : ∃ t, t = y * u := ⟨_, rfl⟩
          have zt : (y : Int) * (u : Int) = (t : Int) := by rw [ht]; simp
          obtain ⟨i, hi⟩ : ∃ k, k = t + x := ⟨_, rfl⟩
          have e0 : (t : Int) + (x : Int) = (i : Int) := by rw [hi]; simp
          have htb : t ≤ 65536 := by rw [ht]; exact Nat.mul_le_mul (show y ≤ 256 by omega) hu
          rw [← ht, ← hi] at HGi hiN
          have wrt : IntKind.i64.wrap (t : Int) = (t : Int) := by rw [IntKind.wrap_i64]; omega
          have wri : IntKind.i64.wrap (i : Int) = (i : Int) := by rw [IntKind.wrap_i64]; omega
          have hiI : (i : Int) < (N : Int) := by omega
          have HPR : Hid (PR wr g N (ord G p0 i)) := by show PR _ _ _ _; rw [hi, ht]; exact unhide HPR
          have HIY : Hid (y * u + (x + 1) = i + 1) := by show _ = _; rw [hi, ht]; omega
          obtain ⟨m1, hm1⟩ : ∃ m, m = x * W := ⟨_, rfl⟩
          have zm1 : (x : Int) * (W : Int) = (m1 : Int) := by rw [hm1]; simp
          have bm1 : m1 ≤ 65536 := by rw [hm1]; exact Nat.mul_le_mul (show x ≤ 256 by omega) hW
          obtain ⟨sx, hsx⟩ : ∃ s, s = m1 / u := ⟨_, rfl⟩
          have lsx : sx < W := by rw [hsx, hm1]; exact Nat.div_lt_of_lt_mul (Nat.mul_lt_mul_of_pos_right hlx hW0)
          have qsx : (m1 : Int).tdiv (u : Int) = (sx : Int) := by rw [hsx]; exact (Int.ofNat_tdiv _ _).symm
          have ysx : (m1 : Int) / (u : Int) = (sx : Int) := by rw [hsx]; simp
          have nzu : ((u : Int) == 0) = false := by simp; omega
          have nyu : (u : Int) ≠ 0 := by omega
          have wrm1 : IntKind.i64.wrap (m1 : Int) = (m1 : Int) := by rw [IntKind.wrap_i64]; omega
          have wrsx : IntKind.i64.wrap (sx : Int) = (sx : Int) := by rw [IntKind.wrap_i64]; omega
          obtain ⟨m2, hm2⟩ : ∃ m, m = y * H := ⟨_, rfl⟩
          have zm2 : (y : Int) * (H : Int) = (m2 : Int) := by rw [hm2]; simp
          have bm2 : m2 ≤ 65536 := by rw [hm2]; exact Nat.mul_le_mul (show y ≤ 256 by omega) hH
          obtain ⟨sy, hsy⟩ : ∃ s, s = m2 / v := ⟨_, rfl⟩
          have lsy : sy < H := by rw [hsy, hm2]; exact Nat.div_lt_of_lt_mul (Nat.mul_lt_mul_of_pos_right hly hH0)
          have qsy : (m2 : Int).tdiv (v : Int) = (sy : Int) := by rw [hsy]; exact (Int.ofNat_tdiv _ _).symm
          have ysy : (m2 : Int) / (v : Int) = (sy : Int) := by rw [hsy]; simp
          have nzv : ((v : Int) == 0) = false := by simp; omega
          have nyv : (v : Int) ≠ 0 := by omega
          have wrm2 : IntKind.i64.wrap (m2 : Int) = (m2 : Int) := by rw [IntKind.wrap_i64]; omega
          have wrsy : IntKind.i64.wrap (sy : Int) = (sy : Int) := by rw [IntKind.wrap_i64]; omega
          have HAT := hide (fun wq (h : Below B w wq) => dat_any W H sx sy a n c p wq (unhide HPW _ (unhide HWB _ h)) hW hH lsx lsy (unhide HNW))
          rw [← hm1, ← hm2, ← hsx, ← hsy] at HGi
          obtain ⟨pv, hv⟩ : ∃ v, v = p (sy * W + sx) := ⟨_, rfl⟩
          rw [← hv] at HGi HAT
          unfold Px.val at HAT
          clear ht hi hsx hsy hv hm1 hm2
          go_wp2
          have np : g ≠ B := by omega
          have mp : B ≠ g := by omega
          have nz : g ≠ B + 1 := by omega
          have mz : B + 1 ≠ g := by omega
          have nO : g ≠ bO := by omega
          have mO : bO ≠ g := by omega
          have hdr := (Below.refl wr.heap.size wr).drew
          have hgw : g < wr.heap.size := (unhide HPR).lt
          go_region_held (fun w' => w'.cell? ⟨B, 0, none⟩ = some (.int .i64 (W : Int)) ∧ w'.cell? ⟨B, 1, none⟩ = some (.int .i64 (H : Int)) ∧ w'.cell? ⟨B, 2, none⟩ = some (.slice a n c) ∧ w'.cell? ⟨bO, 0, none⟩ = some (.int .i64 (u : Int)) ∧ w'.cell? ⟨bO, 1, none⟩ = some (.int .i64 (v : Int)) ∧ w'.cell? ⟨bO, 2, none⟩ = some (.slice (some ⟨g, 0, none⟩) N cg)) (first | with_reducible exact ⟨(far4g _ _ _ _ _ _ _ _ _ _ _ _ np).trans ((unhide hk _ _ hlp).trans cp0), (far4g _ _ _ _ _ _ _ _ _ _ _ _ np).trans ((unhide hk _ _ hlp).trans cp1), (far4g _ _ _ _ _ _ _ _ _ _ _ _ np).trans ((unhide hk _ _ hlp).trans cp2), (far4g _ _ _ _ _ _ _ _ _ _ _ _ nO).trans ((unhide hk _ _ hlO).trans cO0), (far4g _ _ _ _ _ _ _ _ _ _ _ _ nO).trans ((unhide hk _ _ hlO).trans cO1), (far4g _ _ _ _ _ _ _ _ _ _ _ _ nO).trans ((unhide hk _ _ hlO).trans cO2)⟩ | with_reducible exact ⟨(unhide hk _ _ hlp).trans cp0, (unhide hk _ _ hlp).trans cp1, (unhide hk _ _ hlp).trans cp2, (unhide hk _ _ hlO).trans cO0, (unhide hk _ _ hlO).trans cO1, (unhide hk _ _ hlO).trans cO2⟩ | exact ⟨cp0, cp1, cp2, cO0, cO1, cO2⟩) (first | (go_at_call 53; refine (unhide HAT wr.drew ((unhide HB).drew)).mono ?_; rintro e w1 ⟨rfl, hb1⟩; have hq := hdr.trans (hb1.mono (Nat.le_refl _)); have hk := hide (fun (k o : Nat) (h : k < wr.heap.size) => hq.cell (p := ⟨k, o, none⟩) h); have HR1 := hide ((unhide HPR).below hq hgw); obtain ⟨t0, t1, t2, t3⟩ := (unhide HR1).px i hiN; have f0 := (unhide HR1).fr (i * 4); have f1 := (unhide HR1).fr (i * 4 + 1); have f2 := (unhide HR1).fr (i * 4 + 2); have f3 := (unhide HR1).fr (i * 4 + 3)))
          all_goals
            have HB1 := hide ((unhide HB).trans (hq.mono (Nat.le_trans (by omega) (Nat.le_refl _))))
            go_wp2
            go_roundw
            case rel => exact ⟨x + 1, by omega, by go_num, (by show PR _ _ _ (ord _ _ (y * u + (x + 1))); rw [unhide HIY, ← ord_put G p0 i pv (unhide HGi).symm]; exact (unhide HR1).put hiN pv), put4_below (unhide HB1) hgB _, (put4_far _ _ _ _ _ mp).trans ((hq.block _ (blk_lt (unhide Kp))).trans (unhide Kp)), (put4_far _ _ _ _ _ mz).trans ((hq.block _ (blk_lt (unhide Kz))).trans (unhide Kz)), (put4_far _ _ _ _ _ mO).trans ((hq.block _ (blk_lt (unhide KO))).trans (unhide KO))⟩
            case measure => simp [intOf]; omega
        · obtain rfl : u = x := by omega
          have d2 : decide ((u : Int) < (u : Int)) = false := by simp
          go_wp2
          go_roundw
          case rel => exact ⟨y + 1, by omega, by go_num, by rw [Nat.succ_mul]; exact HPR, HB, Kp, Kz, KO⟩
          case measure => simp [intOf]; omega
    · obtain rfl : v = y := by omega
      have d1 : decide ((v : Int) < (v : Int)) = false := by simp
      have kp := unhide Kp
      have kz := unhide Kz
      have kO := unhide KO
      have r0 := blk_frozen kz 0
      have r1 := blk_frozen kz 1
      have r2 := blk_frozen kz 2
      have hlp : B < wr.heap.size := blk_lt kp
      have cp0 : wr.cell? ⟨B, 0, none⟩ = some (.int .i64 (W : Int)) := blk_cell kp 0
      have cp1 : wr.cell? ⟨B, 1, none⟩ = some (.int .i64 (H : Int)) := blk_cell kp 1
      have cp2 : wr.cell? ⟨B, 2, none⟩ = some (.slice a n c) := blk_cell kp 2
      have hlz : B + 1 < wr.heap.size := blk_lt kz
      have cz0 : wr.cell? ⟨B + 1, 0, none⟩ = some (.int .i64 0) := blk_cell kz 0
      have cz1 : wr.cell? ⟨B + 1, 1, none⟩ = some (.int .i64 0) := blk_cell kz 1
      have cz2 : wr.cell? ⟨B + 1, 2, none⟩ = some (.slice none 0 0) := blk_cell kz 2
      have hlO : bO < wr.heap.size := blk_lt kO
      have cO0 : wr.cell? ⟨bO, 0, none⟩ = some (.int .i64 (u : Int)) := blk_cell kO 0
      have cO1 : wr.cell? ⟨bO, 1, none⟩ = some (.int .i64 (v : Int)) := blk_cell kO 1
      have cO2 : wr.cell? ⟨bO, 2, none⟩ = some (.slice (some ⟨g, 0, none⟩) N cg) := blk_cell kO 2
      have HF : Hid (PR wr g N G) := ord_all (by have h := unhide HPR; rw [← unhide HNE] at h; exact h)
      clear HPR kp kz kO
      go_wp2
      refine bodyPost_ret (v := .agg #[.int .i64 (u : Int), .int .i64 (v : Int), .slice (some ⟨g, 0, none⟩) N cg]) ?_ rfl ⟨g, cg, rfl, ?_, ?_⟩
      · rw [results_cellP (p := 6) (ty := 26) (by kernel_rfl)]
        go_simp
      · exact (unhide HF).block (by rw [Below.heap_setCell _ _ _ _ (by show g ≠ B + 1; omega), Below.heap_setCell _ _ _ _ (by show g ≠ B + 1; omega), Below.heap_setCell _ _ _ _ (by show g ≠ B + 1; omega)])
      · rw [← unhide HBE]
        exact ((((unhide HB).setCell (p := ⟨B + 1, 0, none⟩) (by show B ≤ B + 1; omega) _).setCell (p := ⟨B + 1, 1, none⟩) (by show B ≤ B + 1; omega) _).setCell (p := ⟨B + 1, 2, none⟩) (by show B ≤ B + 1; omega) _)

end Go.Proofs.YtjchafbihfblnahDoor
