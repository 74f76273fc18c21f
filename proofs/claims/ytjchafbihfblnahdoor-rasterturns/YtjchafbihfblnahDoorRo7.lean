/- Pictures flipped and turned: the document's. Written by genrl.py. -/
import Derived.Test.YtjchafbihfblnahDoorRo3
import Derived.Test.YtjchafbihfblnahDoorRt8
namespace Go.Proofs.YtjchafbihfblnahDoor
open Go.RowKit

set_option maxHeartbeats 4000000 in
set_option maxRecDepth 100000 in
theorem flipOf_true (W H : Nat) (a : Option Addr) (n c : Nat) (p : Nat → Px) (w : World) (hW0 : 1 ≤ W) (hW : W ≤ 256) (hH0 : 1 ≤ H) (hH : H ≤ 256) (hn : n = W * H) (hP : IsPx w a n p) :
    Calls Tryd.prog 34 #[.agg #[.int .i64 (W : Int), .int .i64 (H : Int), .slice a n c], .bool true] w fun e w' => ∃ g c2, e = .returned (.agg #[.int .i64 (W : Int), .int .i64 (H : Int), .slice (some ⟨g, 0, none⟩) (W * H) c2]) ∧ PR w' g (W * H) (fD W H p) ∧ Below w.heap.size w w' := by
  have hn0 : 1 ≤ n := by rw [hn]; exact Nat.mul_le_mul hW0 hH0
  have hNb : n ≤ 65536 := by rw [hn]; exact Nat.mul_le_mul hW hH
  obtain ⟨N, hN⟩ : ∃ N, N = W * H := ⟨_, rfl⟩
  have HNW := hide hn
  have HPW := hide (fun wr (h : Below w.heap.size w wr) => hP.below h)
  obtain ⟨G, hG⟩ : ∃ G, G = fD W H p := ⟨_, rfl⟩
  obtain ⟨val, hval⟩ : ∃ val : Nat → Nat → Px, val = fun x y => p (y * W + x) := ⟨_, rfl⟩
  have HVAL : Hid (∀ x y, val x y = p (y * W + x)) := fun x y => by rw [hval]
  obtain ⟨ix, hix⟩ : ∃ ix : Nat → Nat → Nat, ix = fun x y => (H - 1 - y) * W + x := ⟨_, rfl⟩
  have HIX : Hid (∀ x y, x < W → y < H → ix x y < N) := fun x y hx hy => by rw [hix, hN]; exact place_lt (by omega) (by omega)
  have HAP : Hid (∀ x2 y2 x y, x2 < W → x < W → y < H → (y2 < y ∨ (y2 = y ∧ x2 < x)) → ix x2 y2 ≠ ix x y) := fun x2 y2 x y h2 hx hy h3 => by rw [hix]; exact mul_apart (by omega) (by omega) (by omega)
  have HEQ : Hid (∀ x y, x < W → y < H → ix x y = (H - 1 - y) * W + x) := fun x y _ _ => by rw [hix]
  have HFIN : Hid (∀ p1, Fl ix val W 0 H p1 → ∀ i, i < N → p1 i = G i) := fun p1 h => by
    rw [hN, hG]
    refine by_places hW0 fun x y hx hy => ?_
    have q := h x (H - 1 - y) hx (by omega)
    rw [hix, hval] at q
    dsimp only at q
    rw [show H - 1 - (H - 1 - y) = y by omega] at q
    rw [q]
    exact (grid_at W (fun x y => p ((H - 1 - y) * W + x)) x y hx).symm
  have hnN : n = N := by rw [hn, hN]
  have HNH : Hid (N = H * W) := by show N = H * W; rw [hN, Nat.mul_comm]
  rw [← hN, ← hG]
  have HO : Hid (∀ w, IsPx w a n p → Calls Tryd.prog 16 #[.agg #[.int .i64 (W : Int), .int .i64 (H : Int), .slice a n c]] w fun e w' => ∃ g c2, e = .returned (.agg #[.int .i64 (W : Int), .int .i64 (H : Int), .slice (some ⟨g, 0, none⟩) N c2]) ∧ w.heap.size ≤ g ∧ PR w' g N p ∧ Below w.heap.size w w') := by
    rw [← hnN]
    exact fun w h => own_rowP W H a n c p w h (by omega) hn0
  rw [hnN] at hNb
  clear hP hn hG hN hval hix hn0 hnN
  have HA := hide (al2 w (.cells #[.int .i64 (W : Int), .int .i64 (H : Int), .slice a n c] 26) (.cells #[.int .i64 0, .int .i64 0, .slice none 0 0] 26))
  obtain ⟨B, hB⟩ : ∃ B, B = w.heap.size := ⟨_, rfl⟩
  go_enter Tryd.func34, Tryd.ntmps34
  go_wp2_with fail
  generalize ((w.alloc (.cells #[.int .i64 (W : Int), .int .i64 (H : Int), .slice a n c] 26)).alloc (.cells #[.int .i64 0, .int .i64 0, .slice none 0 0] 26)) = w1 at *
  rw [← hB] at HA ⊢
  obtain ⟨hs1, kp, kz, hb1⟩ := unhide HA
  have HBE := hide hB
  clear HA hB
  have hs : B + 2 ≤ w1.heap.size := by omega
  have HB := hide hb1
  clear hs1 hb1
  have hwB : ∀ wr, Below B w wr → Below w.heap.size w wr := fun wr h => by rw [← unhide HBE]; exact h
  have HWB := hide hwB
  clear hwB
  refine (unhide HO w1 (unhide HPW _ (unhide HWB _ (unhide HB)))).mono ?_
  rintro e w2 ⟨g, cg, rfl, hg, hpr, hbN⟩
  have hgl : B + 2 ≤ g := by omega
  have hsz := hbN.size
  have kp := blk_below kp hbN (blk_lt kp)
  have kz := blk_below kz hbN (blk_lt kz)
  have HB := hide ((unhide HB).trans (hbN.mono (by omega)))
  have hs : B + 2 ≤ w2.heap.size := by omega
  clear hbN hsz
  have hgs : g < w2.heap.size := hpr.lt
  have hlp : B < w2.heap.size := blk_lt kp
  have cp0 : w2.cell? ⟨B, 0, none⟩ = some (.int .i64 (W : Int)) := blk_cell kp 0
  have cp1 : w2.cell? ⟨B, 1, none⟩ = some (.int .i64 (H : Int)) := blk_cell kp 1
  have cp2 : w2.cell? ⟨B, 2, none⟩ = some (.slice a n c) := blk_cell kp 2
  have hlz : B + 1 < w2.heap.size := blk_lt kz
  have cz0 : w2.cell? ⟨B + 1, 0, none⟩ = some (.int .i64 0) := blk_cell kz 0
  have cz1 : w2.cell? ⟨B + 1, 1, none⟩ = some (.int .i64 0) := blk_cell kz 1
  have cz2 : w2.cell? ⟨B + 1, 2, none⟩ = some (.slice none 0 0) := blk_cell kz 2
  have HA := hide (al1 w2 (.cells #[.int .i64 (W : Int), .int .i64 (H : Int), .slice (some ⟨g, 0, none⟩) N cg] 26))
  obtain ⟨bO, heqO⟩ : ∃ b, b = w2.heap.size := ⟨_, rfl⟩
  go_wp2
  clear cp0 cp1 cp2 cz0 cz1 cz2 hlp hlz
  have hgO : g < bO := by rw [heqO]; exact hgs
  generalize w2.alloc (.cells #[.int .i64 (W : Int), .int .i64 (H : Int), .slice (some ⟨g, 0, none⟩) N cg] 26) = w3 at *
  rw [← heqO] at HA ⊢
  obtain ⟨hsA, kO, hbA⟩ := unhide HA
  have hblkO := fun j (h : j < bO) => hbA.block j h
  rw [heqO] at hbA
  have ltOp : B < bO := by rw [heqO]; exact blk_lt kp
  have ltOz : B + 1 < bO := by rw [heqO]; exact blk_lt kz
  have hgB : B ≤ bO := by rw [heqO]; omega
  clear HA
  have hsz := hbA.size
  have kp := blk_below kp hbA (blk_lt kp)
  have kz := blk_below kz hbA (blk_lt kz)
  have HB := hide ((unhide HB).trans (hbA.mono (by omega)))
  have hs : B + 2 ≤ w3.heap.size := by omega
  clear hbA hsz
  clear heqO hsA
  have HPR := hide (hpr.block (hblkO g hgO))
  clear hpr hgs hg hblkO
  have hgB : B ≤ g := by omega
  have Kp := hide kp
  have Kz := hide kz
  have KO := hide kO
  clear kp kz kO
  go_loopw [6] (fun yv wr => ∃ y : Nat, y ≤ H ∧ yv = .int .i64 (y : Int) ∧ Hid (∃ p1, PR wr g N p1 ∧ Fl ix val W 0 y p1) ∧ Hid (Below B w wr) ∧ Hid (wr.heap[B]? = some (.cells #[.int .i64 (W : Int), .int .i64 (H : Int), .slice a n c] 26)) ∧ Hid (wr.heap[B + 1]? = some (.cells #[.int .i64 0, .int .i64 0, .slice none 0 0] 26)) ∧ Hid (wr.heap[bO]? = some (.cells #[.int .i64 (W : Int), .int .i64 (H : Int), .slice (some ⟨g, 0, none⟩) N cg] 26))) (fun yv _ => H - (intOf yv).toNat)
  case atStart => exact ⟨0, by omega, rfl, ⟨_, unhide HPR, Fl.zero _ _ _ _⟩, HB, Kp, Kz, KO⟩
  case round =>
    clear HPR HB Kp Kz KO hs
    obtain ⟨y, hy, rfl, HPR, HB, Kp, Kz, KO⟩ := hrel
    by_cases hly : y < H
    · have d1 : decide ((y : Int) < (H : Int)) = true := by simp; omega
      have d1n : decide (y < H) = true := decide_eq_true hly
      have kp := unhide Kp
      have kz := unhide Kz
      have kO := unhide KO
      have hlp : B < wr.heap.size := blk_lt kp
      have cp0 : wr.cell? ⟨B, 0, none⟩ = some (.int .i64 (W : Int)) := blk_cell kp 0
      have cp1 : wr.cell? ⟨B, 1, none⟩ = some (.int .i64 (H : Int)) := blk_cell kp 1
      have cp2 : wr.cell? ⟨B, 2, none⟩ = some (.slice a n c) := blk_cell kp 2
      have hlz : B + 1 < wr.heap.size := blk_lt kz
      have cz0 : wr.cell? ⟨B + 1, 0, none⟩ = some (.int .i64 0) := blk_cell kz 0
      have cz1 : wr.cell? ⟨B + 1, 1, none⟩ = some (.int .i64 0) := blk_cell kz 1
      have cz2 : wr.cell? ⟨B + 1, 2, none⟩ = some (.slice none 0 0) := blk_cell kz 2
      have hlO : bO < wr.heap.size := blk_lt kO
      have cO0 : wr.cell? ⟨bO, 0, none⟩ = some (.int .i64 (W : Int)) := blk_cell kO 0
      have cO1 : wr.cell? ⟨bO, 1, none⟩ = some (.int .i64 (H : Int)) := blk_cell kO 1
      have cO2 : wr.cell? ⟨bO, 2, none⟩ = some (.slice (some ⟨g, 0, none⟩) N cg) := blk_cell kO 2
      clear kp kz kO
      go_wp2
      clear cp0 cp1 cp2 cz0 cz1 cz2 cO0 cO1 cO2 hlp hlz hlO
      go_loopw [7] (fun xv wr => ∃ x : Nat, x ≤ W ∧ xv = .int .i64 (x : Int) ∧ Hid (∃ p1, PR wr g N p1 ∧ Fl ix val W x y p1) ∧ Hid (Below B w wr) ∧ Hid (wr.heap[B]? = some (.cells #[.int .i64 (W : Int), .int .i64 (H : Int), .slice a n c] 26)) ∧ Hid (wr.heap[B + 1]? = some (.cells #[.int .i64 0, .int .i64 0, .slice none 0 0] 26)) ∧ Hid (wr.heap[bO]? = some (.cells #[.int .i64 (W : Int), .int .i64 (H : Int), .slice (some ⟨g, 0, none⟩) N cg] 26))) (fun xv _ => W - (intOf xv).toNat)
      case atStart => exact ⟨0, by omega, rfl, HPR, HB, Kp, Kz, KO⟩
      case round =>
        clear HPR HB Kp Kz KO
        obtain ⟨x, hx, rfl, HPR, HB, Kp, Kz, KO⟩ := hrel
        have kp := unhide Kp
        have kz := unhide Kz
        have kO := unhide KO
        have hlp : B < wr.heap.size := blk_lt kp
        have cp0 : wr.cell? ⟨B, 0, none⟩ = some (.int .i64 (W : Int)) := blk_cell kp 0
        have cp1 : wr.cell? ⟨B, 1, none⟩ = some (.int .i64 (H : Int)) := blk_cell kp 1
        have cp2 : wr.cell? ⟨B, 2, none⟩ = some (.slice a n c) := blk_cell kp 2
        have hlz : B + 1 < wr.heap.size := blk_lt kz
        have cz0 : wr.cell? ⟨B + 1, 0, none⟩ = some (.int .i64 0) := blk_cell kz 0
        have cz1 : wr.cell? ⟨B + 1, 1, none⟩ = some (.int .i64 0) := blk_cell kz 1
        have cz2 : wr.cell? ⟨B + 1, 2, none⟩ = some (.slice none 0 0) := blk_cell kz 2
        have hlO : bO < wr.heap.size := blk_lt kO
        have cO0 : wr.cell? ⟨bO, 0, none⟩ = some (.int .i64 (W : Int)) := blk_cell kO 0
        have cO1 : wr.cell? ⟨bO, 1, none⟩ = some (.int .i64 (H : Int)) := blk_cell kO 1
        have cO2 : wr.cell? ⟨bO, 2, none⟩ = some (.slice (some ⟨g, 0, none⟩) N cg) := blk_cell kO 2
        clear kp kz kO
        by_cases hlx : x < W
        · have d2 : decide ((x : Int) < (W : Int)) = true := by simp; omega
          have d2n : decide (x < W) = true := decide_eq_true hlx
          obtain ⟨i, hi⟩ : ∃ i, i = ix x y := ⟨_, rfl⟩
          have hiN : i < N := by rw [hi]; exact unhide HIX x y hlx hly
          obtain ⟨vy, hvy⟩ : ∃ vy, vy = H - 1 - y := ⟨_, rfl⟩
          have z1 : (H : Int) - 1 - (y : Int) = (vy : Int) := by omega
          obtain ⟨t, ht⟩ : ∃ t, t = vy * W := ⟨_, rfl⟩
          have htb : t ≤ 65536 := by rw [ht]; exact Nat.mul_le_mul (show vy ≤ 256 by omega) hW
          have zt : (vy : Int) * (W : Int) = (t : Int) := by rw [ht]; simp
          have e0 : (t : Int) + (x : Int) = (i : Int) := by rw [hi, unhide HEQ x y hlx hly, ht, hvy]; simp
          have wt : IntKind.i64.wrap (t : Int) = (t : Int) := by rw [IntKind.wrap_i64]; omega
          clear ht hvy
          have wri : IntKind.i64.wrap (i : Int) = (i : Int) := by rw [IntKind.wrap_i64]; omega
          have hiI : (i : Int) < (N : Int) := by omega
          obtain ⟨p1, hp1, hf1⟩ := unhide HPR
          have HPR := hide hp1
          have HF1 := hide hf1
          have HI := hide hi
          clear hp1 hf1
          have HAT := hide (fun wq (h : Below B w wq) => dat_any W H x y a n c p wq (unhide HPW _ (unhide HWB _ h)) hW hH hlx hly (unhide HNW))
          obtain ⟨v, hv⟩ : ∃ v, v = p (y * W + x) := ⟨_, rfl⟩
          rw [← hv] at HAT
          have HV : Hid (v = val x y) := hv.trans (unhide HVAL x y).symm
          unfold Px.val at HAT
          clear hi hv
          go_wp2
          have np : g ≠ B := by omega
          have mp : B ≠ g := by omega
          have nz : g ≠ B + 1 := by omega
          have mz : B + 1 ≠ g := by omega
          have nO : g ≠ bO := by omega
          have mO : bO ≠ g := by omega
          have hdr := (Below.refl wr.heap.size wr).drew
          have hgw : g < wr.heap.size := (unhide HPR).lt
          go_region_held (fun w' => w'.cell? ⟨B, 0, none⟩ = some (.int .i64 (W : Int)) ∧ w'.cell? ⟨B, 1, none⟩ = some (.int .i64 (H : Int)) ∧ w'.cell? ⟨B, 2, none⟩ = some (.slice a n c) ∧ w'.cell? ⟨bO, 0, none⟩ = some (.int .i64 (W : Int)) ∧ w'.cell? ⟨bO, 1, none⟩ = some (.int .i64 (H : Int)) ∧ w'.cell? ⟨bO, 2, none⟩ = some (.slice (some ⟨g, 0, none⟩) N cg)) (first | with_reducible exact ⟨(far4g _ _ _ _ _ _ _ _ _ _ _ _ np).trans ((unhide hk _ _ hlp).trans cp0), (far4g _ _ _ _ _ _ _ _ _ _ _ _ np).trans ((unhide hk _ _ hlp).trans cp1), (far4g _ _ _ _ _ _ _ _ _ _ _ _ np).trans ((unhide hk _ _ hlp).trans cp2), (far4g _ _ _ _ _ _ _ _ _ _ _ _ nO).trans ((unhide hk _ _ hlO).trans cO0), (far4g _ _ _ _ _ _ _ _ _ _ _ _ nO).trans ((unhide hk _ _ hlO).trans cO1), (far4g _ _ _ _ _ _ _ _ _ _ _ _ nO).trans ((unhide hk _ _ hlO).trans cO2)⟩ | with_reducible exact ⟨(unhide hk _ _ hlp).trans cp0, (unhide hk _ _ hlp).trans cp1, (unhide hk _ _ hlp).trans cp2, (unhide hk _ _ hlO).trans cO0, (unhide hk _ _ hlO).trans cO1, (unhide hk _ _ hlO).trans cO2⟩ | exact ⟨cp0, cp1, cp2, cO0, cO1, cO2⟩) (first | (go_at_call 53; refine (unhide HAT wr.drew ((unhide HB).drew)).mono ?_; rintro e w1 ⟨rfl, hb1⟩; have hq := hdr.trans (hb1.mono (Nat.le_refl _)); have hk := hide (fun (k o : Nat) (h : k < wr.heap.size) => hq.cell (p := ⟨k, o, none⟩) h); have HR1 := hide ((unhide HPR).below hq hgw); obtain ⟨t0, t1, t2, t3⟩ := (unhide HR1).px i hiN; have f0 := (unhide HR1).fr (i * 4); have f1 := (unhide HR1).fr (i * 4 + 1); have f2 := (unhide HR1).fr (i * 4 + 2); have f3 := (unhide HR1).fr (i * 4 + 3)))
          have HB1 := hide ((unhide HB).trans (hq.mono (Nat.le_trans (by omega) (Nat.le_refl _))))
          go_wp2
          go_roundw
          case rel => exact ⟨x + 1, by omega, by go_num, (by show ∃ p1, PR _ g N p1 ∧ Fl ix val W (x + 1) y p1; exact ⟨updP p1 i v, (unhide HR1).put hiN v, by rw [unhide HV]; exact (unhide HF1).put (unhide HI) (fun x2 y2 h2 h3 => unhide HAP x2 y2 x y h2 hlx hly h3)⟩), put4_below (unhide HB1) hgB _, (put4_far _ _ _ _ _ mp).trans ((hq.block _ (blk_lt (unhide Kp))).trans (unhide Kp)), (put4_far _ _ _ _ _ mz).trans ((hq.block _ (blk_lt (unhide Kz))).trans (unhide Kz)), (put4_far _ _ _ _ _ mO).trans ((hq.block _ (blk_lt (unhide KO))).trans (unhide KO))⟩
          case measure => simp [intOf]; omega
        · obtain rfl : W = x := by omega
          have d2 : decide ((W : Int) < (W : Int)) = false := by simp
          go_wp2
          go_roundw
          case rel => exact ⟨y + 1, by omega, by go_num, (by obtain ⟨p1, h1, h2⟩ := unhide HPR; exact ⟨p1, h1, h2.row⟩), HB, Kp, Kz, KO⟩
          case measure => simp [intOf]; omega
    · obtain rfl : H = y := by omega
      have d1 : decide ((H : Int) < (H : Int)) = false := by simp
      have kp := unhide Kp
      have kz := unhide Kz
      have kO := unhide KO
      have r0 := blk_frozen kz 0
      have r1 := blk_frozen kz 1
      have r2 := blk_frozen kz 2
      have hlp : B < wr.heap.size := blk_lt kp
      have cp0 : wr.cell? ⟨B, 0, none⟩ = some (.int .i64 (W : Int)) := blk_cell kp 0
      have cp1 : wr.cell? ⟨B, 1, none⟩ = some (.int .i64 (H : Int)) := blk_cell kp 1
      have cp2 : wr.cell? ⟨B, 2, none⟩ = some (.slice a n c) := blk_cell kp 2
      have hlz : B + 1 < wr.heap.size := blk_lt kz
      have cz0 : wr.cell? ⟨B + 1, 0, none⟩ = some (.int .i64 0) := blk_cell kz 0
      have cz1 : wr.cell? ⟨B + 1, 1, none⟩ = some (.int .i64 0) := blk_cell kz 1
      have cz2 : wr.cell? ⟨B + 1, 2, none⟩ = some (.slice none 0 0) := blk_cell kz 2
      have hlO : bO < wr.heap.size := blk_lt kO
      have cO0 : wr.cell? ⟨bO, 0, none⟩ = some (.int .i64 (W : Int)) := blk_cell kO 0
      have cO1 : wr.cell? ⟨bO, 1, none⟩ = some (.int .i64 (H : Int)) := blk_cell kO 1
      have cO2 : wr.cell? ⟨bO, 2, none⟩ = some (.slice (some ⟨g, 0, none⟩) N cg) := blk_cell kO 2
      obtain ⟨p1, hp1, hp2⟩ := unhide HPR
      have HF : Hid (PR wr g N G) := hp1.congr (unhide HFIN p1 hp2)
      clear HPR kp kz kO hp1 hp2
      go_wp2
      refine bodyPost_ret (v := .agg #[.int .i64 (W : Int), .int .i64 (H : Int), .slice (some ⟨g, 0, none⟩) N cg]) ?_ rfl ⟨g, cg, rfl, ?_, ?_⟩
      · rw [results_cellP (p := 4) (ty := 26) (by kernel_rfl)]
        go_simp
      · exact (unhide HF).block (by rw [Below.heap_setCell _ _ _ _ (by show g ≠ B + 1; omega), Below.heap_setCell _ _ _ _ (by show g ≠ B + 1; omega), Below.heap_setCell _ _ _ _ (by show g ≠ B + 1; omega)])
      · rw [← unhide HBE]
        exact ((((unhide HB).setCell (p := ⟨B + 1, 0, none⟩) (by show B ≤ B + 1; omega) _).setCell (p := ⟨B + 1, 1, none⟩) (by show B ≤ B + 1; omega) _).setCell (p := ⟨B + 1, 2, none⟩) (by show B ≤ B + 1; omega) _)

set_option maxHeartbeats 4000000 in
set_option maxRecDepth 100000 in
theorem flipOf_false (W H : Nat) (a : Option Addr) (n c : Nat) (p : Nat → Px) (w : World) (hW0 : 1 ≤ W) (hW : W ≤ 256) (hH0 : 1 ≤ H) (hH : H ≤ 256) (hn : n = W * H) (hP : IsPx w a n p) :
    Calls Tryd.prog 34 #[.agg #[.int .i64 (W : Int), .int .i64 (H : Int), .slice a n c], .bool false] w fun e w' => ∃ g c2, e = .returned (.agg #[.int .i64 (W : Int), .int .i64 (H : Int), .slice (some ⟨g, 0, none⟩) (W * H) c2]) ∧ PR w' g (W * H) (fL W p) ∧ Below w.heap.size w w' := by
  have hn0 : 1 ≤ n := by rw [hn]; exact Nat.mul_le_mul hW0 hH0
  have hNb : n ≤ 65536 := by rw [hn]; exact Nat.mul_le_mul hW hH
  obtain ⟨N, hN⟩ : ∃ N, N = W * H := ⟨_, rfl⟩
  have HNW := hide hn
  have HPW := hide (fun wr (h : Below w.heap.size w wr) => hP.below h)
  obtain ⟨G, hG⟩ : ∃ G, G = fL W p := ⟨_, rfl⟩
  obtain ⟨val, hval⟩ : ∃ val : Nat → Nat → Px, val = fun x y => p (y * W + x) := ⟨_, rfl⟩
  have HVAL : Hid (∀ x y, val x y = p (y * W + x)) := fun x y => by rw [hval]
  obtain ⟨ix, hix⟩ : ∃ ix : Nat → Nat → Nat, ix = fun x y => y * W + (W - 1 - x) := ⟨_, rfl⟩
  have HIX : Hid (∀ x y, x < W → y < H → ix x y < N) := fun x y hx hy => by rw [hix, hN]; exact place_lt (by omega) (by omega)
  have HAP : Hid (∀ x2 y2 x y, x2 < W → x < W → y < H → (y2 < y ∨ (y2 = y ∧ x2 < x)) → ix x2 y2 ≠ ix x y) := fun x2 y2 x y h2 hx hy h3 => by rw [hix]; exact mul_apart (by omega) (by omega) (by omega)
  have HEQ : Hid (∀ x y, x < W → y < H → ix x y = y * W + (W - 1 - x)) := fun x y _ _ => by rw [hix]
  have HFIN : Hid (∀ p1, Fl ix val W 0 H p1 → ∀ i, i < N → p1 i = G i) := fun p1 h => by
    rw [hN, hG]
    refine by_places hW0 fun x y hx hy => ?_
    have q := h (W - 1 - x) y (by omega) (by omega)
    rw [hix, hval] at q
    dsimp only at q
    rw [show W - 1 - (W - 1 - x) = x by omega] at q
    rw [q]
    exact (grid_at W (fun x y => p (y * W + (W - 1 - x))) x y hx).symm
  have hnN : n = N := by rw [hn, hN]
  have HNH : Hid (N = H * W) := by show N = H * W; rw [hN, Nat.mul_comm]
  rw [← hN, ← hG]
  have HO : Hid (∀ w, IsPx w a n p → Calls Tryd.prog 16 #[.agg #[.int .i64 (W : Int), .int .i64 (H : Int), .slice a n c]] w fun e w' => ∃ g c2, e = .returned (.agg #[.int .i64 (W : Int), .int .i64 (H : Int), .slice (some ⟨g, 0, none⟩) N c2]) ∧ w.heap.size ≤ g ∧ PR w' g N p ∧ Below w.heap.size w w') := by
    rw [← hnN]
    exact fun w h => own_rowP W H a n c p w h (by omega) hn0
  rw [hnN] at hNb
  clear hP hn hG hN hval hix hn0 hnN
  have HA := hide (al2 w (.cells #[.int .i64 (W : Int), .int .i64 (H : Int), .slice a n c] 26) (.cells #[.int .i64 0, .int .i64 0, .slice none 0 0] 26))
  obtain ⟨B, hB⟩ : ∃ B, B = w.heap.size := ⟨_, rfl⟩
  go_enter Tryd.func34, Tryd.ntmps34
  go_wp2_with fail
  generalize ((w.alloc (.cells #[.int .i64 (W : Int), .int .i64 (H : Int), .slice a n c] 26)).alloc (.cells #[.int .i64 0, .int .i64 0, .slice none 0 0] 26)) = w1 at *
  rw [← hB] at HA ⊢
  obtain ⟨hs1, kp, kz, hb1⟩ := unhide HA
  have HBE := hide hB
  clear HA hB
  have hs : B + 2 ≤ w1.heap.size := by omega
  have HB := hide hb1
  clear hs1 hb1
  have hwB : ∀ wr, Below B w wr → Below w.heap.size w wr := fun wr h => by rw [← unhide HBE]; exact h
  have HWB := hide hwB
  clear hwB
  refine (unhide HO w1 (unhide HPW _ (unhide HWB _ (unhide HB)))).mono ?_
  rintro e w2 ⟨g, cg, rfl, hg, hpr, hbN⟩
  have hgl : B + 2 ≤ g := by omega
  have hsz := hbN.size
  have kp := blk_below kp hbN (blk_lt kp)
  have kz := blk_below kz hbN (blk_lt kz)
  have HB := hide ((unhide HB).trans (hbN.mono (by omega)))
  have hs : B + 2 ≤ w2.heap.size := by omega
  clear hbN hsz
  have hgs : g < w2.heap.size := hpr.lt
  have hlp : B < w2.heap.size := blk_lt kp
  have cp0 : w2.cell? ⟨B, 0, none⟩ = some (.int .i64 (W : Int)) := blk_cell kp 0
  have cp1 : w2.cell? ⟨B, 1, none⟩ = some (.int .i64 (H : Int)) := blk_cell kp 1
  have cp2 : w2.cell? ⟨B, 2, none⟩ = some (.slice a n c) := blk_cell kp 2
  have hlz : B + 1 < w2.heap.size := blk_lt kz
  have cz0 : w2.cell? ⟨B + 1, 0, none⟩ = some (.int .i64 0) := blk_cell kz 0
  have cz1 : w2.cell? ⟨B + 1, 1, none⟩ = some (.int .i64 0) := blk_cell kz 1
  have cz2 : w2.cell? ⟨B + 1, 2, none⟩ = some (.slice none 0 0) := blk_cell kz 2
  have HA := hide (al1 w2 (.cells #[.int .i64 (W : Int), .int .i64 (H : Int), .slice (some ⟨g, 0, none⟩) N cg] 26))
  obtain ⟨bO, heqO⟩ : ∃ b, b = w2.heap.size := ⟨_, rfl⟩
  go_wp2
  clear cp0 cp1 cp2 cz0 cz1 cz2 hlp hlz
  have hgO : g < bO := by rw [heqO]; exact hgs
  generalize w2.alloc (.cells #[.int .i64 (W : Int), .int .i64 (H : Int), .slice (some ⟨g, 0, none⟩) N cg] 26) = w3 at *
  rw [← heqO] at HA ⊢
  obtain ⟨hsA, kO, hbA⟩ := unhide HA
  have hblkO := fun j (h : j < bO) => hbA.block j h
  rw [heqO] at hbA
  have ltOp : B < bO := by rw [heqO]; exact blk_lt kp
  have ltOz : B + 1 < bO := by rw [heqO]; exact blk_lt kz
  have hgB : B ≤ bO := by rw [heqO]; omega
  clear HA
  have hsz := hbA.size
  have kp := blk_below kp hbA (blk_lt kp)
  have kz := blk_below kz hbA (blk_lt kz)
  have HB := hide ((unhide HB).trans (hbA.mono (by omega)))
  have hs : B + 2 ≤ w3.heap.size := by omega
  clear hbA hsz
  clear heqO hsA
  have HPR := hide (hpr.block (hblkO g hgO))
  clear hpr hgs hg hblkO
  have hgB : B ≤ g := by omega
  have Kp := hide kp
  have Kz := hide kz
  have KO := hide kO
  clear kp kz kO
  go_loopw [6] (fun yv wr => ∃ y : Nat, y ≤ H ∧ yv = .int .i64 (y : Int) ∧ Hid (∃ p1, PR wr g N p1 ∧ Fl ix val W 0 y p1) ∧ Hid (Below B w wr) ∧ Hid (wr.heap[B]? = some (.cells #[.int .i64 (W : Int), .int .i64 (H : Int), .slice a n c] 26)) ∧ Hid (wr.heap[B + 1]? = some (.cells #[.int .i64 0, .int .i64 0, .slice none 0 0] 26)) ∧ Hid (wr.heap[bO]? = some (.cells #[.int .i64 (W : Int), .int .i64 (H : Int), .slice (some ⟨g, 0, none⟩) N cg] 26))) (fun yv _ => H - (intOf yv).toNat)
  case atStart => exact ⟨0, by omega, rfl, ⟨_, unhide HPR, Fl.zero _ _ _ _⟩, HB, Kp, Kz, KO⟩
  case round =>
    clear HPR HB Kp Kz KO hs
    obtain ⟨y, hy, rfl, HPR, HB, Kp, Kz, KO⟩ := hrel
    by_cases hly : y < H
    · have d1 : decide ((y : Int) < (H : Int)) = true := by simp; omega
      have d1n : decide (y < H) = true := decide_eq_true hly
      have kp := unhide Kp
      have kz := unhide Kz
      have kO := unhide KO
      have hlp : B < wr.heap.size := blk_lt kp
      have cp0 : wr.cell? ⟨B, 0, none⟩ = some (.int .i64 (W : Int)) := blk_cell kp 0
      have cp1 : wr.cell? ⟨B, 1, none⟩ = some (.int .i64 (H : Int)) := blk_cell kp 1
      have cp2 : wr.cell? ⟨B, 2, none⟩ = some (.slice a n c) := blk_cell kp 2
      have hlz : B + 1 < wr.heap.size := blk_lt kz
      have cz0 : wr.cell? ⟨B + 1, 0, none⟩ = some (.int .i64 0) := blk_cell kz 0
      have cz1 : wr.cell? ⟨B + 1, 1, none⟩ = some (.int .i64 0) := blk_cell kz 1
      have cz2 : wr.cell? ⟨B + 1, 2, none⟩ = some (.slice none 0 0) := blk_cell kz 2
      have hlO : bO < wr.heap.size := blk_lt kO
      have cO0 : wr.cell? ⟨bO, 0, none⟩ = some (.int .i64 (W : Int)) := blk_cell kO 0
      have cO1 : wr.cell? ⟨bO, 1, none⟩ = some (.int .i64 (H : Int)) := blk_cell kO 1
      have cO2 : wr.cell? ⟨bO, 2, none⟩ = some (.slice (some ⟨g, 0, none⟩) N cg) := blk_cell kO 2
      clear kp kz kO
      go_wp2
      clear cp0 cp1 cp2 cz0 cz1 cz2 cO0 cO1 cO2 hlp hlz hlO
      go_loopw [7] (fun xv wr => ∃ x : Nat, x ≤ W ∧ xv = .int .i64 (x : Int) ∧ Hid (∃ p1, PR wr g N p1 ∧ Fl ix val W x y p1) ∧ Hid (Below B w wr) ∧ Hid (wr.heap[B]? = some (.cells #[.int .i64 (W : Int), .int .i64 (H : Int), .slice a n c] 26)) ∧ Hid (wr.heap[B + 1]? = some (.cells #[.int .i64 0, .int .i64 0, .slice none 0 0] 26)) ∧ Hid (wr.heap[bO]? = some (.cells #[.int .i64 (W : Int), .int .i64 (H : Int), .slice (some ⟨g, 0, none⟩) N cg] 26))) (fun xv _ => W - (intOf xv).toNat)
      case atStart => exact ⟨0, by omega, rfl, HPR, HB, Kp, Kz, KO⟩
      case round =>
        clear HPR HB Kp Kz KO
        obtain ⟨x, hx, rfl, HPR, HB, Kp, Kz, KO⟩ := hrel
        have kp := unhide Kp
        have kz := unhide Kz
        have kO := unhide KO
        have hlp : B < wr.heap.size := blk_lt kp
        have cp0 : wr.cell? ⟨B, 0, none⟩ = some (.int .i64 (W : Int)) := blk_cell kp 0
        have cp1 : wr.cell? ⟨B, 1, none⟩ = some (.int .i64 (H : Int)) := blk_cell kp 1
        have cp2 : wr.cell? ⟨B, 2, none⟩ = some (.slice a n c) := blk_cell kp 2
        have hlz : B + 1 < wr.heap.size := blk_lt kz
        have cz0 : wr.cell? ⟨B + 1, 0, none⟩ = some (.int .i64 0) := blk_cell kz 0
        have cz1 : wr.cell? ⟨B + 1, 1, none⟩ = some (.int .i64 0) := blk_cell kz 1
        have cz2 : wr.cell? ⟨B + 1, 2, none⟩ = some (.slice none 0 0) := blk_cell kz 2
        have hlO : bO < wr.heap.size := blk_lt kO
        have cO0 : wr.cell? ⟨bO, 0, none⟩ = some (.int .i64 (W : Int)) := blk_cell kO 0
        have cO1 : wr.cell? ⟨bO, 1, none⟩ = some (.int .i64 (H : Int)) := blk_cell kO 1
        have cO2 : wr.cell? ⟨bO, 2, none⟩ = some (.slice (some ⟨g, 0, none⟩) N cg) := blk_cell kO 2
        clear kp kz kO
        by_cases hlx : x < W
        · have d2 : decide ((x : Int) < (W : Int)) = true := by simp; omega
          have d2n : decide (x < W) = true := decide_eq_true hlx
          obtain ⟨i, hi⟩ : ∃ i, i = ix x y := ⟨_, rfl⟩
          have hiN : i < N := by rw [hi]; exact unhide HIX x y hlx hly
          obtain ⟨ux, hux⟩ : ∃ ux, ux = W - 1 - x := ⟨_, rfl⟩
          have z1 : (W : Int) - 1 - (x : Int) = (ux : Int) := by omega
          obtain ⟨t, ht⟩ : ∃ t, t = y * W := ⟨_, rfl⟩
          have htb : t ≤ 65536 := by rw [ht]; exact Nat.mul_le_mul (show y ≤ 256 by omega) hW
          have zt : (y : Int) * (W : Int) = (t : Int) := by rw [ht]; simp
          have e0 : (t : Int) + (ux : Int) = (i : Int) := by rw [hi, unhide HEQ x y hlx hly, ht, hux]; simp
          have wt : IntKind.i64.wrap (t : Int) = (t : Int) := by rw [IntKind.wrap_i64]; omega
          clear ht hux
          have wri : IntKind.i64.wrap (i : Int) = (i : Int) := by rw [IntKind.wrap_i64]; omega
          have hiI : (i : Int) < (N : Int) := by omega
          obtain ⟨p1, hp1, hf1⟩ := unhide HPR
          have HPR := hide hp1
          have HF1 := hide hf1
          have HI := hide hi
          clear hp1 hf1
          have HAT := hide (fun wq (h : Below B w wq) => dat_any W H x y a n c p wq (unhide HPW _ (unhide HWB _ h)) hW hH hlx hly (unhide HNW))
          obtain ⟨v, hv⟩ : ∃ v, v = p (y * W + x) := ⟨_, rfl⟩
          rw [← hv] at HAT
          have HV : Hid (v = val x y) := hv.trans (unhide HVAL x y).symm
          unfold Px.val at HAT
          clear hi hv
          go_wp2
          have np : g ≠ B := by omega
          have mp : B ≠ g := by omega
          have nz : g ≠ B + 1 := by omega
          have mz : B + 1 ≠ g := by omega
          have nO : g ≠ bO := by omega
          have mO : bO ≠ g := by omega
          have hdr := (Below.refl wr.heap.size wr).drew
          have hgw : g < wr.heap.size := (unhide HPR).lt
          go_region_held (fun w' => w'.cell? ⟨B, 0, none⟩ = some (.int .i64 (W : Int)) ∧ w'.cell? ⟨B, 1, none⟩ = some (.int .i64 (H : Int)) ∧ w'.cell? ⟨B, 2, none⟩ = some (.slice a n c) ∧ w'.cell? ⟨bO, 0, none⟩ = some (.int .i64 (W : Int)) ∧ w'.cell? ⟨bO, 1, none⟩ = some (.int .i64 (H : Int)) ∧ w'.cell? ⟨bO, 2, none⟩ = some (.slice (some ⟨g, 0, none⟩) N cg)) (first | with_reducible exact ⟨(far4g _ _ _ _ _ _ _ _ _ _ _ _ np).trans ((unhide hk _ _ hlp).trans cp0), (far4g _ _ _ _ _ _ _ _ _ _ _ _ np).trans ((unhide hk _ _ hlp).trans cp1), (far4g _ _ _ _ _ _ _ _ _ _ _ _ np).trans ((unhide hk _ _ hlp).trans cp2), (far4g _ _ _ _ _ _ _ _ _ _ _ _ nO).trans ((unhide hk _ _ hlO).trans cO0), (far4g _ _ _ _ _ _ _ _ _ _ _ _ nO).trans ((unhide hk _ _ hlO).trans cO1), (far4g _ _ _ _ _ _ _ _ _ _ _ _ nO).trans ((unhide hk _ _ hlO).trans cO2)⟩ | with_reducible exact ⟨(unhide hk _ _ hlp).trans cp0, (unhide hk _ _ hlp).trans cp1, (unhide hk _ _ hlp).trans cp2, (unhide hk _ _ hlO).trans cO0, (unhide hk _ _ hlO).trans cO1, (unhide hk _ _ hlO).trans cO2⟩ | exact ⟨cp0, cp1, cp2, cO0, cO1, cO2⟩) (first | (go_at_call 53; refine (unhide HAT wr.drew ((unhide HB).drew)).mono ?_; rintro e w1 ⟨rfl, hb1⟩; have hq := hdr.trans (hb1.mono (Nat.le_refl _)); have hk := hide (fun (k o : Nat) (h : k < wr.heap.size) => hq.cell (p := ⟨k, o, none⟩) h); have HR1 := hide ((unhide HPR).below hq hgw); obtain ⟨t0, t1, t2, t3⟩ := (unhide HR1).px i hiN; have f0 := (unhide HR1).fr (i * 4); have f1 := (unhide HR1).fr (i * 4 + 1); have f2 := (unhide HR1).fr (i * 4 + 2); have f3 := (unhide HR1).fr (i * 4 + 3)))
          have HB1 := hide ((unhide HB).trans (hq.mono (Nat.le_trans (by omega) (Nat.le_refl _))))
          go_wp2
          go_roundw
          case rel => exact ⟨x + 1, by omega, by go_num, (by show ∃ p1, PR _ g N p1 ∧ Fl ix val W (x + 1) y p1; exact ⟨updP p1 i v, (unhide HR1).put hiN v, by rw [unhide HV]; exact (unhide HF1).put (unhide HI) (fun x2 y2 h2 h3 => unhide HAP x2 y2 x y h2 hlx hly h3)⟩), put4_below (unhide HB1) hgB _, (put4_far _ _ _ _ _ mp).trans ((hq.block _ (blk_lt (unhide Kp))).trans (unhide Kp)), (put4_far _ _ _ _ _ mz).trans ((hq.block _ (blk_lt (unhide Kz))).trans (unhide Kz)), (put4_far _ _ _ _ _ mO).trans ((hq.block _ (blk_lt (unhide KO))).trans (unhide KO))⟩
          case measure => simp [intOf]; omega
        · obtain rfl : W = x := by omega
          have d2 : decide ((W : Int) < (W : Int)) = false := by simp
          go_wp2
          go_roundw
          case rel => exact ⟨y + 1, by omega, by go_num, (by obtain ⟨p1, h1, h2⟩ := unhide HPR; exact ⟨p1, h1, h2.row⟩), HB, Kp, Kz, KO⟩
          case measure => simp [intOf]; omega
    · obtain rfl : H = y := by omega
      have d1 : decide ((H : Int) < (H : Int)) = false := by simp
      have kp := unhide Kp
      have kz := unhide Kz
      have kO := unhide KO
      have r0 := blk_frozen kz 0
      have r1 := blk_frozen kz 1
      have r2 := blk_frozen kz 2
      have hlp : B < wr.heap.size := blk_lt kp
      have cp0 : wr.cell? ⟨B, 0, none⟩ = some (.int .i64 (W : Int)) := blk_cell kp 0
      have cp1 : wr.cell? ⟨B, 1, none⟩ = some (.int .i64 (H : Int)) := blk_cell kp 1
      have cp2 : wr.cell? ⟨B, 2, none⟩ = some (.slice a n c) := blk_cell kp 2
      have hlz : B + 1 < wr.heap.size := blk_lt kz
      have cz0 : wr.cell? ⟨B + 1, 0, none⟩ = some (.int .i64 0) := blk_cell kz 0
      have cz1 : wr.cell? ⟨B + 1, 1, none⟩ = some (.int .i64 0) := blk_cell kz 1
      have cz2 : wr.cell? ⟨B + 1, 2, none⟩ = some (.slice none 0 0) := blk_cell kz 2
      have hlO : bO < wr.heap.size := blk_lt kO
      have cO0 : wr.cell? ⟨bO, 0, none⟩ = some (.int .i64 (W : Int)) := blk_cell kO 0
      have cO1 : wr.cell? ⟨bO, 1, none⟩ = some (.int .i64 (H : Int)) := blk_cell kO 1
      have cO2 : wr.cell? ⟨bO, 2, none⟩ = some (.slice (some ⟨g, 0, none⟩) N cg) := blk_cell kO 2
      obtain ⟨p1, hp1, hp2⟩ := unhide HPR
      have HF : Hid (PR wr g N G) := hp1.congr (unhide HFIN p1 hp2)
      clear HPR kp kz kO hp1 hp2
      go_wp2
      refine bodyPost_ret (v := .agg #[.int .i64 (W : Int), .int .i64 (H : Int), .slice (some ⟨g, 0, none⟩) N cg]) ?_ rfl ⟨g, cg, rfl, ?_, ?_⟩
      · rw [results_cellP (p := 4) (ty := 26) (by kernel_rfl)]
        go_simp
      · exact (unhide HF).block (by rw [Below.heap_setCell _ _ _ _ (by show g ≠ B + 1; omega), Below.heap_setCell _ _ _ _ (by show g ≠ B + 1; omega), Below.heap_setCell _ _ _ _ (by show g ≠ B + 1; omega)])
      · rw [← unhide HBE]
        exact ((((unhide HB).setCell (p := ⟨B + 1, 0, none⟩) (by show B ≤ B + 1; omega) _).setCell (p := ⟨B + 1, 1, none⟩) (by show B ≤ B + 1; omega) _).setCell (p := ⟨B + 1, 2, none⟩) (by show B ≤ B + 1; omega) _)

set_option maxHeartbeats 4000000 in
set_option maxRecDepth 100000 in
theorem turnOf_any (W H : Nat) (a : Option Addr) (n c : Nat) (p : Nat → Px) (w : World) (hW : W ≤ 256) (hH0 : 1 ≤ H) (hH : H ≤ 256) (hn : n = W * H) (hP : IsPx w a n p) :
    Calls Tryd.prog 33 #[.agg #[.int .i64 (W : Int), .int .i64 (H : Int), .slice a n c]] w fun e w' => ∃ g c2, e = .returned (.agg #[.int .i64 (H : Int), .int .i64 (W : Int), .slice (some ⟨g, 0, none⟩) (H * W) c2]) ∧ PR w' g (H * W) (tP 1 W H p) ∧ Below w.heap.size w w' := by
  obtain ⟨N, hN⟩ : ∃ N, N = H * W := ⟨_, rfl⟩
  have hNb : N ≤ 65536 := by rw [hN]; exact Nat.mul_le_mul hH hW
  have HNW := hide hn
  have HPW := hide (fun wr (h : Below w.heap.size w wr) => hP.below h)
  obtain ⟨G, hG⟩ : ∃ G, G = tP 1 W H p := ⟨_, rfl⟩
  obtain ⟨val, hval⟩ : ∃ val : Nat → Nat → Px, val = fun x y => p (y * W + x) := ⟨_, rfl⟩
  have HVAL : Hid (∀ x y, val x y = p (y * W + x)) := fun x y => by rw [hval]
  obtain ⟨ix, hix⟩ : ∃ ix : Nat → Nat → Nat, ix = fun x y => x * H + (H - 1 - y) := ⟨_, rfl⟩
  have HIX : Hid (∀ x y, x < W → y < H → ix x y < N) := fun x y hx hy => by rw [hix, hN]; exact place_lt (by omega) (by omega)
  have HAP : Hid (∀ x2 y2 x y, x2 < W → x < W → y < H → (y2 < y ∨ (y2 = y ∧ x2 < x)) → ix x2 y2 ≠ ix x y) := fun x2 y2 x y h2 hx hy h3 => by rw [hix]; exact mul_apart (by omega) (by omega) (by omega)
  have HEQ : Hid (∀ x y, x < W → y < H → ix x y = x * H + (H - 1 - y)) := fun x y _ _ => by rw [hix]
  have HFIN : Hid (∀ p1, Fl ix val W 0 H p1 → ∀ i, i < N → p1 i = G i) := fun p1 h => by
    rw [hN, hG]
    refine by_places hH0 fun x y hx hy => ?_
    have q := h y (H - 1 - x) hy (by omega)
    rw [hix, hval] at q
    dsimp only at q
    rw [show H - 1 - (H - 1 - x) = x by omega] at q
    rw [q]
    exact (grid_at H (tG 1 W H p) x y hx).symm
  rw [← hN, ← hG]
  have HBl : Hid (∀ w, Calls Tryd.prog 14 #[.int .i64 (H : Int), .int .i64 (W : Int), .agg #[.int .u8 0, .int .u8 0, .int .u8 0, .int .u8 0]] w fun e w' => ∃ g c, e = .returned (.agg #[.int .i64 (H : Int), .int .i64 (W : Int), .slice (some ⟨g, 0, none⟩) N c]) ∧ w.heap.size ≤ g ∧ PR w' g N (fun _ => px0) ∧ Below w.heap.size w w') := by
    rw [hN]
    exact fun w => blankP_any H W px0 w hH hW
  clear hP hn hG hN hval hix
  have HA := hide (al2 w (.cells #[.int .i64 (W : Int), .int .i64 (H : Int), .slice a n c] 26) (.cells #[.int .i64 0, .int .i64 0, .slice none 0 0] 26))
  obtain ⟨B, hB⟩ : ∃ B, B = w.heap.size := ⟨_, rfl⟩
  go_enter Tryd.func33, Tryd.ntmps33
  go_wp2_with fail
  generalize ((w.alloc (.cells #[.int .i64 (W : Int), .int .i64 (H : Int), .slice a n c] 26)).alloc (.cells #[.int .i64 0, .int .i64 0, .slice none 0 0] 26)) = w1 at *
  rw [← hB] at HA ⊢
  obtain ⟨hs1, kp, kz, hb1⟩ := unhide HA
  have HBE := hide hB
  clear HA hB
  have hs : B + 2 ≤ w1.heap.size := by omega
  have HB := hide hb1
  clear hs1 hb1
  have hwB : ∀ wr, Below B w wr → Below w.heap.size w wr := fun wr h => by rw [← unhide HBE]; exact h
  have HWB := hide hwB
  clear hwB
  refine (unhide HBl w1).mono ?_
  rintro e w2 ⟨g, cg, rfl, hg, hpr, hbN⟩
  have hgl : B + 2 ≤ g := by omega
  have hsz := hbN.size
  have kp := blk_below kp hbN (blk_lt kp)
  have kz := blk_below kz hbN (blk_lt kz)
  have HB := hide ((unhide HB).trans (hbN.mono (by omega)))
  have hs : B + 2 ≤ w2.heap.size := by omega
  clear hbN hsz
  have hgs : g < w2.heap.size := hpr.lt
  have hlp : B < w2.heap.size := blk_lt kp
  have cp0 : w2.cell? ⟨B, 0, none⟩ = some (.int .i64 (W : Int)) := blk_cell kp 0
  have cp1 : w2.cell? ⟨B, 1, none⟩ = some (.int .i64 (H : Int)) := blk_cell kp 1
  have cp2 : w2.cell? ⟨B, 2, none⟩ = some (.slice a n c) := blk_cell kp 2
  have hlz : B + 1 < w2.heap.size := blk_lt kz
  have cz0 : w2.cell? ⟨B + 1, 0, none⟩ = some (.int .i64 0) := blk_cell kz 0
  have cz1 : w2.cell? ⟨B + 1, 1, none⟩ = some (.int .i64 0) := blk_cell kz 1
  have cz2 : w2.cell? ⟨B + 1, 2, none⟩ = some (.slice none 0 0) := blk_cell kz 2
  have HA := hide (al1 w2 (.cells #[.int .i64 (H : Int), .int .i64 (W : Int), .slice (some ⟨g, 0, none⟩) N cg] 26))
  obtain ⟨bO, heqO⟩ : ∃ b, b = w2.heap.size := ⟨_, rfl⟩
  go_wp2
  clear cp0 cp1 cp2 cz0 cz1 cz2 hlp hlz
  have hgO : g < bO := by rw [heqO]; exact hgs
  generalize w2.alloc (.cells #[.int .i64 (H : Int), .int .i64 (W : Int), .slice (some ⟨g, 0, none⟩) N cg] 26) = w3 at *
  rw [← heqO] at HA ⊢
  obtain ⟨hsA, kO, hbA⟩ := unhide HA
  have hblkO := fun j (h : j < bO) => hbA.block j h
  rw [heqO] at hbA
  have ltOp : B < bO := by rw [heqO]; exact blk_lt kp
  have ltOz : B + 1 < bO := by rw [heqO]; exact blk_lt kz
  have hgB : B ≤ bO := by rw [heqO]; omega
  clear HA
  have hsz := hbA.size
  have kp := blk_below kp hbA (blk_lt kp)
  have kz := blk_below kz hbA (blk_lt kz)
  have HB := hide ((unhide HB).trans (hbA.mono (by omega)))
  have hs : B + 2 ≤ w3.heap.size := by omega
  clear hbA hsz
  clear heqO hsA
  have HPR := hide (hpr.block (hblkO g hgO))
  clear hpr hgs hg hblkO
  have hgB : B ≤ g := by omega
  have Kp := hide kp
  have Kz := hide kz
  have KO := hide kO
  clear kp kz kO
  go_loopw [4] (fun yv wr => ∃ y : Nat, y ≤ H ∧ yv = .int .i64 (y : Int) ∧ Hid (∃ p1, PR wr g N p1 ∧ Fl ix val W 0 y p1) ∧ Hid (Below B w wr) ∧ Hid (wr.heap[B]? = some (.cells #[.int .i64 (W : Int), .int .i64 (H : Int), .slice a n c] 26)) ∧ Hid (wr.heap[B + 1]? = some (.cells #[.int .i64 0, .int .i64 0, .slice none 0 0] 26)) ∧ Hid (wr.heap[bO]? = some (.cells #[.int .i64 (H : Int), .int .i64 (W : Int), .slice (some ⟨g, 0, none⟩) N cg] 26))) (fun yv _ => H - (intOf yv).toNat)
  case atStart => exact ⟨0, by omega, rfl, ⟨_, unhide HPR, Fl.zero _ _ _ _⟩, HB, Kp, Kz, KO⟩
  case round =>
    clear HPR HB Kp Kz KO hs
    obtain ⟨y, hy, rfl, HPR, HB, Kp, Kz, KO⟩ := hrel
    by_cases hly : y < H
    · have d1 : decide ((y : Int) < (H : Int)) = true := by simp; omega
      have d1n : decide (y < H) = true := decide_eq_true hly
      have kp := unhide Kp
      have kz := unhide Kz
      have kO := unhide KO
      have hlp : B < wr.heap.size := blk_lt kp
      have cp0 : wr.cell? ⟨B, 0, none⟩ = some (.int .i64 (W : Int)) := blk_cell kp 0
      have cp1 : wr.cell? ⟨B, 1, none⟩ = some (.int .i64 (H : Int)) := blk_cell kp 1
      have cp2 : wr.cell? ⟨B, 2, none⟩ = some (.slice a n c) := blk_cell kp 2
      have hlz : B + 1 < wr.heap.size := blk_lt kz
      have cz0 : wr.cell? ⟨B + 1, 0, none⟩ = some (.int .i64 0) := blk_cell kz 0
      have cz1 : wr.cell? ⟨B + 1, 1, none⟩ = some (.int .i64 0) := blk_cell kz 1
      have cz2 : wr.cell? ⟨B + 1, 2, none⟩ = some (.slice none 0 0) := blk_cell kz 2
      have hlO : bO < wr.heap.size := blk_lt kO
      have cO0 : wr.cell? ⟨bO, 0, none⟩ = some (.int .i64 (H : Int)) := blk_cell kO 0
      have cO1 : wr.cell? ⟨bO, 1, none⟩ = some (.int .i64 (W : Int)) := blk_cell kO 1
      have cO2 : wr.cell? ⟨bO, 2, none⟩ = some (.slice (some ⟨g, 0, none⟩) N cg) := blk_cell kO 2
      clear kp kz kO
      go_wp2
      clear cp0 cp1 cp2 cz0 cz1 cz2 cO0 cO1 cO2 hlp hlz hlO
      go_loopw [5] (fun xv wr => ∃ x : Nat, x ≤ W ∧ xv = .int .i64 (x : Int) ∧ Hid (∃ p1, PR wr g N p1 ∧ Fl ix val W x y p1) ∧ Hid (Below B w wr) ∧ Hid (wr.heap[B]? = some (.cells #[.int .i64 (W : Int), .int .i64 (H : Int), .slice a n c] 26)) ∧ Hid (wr.heap[B + 1]? = some (.cells #[.int .i64 0, .int .i64 0, .slice none 0 0] 26)) ∧ Hid (wr.heap[bO]? = some (.cells #[.int .i64 (H : Int), .int .i64 (W : Int), .slice (some ⟨g, 0, none⟩) N cg] 26))) (fun xv _ => W - (intOf xv).toNat)
      case atStart => exact ⟨0, by omega, rfl, HPR, HB, Kp, Kz, KO⟩
      case round =>
        clear HPR HB Kp Kz KO
        obtain ⟨x, hx, rfl, HPR, HB, Kp, Kz, KO⟩ := hrel
        have kp := unhide Kp
        have kz := unhide Kz
        have kO := unhide KO
        have hlp : B < wr.heap.size := blk_lt kp
        have cp0 : wr.cell? ⟨B, 0, none⟩ = some (.int .i64 (W : Int)) := blk_cell kp 0
        have cp1 : wr.cell? ⟨B, 1, none⟩ = some (.int .i64 (H : Int)) := blk_cell kp 1
        have cp2 : wr.cell? ⟨B, 2, none⟩ = some (.slice a n c) := blk_cell kp 2
        have hlz : B + 1 < wr.heap.size := blk_lt kz
        have cz0 : wr.cell? ⟨B + 1, 0, none⟩ = some (.int .i64 0) := blk_cell kz 0
        have cz1 : wr.cell? ⟨B + 1, 1, none⟩ = some (.int .i64 0) := blk_cell kz 1
        have cz2 : wr.cell? ⟨B + 1, 2, none⟩ = some (.slice none 0 0) := blk_cell kz 2
        have hlO : bO < wr.heap.size := blk_lt kO
        have cO0 : wr.cell? ⟨bO, 0, none⟩ = some (.int .i64 (H : Int)) := blk_cell kO 0
        have cO1 : wr.cell? ⟨bO, 1, none⟩ = some (.int .i64 (W : Int)) := blk_cell kO 1
        have cO2 : wr.cell? ⟨bO, 2, none⟩ = some (.slice (some ⟨g, 0, none⟩) N cg) := blk_cell kO 2
        clear kp kz kO
        by_cases hlx : x < W
        · have d2 : decide ((x : Int) < (W : Int)) = true := by simp; omega
          have d2n : decide (x < W) = true := decide_eq_true hlx
          obtain ⟨i, hi⟩ : ∃ i, i = ix x y := ⟨_, rfl⟩
          have hiN : i < N := by rw [hi]; exact unhide HIX x y hlx hly
          obtain ⟨t, ht⟩ : ∃ t, t = x * H := ⟨_, rfl⟩
          have htb : t ≤ 65536 := by rw [ht]; exact Nat.mul_le_mul (show x ≤ 256 by omega) hH
          have zt : (x : Int) * (H : Int) = (t : Int) := by rw [ht]; simp
          obtain ⟨t2, ht2⟩ : ∃ t2, t2 = t + H := ⟨_, rfl⟩
          have z2 : (t : Int) + (H : Int) = (t2 : Int) := by rw [ht2]; simp
          obtain ⟨t3, ht3⟩ : ∃ t3, t3 = t2 - 1 := ⟨_, rfl⟩
          have z3 : (t2 : Int) - 1 = (t3 : Int) := by omega
          have hie : i = t + (H - 1 - y) := by rw [hi, unhide HEQ x y hlx hly, ht]
          have z4 : (t3 : Int) - (y : Int) = (i : Int) := by omega
          have wt : IntKind.i64.wrap (t : Int) = (t : Int) := by rw [IntKind.wrap_i64]; omega
          have wt2 : IntKind.i64.wrap (t2 : Int) = (t2 : Int) := by rw [IntKind.wrap_i64]; omega
          have wt3 : IntKind.i64.wrap (t3 : Int) = (t3 : Int) := by rw [IntKind.wrap_i64]; omega
          clear ht ht2 ht3 hie
          have wri : IntKind.i64.wrap (i : Int) = (i : Int) := by rw [IntKind.wrap_i64]; omega
          have hiI : (i : Int) < (N : Int) := by omega
          obtain ⟨p1, hp1, hf1⟩ := unhide HPR
          have HPR := hide hp1
          have HF1 := hide hf1
          have HI := hide hi
          clear hp1 hf1
          have HAT := hide (fun wq (h : Below B w wq) => dat_any W H x y a n c p wq (unhide HPW _ (unhide HWB _ h)) hW hH hlx hly (unhide HNW))
          obtain ⟨v, hv⟩ : ∃ v, v = p (y * W + x) := ⟨_, rfl⟩
          rw [← hv] at HAT
          have HV : Hid (v = val x y) := hv.trans (unhide HVAL x y).symm
          unfold Px.val at HAT
          clear hi hv
          go_wp2
          have np : g ≠ B := by omega
          have mp : B ≠ g := by omega
          have nz : g ≠ B + 1 := by omega
          have mz : B + 1 ≠ g := by omega
          have nO : g ≠ bO := by omega
          have mO : bO ≠ g := by omega
          have hdr := (Below.refl wr.heap.size wr).drew
          have hgw : g < wr.heap.size := (unhide HPR).lt
          go_region_held (fun w' => w'.cell? ⟨B, 0, none⟩ = some (.int .i64 (W : Int)) ∧ w'.cell? ⟨B, 1, none⟩ = some (.int .i64 (H : Int)) ∧ w'.cell? ⟨B, 2, none⟩ = some (.slice a n c) ∧ w'.cell? ⟨bO, 0, none⟩ = some (.int .i64 (H : Int)) ∧ w'.cell? ⟨bO, 1, none⟩ = some (.int .i64 (W : Int)) ∧ w'.cell? ⟨bO, 2, none⟩ = some (.slice (some ⟨g, 0, none⟩) N cg)) (first | with_reducible exact ⟨(far4g _ _ _ _ _ _ _ _ _ _ _ _ np).trans ((unhide hk _ _ hlp).trans cp0), (far4g _ _ _ _ _ _ _ _ _ _ _ _ np).trans ((unhide hk _ _ hlp).trans cp1), (far4g _ _ _ _ _ _ _ _ _ _ _ _ np).trans ((unhide hk _ _ hlp).trans cp2), (far4g _ _ _ _ _ _ _ _ _ _ _ _ nO).trans ((unhide hk _ _ hlO).trans cO0), (far4g _ _ _ _ _ _ _ _ _ _ _ _ nO).trans ((unhide hk _ _ hlO).trans cO1), (far4g _ _ _ _ _ _ _ _ _ _ _ _ nO).trans ((unhide hk _ _ hlO).trans cO2)⟩ | with_reducible exact ⟨(unhide hk _ _ hlp).trans cp0, (unhide hk _ _ hlp).trans cp1, (unhide hk _ _ hlp).trans cp2, (unhide hk _ _ hlO).trans cO0, (unhide hk _ _ hlO).trans cO1, (unhide hk _ _ hlO).trans cO2⟩ | exact ⟨cp0, cp1, cp2, cO0, cO1, cO2⟩) (first | (go_at_call 53; refine (unhide HAT wr.drew ((unhide HB).drew)).mono ?_; rintro e w1 ⟨rfl, hb1⟩; have hq := hdr.trans (hb1.mono (Nat.le_refl _)); have hk := hide (fun (k o : Nat) (h : k < wr.heap.size) => hq.cell (p := ⟨k, o, none⟩) h); have HR1 := hide ((unhide HPR).below hq hgw); obtain ⟨t0, t1, t2, t3⟩ := (unhide HR1).px i hiN; have f0 := (unhide HR1).fr (i * 4); have f1 := (unhide HR1).fr (i * 4 + 1); have f2 := (unhide HR1).fr (i * 4 + 2); have f3 := (unhide HR1).fr (i * 4 + 3)))
          have HB1 := hide ((unhide HB).trans (hq.mono (Nat.le_trans (by omega) (Nat.le_refl _))))
          go_wp2
          go_roundw
          case rel => exact ⟨x + 1, by omega, by go_num, (by show ∃ p1, PR _ g N p1 ∧ Fl ix val W (x + 1) y p1; exact ⟨updP p1 i v, (unhide HR1).put hiN v, by rw [unhide HV]; exact (unhide HF1).put (unhide HI) (fun x2 y2 h2 h3 => unhide HAP x2 y2 x y h2 hlx hly h3)⟩), put4_below (unhide HB1) hgB _, (put4_far _ _ _ _ _ mp).trans ((hq.block _ (blk_lt (unhide Kp))).trans (unhide Kp)), (put4_far _ _ _ _ _ mz).trans ((hq.block _ (blk_lt (unhide Kz))).trans (unhide Kz)), (put4_far _ _ _ _ _ mO).trans ((hq.block _ (blk_lt (unhide KO))).trans (unhide KO))⟩
          case measure => simp [intOf]; omega
        · obtain rfl : W = x := by omega
          have d2 : decide ((W : Int) < (W : Int)) = false := by simp
          go_wp2
          go_roundw
          case rel => exact ⟨y + 1, by omega, by go_num, (by obtain ⟨p1, h1, h2⟩ := unhide HPR; exact ⟨p1, h1, h2.row⟩), HB, Kp, Kz, KO⟩
          case measure => simp [intOf]; omega
    · obtain rfl : H = y := by omega
      have d1 : decide ((H : Int) < (H : Int)) = false := by simp
      have kp := unhide Kp
      have kz := unhide Kz
      have kO := unhide KO
      have r0 := blk_frozen kz 0
      have r1 := blk_frozen kz 1
      have r2 := blk_frozen kz 2
      have hlp : B < wr.heap.size := blk_lt kp
      have cp0 : wr.cell? ⟨B, 0, none⟩ = some (.int .i64 (W : Int)) := blk_cell kp 0
      have cp1 : wr.cell? ⟨B, 1, none⟩ = some (.int .i64 (H : Int)) := blk_cell kp 1
      have cp2 : wr.cell? ⟨B, 2, none⟩ = some (.slice a n c) := blk_cell kp 2
      have hlz : B + 1 < wr.heap.size := blk_lt kz
      have cz0 : wr.cell? ⟨B + 1, 0, none⟩ = some (.int .i64 0) := blk_cell kz 0
      have cz1 : wr.cell? ⟨B + 1, 1, none⟩ = some (.int .i64 0) := blk_cell kz 1
      have cz2 : wr.cell? ⟨B + 1, 2, none⟩ = some (.slice none 0 0) := blk_cell kz 2
      have hlO : bO < wr.heap.size := blk_lt kO
      have cO0 : wr.cell? ⟨bO, 0, none⟩ = some (.int .i64 (H : Int)) := blk_cell kO 0
      have cO1 : wr.cell? ⟨bO, 1, none⟩ = some (.int .i64 (W : Int)) := blk_cell kO 1
      have cO2 : wr.cell? ⟨bO, 2, none⟩ = some (.slice (some ⟨g, 0, none⟩) N cg) := blk_cell kO 2
      obtain ⟨p1, hp1, hp2⟩ := unhide HPR
      have HF : Hid (PR wr g N G) := hp1.congr (unhide HFIN p1 hp2)
      clear HPR kp kz kO hp1 hp2
      go_wp2
      refine bodyPost_ret (v := .agg #[.int .i64 (H : Int), .int .i64 (W : Int), .slice (some ⟨g, 0, none⟩) N cg]) ?_ rfl ⟨g, cg, rfl, ?_, ?_⟩
      · rw [results_cellP (p := 2) (ty := 26) (by kernel_rfl)]
        go_simp
      · exact (unhide HF).block (by rw [Below.heap_setCell _ _ _ _ (by show g ≠ B + 1; omega), Below.heap_setCell _ _ _ _ (by show g ≠ B + 1; omega), Below.heap_setCell _ _ _ _ (by show g ≠ B + 1; omega)])
      · rw [← unhide HBE]
        exact ((((unhide HB).setCell (p := ⟨B + 1, 0, none⟩) (by show B ≤ B + 1; omega) _).setCell (p := ⟨B + 1, 1, none⟩) (by show B ≤ B + 1; omega) _).setCell (p := ⟨B + 1, 2, none⟩) (by show B ≤ B + 1; omega) _)

end Go.Proofs.YtjchafbihfblnahDoor
