/- Pictures of another size, and halved: what the program answers. Written by genrl.py. -/
import Derived.Test.YtjchafbihfblnahDoorRtA
import Derived.Test.YtjchafbihfblnahDoorRtB
import Derived.Test.YtjchafbihfblnahDoorMi1
namespace Go.Proofs.YtjchafbihfblnahDoor
open Go.RowKit

/-- How many of two places there are. -/
def hcw (W x : Nat) : Nat := min (2 * x + 2) W - 2 * x
/-- The mean of four pixels, or of as many as there are. -/
def halfG (W H : Nat) (p : Nat → Px) (x y : Nat) : Px := mixP (grid (hcw W x) fun i j => p ((2 * y + j) * W + (2 * x + i))) (hcw W x * hcw H y)

set_option maxHeartbeats 4000000 in
set_option maxRecDepth 100000 in
theorem halfC (W H kp : Nat) (a : Option Addr) (n c : Nat) (p : Nat → Px) (x y : Nat) (w : World) (hP : IsPx w a n p) (hW : W ≤ 256) (hH : H ≤ 256) (hn : n = W * H) (hx : 2 * x < W) (hy : 2 * y < H)
    (bp : w.heap[kp]? = some (.cells #[.int .i64 (W : Int), .int .i64 (H : Int), .slice a n c] 26)) :
    Calls Tryd.prog 62 #[.int .i64 (x : Int), .int .i64 (y : Int), .pointer (some ⟨kp, 0, none⟩)] w fun e w' => e = .returned (halfG W H p x y).val ∧ Below w.heap.size w w' := by
  obtain ⟨X, hX⟩ : ∃ X, X = 2 * x := ⟨_, rfl⟩
  obtain ⟨Y, hY⟩ : ∃ Y, Y = 2 * y := ⟨_, rfl⟩
  have z1 : 2 * (x : Int) = (X : Int) := by omega
  have z2 : 2 * (y : Int) = (Y : Int) := by omega
  have hXb : X ≤ 256 := by omega
  have hYb : Y ≤ 256 := by omega
  have wX : IntKind.i64.wrap (X : Int) = (X : Int) := by rw [IntKind.wrap_i64]; omega
  have wY : IntKind.i64.wrap (Y : Int) = (Y : Int) := by rw [IntKind.wrap_i64]; omega
  have hm4 : hcw W x * hcw H y ≤ 100000 := Nat.le_trans (Nat.mul_le_mul (show hcw W x ≤ 2 by unfold hcw; omega) (show hcw H y ≤ 2 by unfold hcw; omega)) (by omega)
  have HF := hide (fun wr (h : Below w.heap.size w wr) => fourAt_any W H a n c p X Y (min (X + 2) W) (min (Y + 2) H) (hcw W x) (hcw H y) wr (hP.below h) hW hH hn rfl rfl (by unfold hcw; omega) (by unfold hcw; omega) (by omega) (by omega))
  have HM := hide (fun wr a c (h : IsPx wr a (hcw W x * hcw H y) (grid (hcw W x) fun i j => p ((Y + j) * W + (X + i)))) => mix_any a _ c _ wr h hm4)
  have HV : Hid (halfG W H p x y = mixP (grid (hcw W x) fun i j => p ((Y + j) * W + (X + i))) (hcw W x * hcw H y)) := by show _ = _; rw [hX, hY]; rfl
  rw [unhide HV]
  generalize mixP (grid (hcw W x) fun i j => p ((Y + j) * W + (X + i))) (hcw W x * hcw H y) = q at *
  obtain ⟨N, hN⟩ : ∃ N, N = hcw W x * hcw H y := ⟨_, rfl⟩
  rw [← hN] at HF HM
  have hlp := blk_lt bp
  have BP := hide bp
  unfold Px.val at *
  clear hP hn hx hy hX hY hN hm4 HV bp
  have HA := hide (al1 w (.cells #[.int .u8 0, .int .u8 0, .int .u8 0, .int .u8 0] 23))
  obtain ⟨B, hB⟩ : ∃ B, B = w.heap.size := ⟨_, rfl⟩
  go_enter Tryd.func62, Tryd.ntmps62
  have bpA := blk_alloc (unhide BP) (.cells #[.int .u8 0, .int .u8 0, .int .u8 0, .int .u8 0] 23)
  have cA0 : (w.alloc (.cells #[.int .u8 0, .int .u8 0, .int .u8 0, .int .u8 0] 23)).cell? ⟨kp, 0, none⟩ = some (.int .i64 (W : Int)) := blk_cell bpA 0
  have cA1 : (w.alloc (.cells #[.int .u8 0, .int .u8 0, .int .u8 0, .int .u8 0] 23)).cell? ⟨kp, 1, none⟩ = some (.int .i64 (H : Int)) := blk_cell bpA 1
  have cA2 : (w.alloc (.cells #[.int .u8 0, .int .u8 0, .int .u8 0, .int .u8 0] 23)).cell? ⟨kp, 2, none⟩ = some (.slice a n c) := blk_cell bpA 2
  go_wp2_with fail
  generalize (w.alloc (.cells #[.int .u8 0, .int .u8 0, .int .u8 0, .int .u8 0] 23)) = w1 at *
  rw [← hB] at HA ⊢
  obtain ⟨hs1, kz, hb1⟩ := unhide HA
  have HBE := hide hB
  clear HA hB
  have hs : B + 1 ≤ w1.heap.size := by omega
  have HB := hide hb1
  clear hs1 hb1
  clear bpA cA0 cA1 cA2 BP
  have hbF := (show Below w.heap.size w w1 by rw [← unhide HBE]; exact unhide HB)
  refine (unhide HF _ hbF).mono ?_
  rintro e w2 ⟨a1, c1, rfl, hpx, hbN⟩
  have hsz := hbN.size
  have kz := blk_below kz hbN (blk_lt kz)
  have HB := hide ((unhide HB).trans (hbN.mono (by omega)))
  have hs : B + 1 ≤ w2.heap.size := by omega
  clear hbN hsz
  have HX1 := hide hpx
  clear hpx
  clear hbF
  have hlz : B < w2.heap.size := blk_lt kz
  have cz0 : w2.cell? ⟨B, 0, none⟩ = some (.int .u8 0) := blk_cell kz 0
  have cz1 : w2.cell? ⟨B, 1, none⟩ = some (.int .u8 0) := blk_cell kz 1
  have cz2 : w2.cell? ⟨B, 2, none⟩ = some (.int .u8 0) := blk_cell kz 2
  have cz3 : w2.cell? ⟨B, 3, none⟩ = some (.int .u8 0) := blk_cell kz 3
  go_wp2_with fail
  clear cz0 cz1 cz2 cz3 hlz
  refine (unhide HM w2 _ _ (unhide HX1)).mono ?_
  rintro e w3 ⟨rfl, hbN⟩
  have hsz := hbN.size
  have kz := blk_below kz hbN (blk_lt kz)
  have HX1 := hide ((unhide HX1).below hbN)
  have HB := hide ((unhide HB).trans (hbN.mono (by omega)))
  have hs : B + 1 ≤ w3.heap.size := by omega
  clear hbN hsz
  have r0 := blk_frozen kz 0
  have r1 := blk_frozen kz 1
  have r2 := blk_frozen kz 2
  have r3 := blk_frozen kz 3
  have hlz : B < w3.heap.size := blk_lt kz
  have cz0 : w3.cell? ⟨B, 0, none⟩ = some (.int .u8 0) := blk_cell kz 0
  have cz1 : w3.cell? ⟨B, 1, none⟩ = some (.int .u8 0) := blk_cell kz 1
  have cz2 : w3.cell? ⟨B, 2, none⟩ = some (.int .u8 0) := blk_cell kz 2
  have cz3 : w3.cell? ⟨B, 3, none⟩ = some (.int .u8 0) := blk_cell kz 3
  go_wp2
  refine bodyPost_ret (v := .agg #[.int .u8 (q.r.toNat : Int), .int .u8 (q.g.toNat : Int), .int .u8 (q.b.toNat : Int), .int .u8 (q.a.toNat : Int)]) ?_ rfl ⟨rfl, ?_⟩
  · rw [results_cellP (p := 5) (ty := 23) (by kernel_rfl)]
    go_simp
  · rw [← unhide HBE]
    exact (((((unhide HB).setCell (p := ⟨B, 0, none⟩) (Nat.le_refl _) _).setCell (p := ⟨B, 1, none⟩) (Nat.le_refl _) _).setCell (p := ⟨B, 2, none⟩) (Nat.le_refl _) _).setCell (p := ⟨B, 3, none⟩) (Nat.le_refl _) _)
set_option maxHeartbeats 4000000 in
set_option maxRecDepth 100000 in
theorem scale_ok (W H : Nat) (a : Option Addr) (n c : Nat) (u : Nat) (v : Nat) (p : Nat → Px)  (w : World) (hW0 : 1 ≤ W) (hW : W ≤ 256) (hH0 : 1 ≤ H) (hH : H ≤ 256) (hn : n = W * H) (hP : IsPx w a n p) (hu0 : 1 ≤ u) (hu : u ≤ 256) (hv0 : 1 ≤ v) (hv : v ≤ 256) :
    Calls Tryd.prog 32 #[.agg #[.int .i64 (W : Int), .int .i64 (H : Int), .slice a n c], .int .i64 (u : Int), .int .i64 (v : Int)] w fun e w' => ∃ a2 c2, e = .returned (.tuple #[.agg #[.int .i64 (u : Int), .int .i64 (v : Int), .slice a2 (u * v) c2], .nilIface]) ∧ IsPx w' a2 (u * v) (grid u fun x y => p ((y * H / v) * W + (x * W / u))) ∧ Below w.heap.size w w' := by
  have HA := hide (al4 w (.cells #[.int .i64 (W : Int), .int .i64 (H : Int), .slice a n c] 26) (.cells #[.int .i64 (u : Int)] 3) (.cells #[.int .i64 (v : Int)] 3) (.cells #[.int .i64 0, .int .i64 0, .slice none 0 0] 26))
  have HR := hide (fun w => isRight_any W H a n c w)
  rw [decide_eq_true (rightN hW0 hW hH0 hH hn)] at HR
  have HS := hide (fun w => areSides_any u v w)
  rw [decide_eq_true (by omega)] at HS
  have HM : Hid (∀ wr, wr.heap[w.heap.size]? = some (.cells #[.int .i64 (W : Int), .int .i64 (H : Int), .slice a n c] 26) → wr.heap[w.heap.size + 1]? = some (.cells #[.int .i64 (u : Int)] 3) → wr.heap[w.heap.size + 2]? = some (.cells #[.int .i64 (v : Int)] 3) → wr.heap[w.heap.size + 3]? = some (.cells #[.int .i64 0, .int .i64 0, .slice none 0 0] 26) → Below w.heap.size w wr → w.heap.size + 4 ≤ wr.heap.size → Calls Tryd.prog 41 #[.int .i64 (u : Int), .int .i64 (v : Int), .func (.func 65) #[] #[.pointer (some ⟨w.heap.size, 0, none⟩), .pointer (some ⟨w.heap.size + 1, 0, none⟩), .pointer (some ⟨w.heap.size + 2, 0, none⟩)]] wr fun e w' => ∃ a2 c2, e = .returned (.agg #[.int .i64 (u : Int), .int .i64 (v : Int), .slice a2 (u * v) c2]) ∧ IsPxN wr.heap.size w' a2 (u * v) (grid u fun x y => p ((y * H / v) * W + (x * W / u))) ∧ Below wr.heap.size wr w') := fun wr k0 k1 k2 k3 hb hsz => by
    refine made_any u v 65 _ _ wr hu0 hu hv (fun args w => by go_simp) (fun x y wq hx hy hq => ?_)
    have hP2 := hP.below (hb.trans (hq.mono hb.size))
    exact scaleC W H _ _ _ a n c p u v x y wq hP2 hW0 hW hH0 hH hn hu0 hu hv0 hv hx hy (blk_below k0 hq (by omega)) (blk_below k1 hq (by omega)) (blk_below k2 hq (by omega))
  have hmf : ∀ (fn : Fn) (first cap : Array Value) (w : World), (Instr.makeFunc fn first cap).run Tryd.prog w = .ok (.func fn first cap) w := fun _ _ _ _ => rfl
  obtain ⟨B, hB⟩ : ∃ B, B = w.heap.size := ⟨_, rfl⟩
  clear hP hn
  go_enter Tryd.func32, Tryd.ntmps32
  go_wp2_with fail
  refine (unhide HR _).mono ?_
  generalize ((((w.alloc (.cells #[.int .i64 (W : Int), .int .i64 (H : Int), .slice a n c] 26)).alloc (.cells #[.int .i64 (u : Int)] 3)).alloc (.cells #[.int .i64 (v : Int)] 3)).alloc (.cells #[.int .i64 0, .int .i64 0, .slice none 0 0] 26)) = w1 at *
  rw [← hB] at HA HM ⊢
  obtain ⟨hs1, k0, k1, k2, k3, hb1⟩ := unhide HA
  have HBE := hide hB
  clear HA hB
  have hs : B + 4 ≤ w1.heap.size := by omega
  have HB := hide hb1
  clear hs1 hb1
  rintro e w2 ⟨rfl, hbN⟩
  have hsz := hbN.size
  have k0 := blk_below k0 hbN (by omega)
  have k1 := blk_below k1 hbN (by omega)
  have k2 := blk_below k2 hbN (by omega)
  have k3 := blk_below k3 hbN (by omega)
  have HB := hide ((unhide HB).trans (hbN.mono (by omega)))
  have hs : B + 4 ≤ w2.heap.size := by omega
  clear hbN hsz
  have c00 : w2.cell? ⟨B, 0, none⟩ = some (.int .i64 (W : Int)) := blk_cell k0 0
  have c01 : w2.cell? ⟨B, 1, none⟩ = some (.int .i64 (H : Int)) := blk_cell k0 1
  have c02 : w2.cell? ⟨B, 2, none⟩ = some (.slice a n c) := blk_cell k0 2
  have c10 : w2.cell? ⟨B + 1, 0, none⟩ = some (.int .i64 (u : Int)) := blk_cell k1 0
  have c20 : w2.cell? ⟨B + 2, 0, none⟩ = some (.int .i64 (v : Int)) := blk_cell k2 0
  have c30 : w2.cell? ⟨B + 3, 0, none⟩ = some (.int .i64 0) := blk_cell k3 0
  have f0 := blk_frozen k3 0
  have c31 : w2.cell? ⟨B + 3, 1, none⟩ = some (.int .i64 0) := blk_cell k3 1
  have f1 := blk_frozen k3 1
  have c32 : w2.cell? ⟨B + 3, 2, none⟩ = some (.slice none 0 0) := blk_cell k3 2
  have f2 := blk_frozen k3 2
  go_wp2_with fail
  refine (unhide HS _).mono ?_
  rintro e w2 ⟨rfl, rfl⟩
  have hlr : B + 3 < w2.heap.size := by omega
  go_wp2_with fail
  refine (unhide HM _ k0 k1 k2 k3 (unhide HB) hs).mono ?_
  rintro e wk ⟨a2, c2, rfl, hpx, hbN⟩
  clear c00 c01 c02 c10 c20 c30 c31 c32 f0 f1 f2
  have hsz := hbN.size
  have kr := blk_below k3 hbN (by omega)
  have HBK := hide ((unhide HB).trans (hbN.mono (by omega)))
  have r0 := blk_frozen kr 0
  have s0 : wk.cell? ⟨B + 3, 0, none⟩ = some (.int .i64 0) := blk_cell kr 0
  have r1 := blk_frozen kr 1
  have s1 : wk.cell? ⟨B + 3, 1, none⟩ = some (.int .i64 0) := blk_cell kr 1
  have r2 := blk_frozen kr 2
  have s2 : wk.cell? ⟨B + 3, 2, none⟩ = some (.slice none 0 0) := blk_cell kr 2
  have hlk : B + 3 < wk.heap.size := by omega
  have HPX := hide (fun u1 u2 u3 : Value => (((hpx.far (j := 0) (show B + 3 < w2.heap.size by omega) u1).far (j := 1) (show B + 3 < w2.heap.size by omega) u2).far (j := 2) (show B + 3 < w2.heap.size by omega) u3).is)
  clear hpx hbN hsz kr HM k0 k1 k2 k3
  go_wp2
  refine bodyPost_ret (v := .tuple #[.agg #[.int .i64 (u : Int), .int .i64 (v : Int), .slice a2 (u * v) c2], .nilIface]) ?_ rfl ⟨a2, c2, rfl, unhide HPX _ _ _, ?_⟩
  · rw [results_ct (p := 6) (ty := 26) (u := 7) (by kernel_rfl)]
    go_simp
  · rw [← unhide HBE]
    exact ((((unhide HBK).setCell (p := ⟨B + 3, 0, none⟩) (by show B ≤ B + 3; omega) _).setCell (p := ⟨B + 3, 1, none⟩) (by show B ≤ B + 3; omega) _).setCell (p := ⟨B + 3, 2, none⟩) (by show B ≤ B + 3; omega) _)

set_option maxHeartbeats 4000000 in
set_option maxRecDepth 100000 in
theorem half_ok (W H : Nat) (a : Option Addr) (n c : Nat)  (W2 H2 : Nat) (p : Nat → Px)  (w : World) (hW0 : 1 ≤ W) (hW : W ≤ 256) (hH0 : 1 ≤ H) (hH : H ≤ 256) (hn : n = W * H) (hP : IsPx w a n p) (hw2 : W2 = (W + 1) / 2) (hh2 : H2 = (H + 1) / 2) :
    Calls Tryd.prog 31 #[.agg #[.int .i64 (W : Int), .int .i64 (H : Int), .slice a n c]] w fun e w' => ∃ a2 c2, e = .returned (.tuple #[.agg #[.int .i64 (W2 : Int), .int .i64 (H2 : Int), .slice a2 (W2 * H2) c2], .nilIface]) ∧ IsPx w' a2 (W2 * H2) (grid W2 fun x y => halfG W H p x y) ∧ Below w.heap.size w w' := by
  have HA := hide (al2 w (.cells #[.int .i64 (W : Int), .int .i64 (H : Int), .slice a n c] 26) (.cells #[.int .i64 0, .int .i64 0, .slice none 0 0] 26))
  have HR := hide (fun w => isRight_any W H a n c w)
  rw [decide_eq_true (rightN hW0 hW hH0 hH hn)] at HR
  have z1 : ((W : Int) + 1) / 2 = (W2 : Int) := by omega
  have z1t : ((W : Int) + 1).tdiv 2 = (W2 : Int) := by rw [Int.tdiv_eq_ediv_of_nonneg (by omega)]; exact z1
  have z2 : ((H : Int) + 1) / 2 = (H2 : Int) := by omega
  have z2t : ((H : Int) + 1).tdiv 2 = (H2 : Int) := by rw [Int.tdiv_eq_ediv_of_nonneg (by omega)]; exact z2
  have ww : IntKind.i64.wrap (W2 : Int) = (W2 : Int) := by rw [IntKind.wrap_i64]; omega
  have wh : IntKind.i64.wrap (H2 : Int) = (H2 : Int) := by rw [IntKind.wrap_i64]; omega
  have HM : Hid (∀ wr, wr.heap[w.heap.size]? = some (.cells #[.int .i64 (W : Int), .int .i64 (H : Int), .slice a n c] 26) → wr.heap[w.heap.size + 1]? = some (.cells #[.int .i64 0, .int .i64 0, .slice none 0 0] 26) → Below w.heap.size w wr → w.heap.size + 2 ≤ wr.heap.size → Calls Tryd.prog 41 #[.int .i64 (W2 : Int), .int .i64 (H2 : Int), .func (.func 62) #[] #[.pointer (some ⟨w.heap.size, 0, none⟩)]] wr fun e w' => ∃ a2 c2, e = .returned (.agg #[.int .i64 (W2 : Int), .int .i64 (H2 : Int), .slice a2 (W2 * H2) c2]) ∧ IsPxN wr.heap.size w' a2 (W2 * H2) (grid W2 fun x y => halfG W H p x y) ∧ Below wr.heap.size wr w') := fun wr k0 k1 hb hsz => by
    refine made_any W2 H2 62 _ _ wr (by omega) (by omega) (by omega) (fun args w => by go_simp) (fun x y wq hx hy hq => ?_)
    have hP2 := hP.below (hb.trans (hq.mono hb.size))
    exact halfC W H _ a n c p x y wq hP2 hW hH hn (by omega) (by omega) (blk_below k0 hq (by omega))
  have hmf : ∀ (fn : Fn) (first cap : Array Value) (w : World), (Instr.makeFunc fn first cap).run Tryd.prog w = .ok (.func fn first cap) w := fun _ _ _ _ => rfl
  obtain ⟨B, hB⟩ : ∃ B, B = w.heap.size := ⟨_, rfl⟩
  clear hP hn hw2 hh2
  go_enter Tryd.func31, Tryd.ntmps31
  go_wp2_with fail
  refine (unhide HR _).mono ?_
  generalize ((w.alloc (.cells #[.int .i64 (W : Int), .int .i64 (H : Int), .slice a n c] 26)).alloc (.cells #[.int .i64 0, .int .i64 0, .slice none 0 0] 26)) = w1 at *
  rw [← hB] at HA HM ⊢
  obtain ⟨hs1, k0, k1, hb1⟩ := unhide HA
  have HBE := hide hB
  clear HA hB
  have hs : B + 2 ≤ w1.heap.size := by omega
  have HB := hide hb1
  clear hs1 hb1
  rintro e w2 ⟨rfl, hbN⟩
  have hsz := hbN.size
  have k0 := blk_below k0 hbN (by omega)
  have k1 := blk_below k1 hbN (by omega)
  have HB := hide ((unhide HB).trans (hbN.mono (by omega)))
  have hs : B + 2 ≤ w2.heap.size := by omega
  clear hbN hsz
  have c00 : w2.cell? ⟨B, 0, none⟩ = some (.int .i64 (W : Int)) := blk_cell k0 0
  have c01 : w2.cell? ⟨B, 1, none⟩ = some (.int .i64 (H : Int)) := blk_cell k0 1
  have c02 : w2.cell? ⟨B, 2, none⟩ = some (.slice a n c) := blk_cell k0 2
  have c10 : w2.cell? ⟨B + 1, 0, none⟩ = some (.int .i64 0) := blk_cell k1 0
  have f0 := blk_frozen k1 0
  have c11 : w2.cell? ⟨B + 1, 1, none⟩ = some (.int .i64 0) := blk_cell k1 1
  have f1 := blk_frozen k1 1
  have c12 : w2.cell? ⟨B + 1, 2, none⟩ = some (.slice none 0 0) := blk_cell k1 2
  have f2 := blk_frozen k1 2
  have hlr : B + 1 < w2.heap.size := by omega
  go_wp2_with fail
  refine (unhide HM _ k0 k1 (unhide HB) hs).mono ?_
  rintro e wk ⟨a2, c2, rfl, hpx, hbN⟩
  clear c00 c01 c02 c10 c11 c12 f0 f1 f2
  have hsz := hbN.size
  have kr := blk_below k1 hbN (by omega)
  have HBK := hide ((unhide HB).trans (hbN.mono (by omega)))
  have r0 := blk_frozen kr 0
  have s0 : wk.cell? ⟨B + 1, 0, none⟩ = some (.int .i64 0) := blk_cell kr 0
  have r1 := blk_frozen kr 1
  have s1 : wk.cell? ⟨B + 1, 1, none⟩ = some (.int .i64 0) := blk_cell kr 1
  have r2 := blk_frozen kr 2
  have s2 : wk.cell? ⟨B + 1, 2, none⟩ = some (.slice none 0 0) := blk_cell kr 2
  have hlk : B + 1 < wk.heap.size := by omega
  have HPX := hide (fun u1 u2 u3 : Value => (((hpx.far (j := 0) (show B + 1 < w2.heap.size by omega) u1).far (j := 1) (show B + 1 < w2.heap.size by omega) u2).far (j := 2) (show B + 1 < w2.heap.size by omega) u3).is)
  clear hpx hbN hsz kr HM k0 k1
  go_wp2
  refine bodyPost_ret (v := .tuple #[.agg #[.int .i64 (W2 : Int), .int .i64 (H2 : Int), .slice a2 (W2 * H2) c2], .nilIface]) ?_ rfl ⟨a2, c2, rfl, unhide HPX _ _ _, ?_⟩
  · rw [results_ct (p := 2) (ty := 26) (u := 3) (by kernel_rfl)]
    go_simp
  · rw [← unhide HBE]
    exact ((((unhide HBK).setCell (p := ⟨B + 1, 0, none⟩) (by show B ≤ B + 1; omega) _).setCell (p := ⟨B + 1, 1, none⟩) (by show B ≤ B + 1; omega) _).setCell (p := ⟨B + 1, 2, none⟩) (by show B ≤ B + 1; omega) _)

end Go.Proofs.YtjchafbihfblnahDoor
