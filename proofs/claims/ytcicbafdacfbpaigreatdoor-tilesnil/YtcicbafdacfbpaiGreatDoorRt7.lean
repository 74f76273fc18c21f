/- Pictures: what the functions of package raster answer. Written by genrt5.py. -/
import Derived.Test.YtcicbafdacfbpaiGreatDoorRt6
namespace Go.Proofs.YtcicbafdacfbpaiGreatDoor
open Go.RowKit

set_option maxHeartbeats 1000000 in
theorem fillC (k : Nat) (X Y RW RH : Int) (x y : Nat) (w : World) (hX : Nr X) (hY : Nr Y) (hW : 0 ≤ RW ∧ RW ≤ 10000) (hH : 0 ≤ RH ∧ RH ≤ 10000) (b : w.heap[k]? = some (.cells #[.int .i64 X, .int .i64 Y, .int .i64 RW, .int .i64 RH] 37)) :
    Calls Tryz.prog 79 #[.int .i64 (x : Int), .int .i64 (y : Int), .pointer (some ⟨k, 0, none⟩)] w fun e w' => e = .returned (.bool (decide (X ≤ (x : Int) ∧ (x : Int) < X + RW ∧ Y ≤ (y : Int) ∧ (y : Int) < Y + RH))) ∧ Below w.heap.size w w' := by
  have HC := hide (covers_any X Y RW RH x y w hX hY hW hH)
  generalize decide (X ≤ (x : Int) ∧ (x : Int) < X + RW ∧ Y ≤ (y : Int) ∧ (y : Int) < Y + RH) = r at *
  have c0 : w.cell? ⟨k, 0, none⟩ = some (.int .i64 X) := blk_cell b 0
  have c1 : w.cell? ⟨k, 1, none⟩ = some (.int .i64 Y) := blk_cell b 1
  have c2 : w.cell? ⟨k, 2, none⟩ = some (.int .i64 RW) := blk_cell b 2
  have c3 : w.cell? ⟨k, 3, none⟩ = some (.int .i64 RH) := blk_cell b 3
  clear b hX hY hW hH
  go_enter Tryz.func79, Tryz.ntmps79
  go_wp2_with fail
  refine (unhide HC).mono ?_
  rintro e w1 ⟨rfl, hb⟩
  go_wp2
  go_ret
  exact ⟨rfl, hb⟩









set_option maxHeartbeats 4000000 in
set_option maxRecDepth 100000 in
theorem fill_ok (W H : Nat) (a : Option Addr) (n c : Nat) (X Y RW RH : Int) (q : Px) (p : Nat → Px)  (w : World) (hW0 : 1 ≤ W) (hW : W ≤ 256) (hH0 : 1 ≤ H) (hH : H ≤ 256) (hn : n = W * H) (hP : IsPx w a n p) (hb : Nr X ∧ Nr Y ∧ Nr RW ∧ Nr RH) (h0 : 0 ≤ RW) (h1 : 0 ≤ RH) :
    Calls Tryz.prog 46 #[.agg #[.int .i64 (W : Int), .int .i64 (H : Int), .slice a n c], .agg #[.int .i64 X, .int .i64 Y, .int .i64 RW, .int .i64 RH], q.val] w fun e w' => ∃ a2 c2, e = .returned (.tuple #[.agg #[.int .i64 (W : Int), .int .i64 (H : Int), .slice a2 (W * H) c2], .nilIface]) ∧ IsPx w' a2 (W * H) (grid W fun x y => if decide (X ≤ (x : Int) ∧ (x : Int) < X + RW ∧ Y ≤ (y : Int) ∧ (y : Int) < Y + RH) then q else p (y * W + x)) ∧ Below w.heap.size w w' := by
  have HA := hide (al4 w (.cells #[.int .i64 (W : Int), .int .i64 (H : Int), .slice a n c] 24) (.cells #[.int .i64 X, .int .i64 Y, .int .i64 RW, .int .i64 RH] 37) (.cells #[.int .u8 (q.r.toNat : Int), .int .u8 (q.g.toNat : Int), .int .u8 (q.b.toNat : Int), .int .u8 (q.a.toNat : Int)] 39) (.cells #[.int .i64 0, .int .i64 0, .slice none 0 0] 24))
  have HR := hide (fun w => isRight_any W H a n c w)
  rw [decide_eq_true (rightN hW0 hW hH0 hH hn)] at HR
  have HS := hide (fun w => near4_any X Y RW RH w)
  rw [decide_eq_true hb] at HS
  have d0 : decide (RW < 0) = false := decide_eq_false (by omega)
  have d1 : decide (RH < 0) = false := decide_eq_false (by omega)
  have hbn := hb
  have HM : Hid (∀ wr, wr.heap[w.heap.size]? = some (.cells #[.int .i64 (W : Int), .int .i64 (H : Int), .slice a n c] 24) → wr.heap[w.heap.size + 1]? = some (.cells #[.int .i64 X, .int .i64 Y, .int .i64 RW, .int .i64 RH] 37) → wr.heap[w.heap.size + 2]? = some (.cells #[.int .u8 (q.r.toNat : Int), .int .u8 (q.g.toNat : Int), .int .u8 (q.b.toNat : Int), .int .u8 (q.a.toNat : Int)] 39) → wr.heap[w.heap.size + 3]? = some (.cells #[.int .i64 0, .int .i64 0, .slice none 0 0] 24) → Below w.heap.size w wr → w.heap.size + 4 ≤ wr.heap.size → Calls Tryz.prog 78 #[.agg #[.int .i64 (W : Int), .int .i64 (H : Int), .slice a n c], .agg #[.int .u8 (q.r.toNat : Int), .int .u8 (q.g.toNat : Int), .int .u8 (q.b.toNat : Int), .int .u8 (q.a.toNat : Int)], .func (.func 79) #[] #[.pointer (some ⟨w.heap.size + 1, 0, none⟩)]] wr fun e w' => ∃ a2 c2, e = .returned (.agg #[.int .i64 (W : Int), .int .i64 (H : Int), .slice a2 (W * H) c2]) ∧ IsPxN wr.heap.size w' a2 (W * H) (grid W fun x y => if decide (X ≤ (x : Int) ∧ (x : Int) < X + RW ∧ Y ≤ (y : Int) ∧ (y : Int) < Y + RH) then q else p (y * W + x)) ∧ Below wr.heap.size wr w') := fun wr k0 k1 k2 k3 hb hsz => by
    refine painted_any W H 79 #[] _ a n c p q (fun x y => decide (X ≤ (x : Int) ∧ (x : Int) < X + RW ∧ Y ≤ (y : Int) ∧ (y : Int) < Y + RH)) wr (hP.below hb) hW0 hW hH hn (fun args w => by go_simp) (fun x y wq hx hy hq => ?_)
    exact fillC _ X Y RW RH x y wq hbn.1 hbn.2.1 ⟨h0, hbn.2.2.1.2⟩ ⟨h1, hbn.2.2.2.2⟩ (blk_below k1 hq (by omega))
  have hmf : ∀ (fn : Fn) (first cap : Array Value) (w : World), (Instr.makeFunc fn first cap).run Tryz.prog w = .ok (.func fn first cap) w := fun _ _ _ _ => rfl
  obtain ⟨B, hB⟩ : ∃ B, B = w.heap.size := ⟨_, rfl⟩
  clear hP hn
  unfold Px.val
  go_enter Tryz.func46, Tryz.ntmps46
  go_wp2_with fail
  refine (unhide HR _).mono ?_
  generalize ((((w.alloc (.cells #[.int .i64 (W : Int), .int .i64 (H : Int), .slice a n c] 24)).alloc (.cells #[.int .i64 X, .int .i64 Y, .int .i64 RW, .int .i64 RH] 37)).alloc (.cells #[.int .u8 (q.r.toNat : Int), .int .u8 (q.g.toNat : Int), .int .u8 (q.b.toNat : Int), .int .u8 (q.a.toNat : Int)] 39)).alloc (.cells #[.int .i64 0, .int .i64 0, .slice none 0 0] 24)) = w1 at *
  rw [← hB] at HA HM ⊢
  obtain ⟨hs1, k0, k1, k2, k3, hb1⟩ := unhide HA
  have HBE := hide hB
  clear HA hB
  have hs : B + 4 ≤ w1.heap.size := by omega
  have HB := hide hb1
  clear hs1 hb1
  rintro e w2 ⟨rfl, hbN⟩
  have hsz := hbN.size
  have k0 := blk_below k0 hbN (by omega)
  have k1 := blk_below k1 hbN (by omega)
  have k2 := blk_below k2 hbN (by omega)
  have k3 := blk_below k3 hbN (by omega)
  have HB := hide ((unhide HB).trans (hbN.mono (by omega)))
  have hs : B + 4 ≤ w2.heap.size := by omega
  clear hbN hsz
  have c00 : w2.cell? ⟨B, 0, none⟩ = some (.int .i64 (W : Int)) := blk_cell k0 0
  have c01 : w2.cell? ⟨B, 1, none⟩ = some (.int .i64 (H : Int)) := blk_cell k0 1
  have c02 : w2.cell? ⟨B, 2, none⟩ = some (.slice a n c) := blk_cell k0 2
  have c10 : w2.cell? ⟨B + 1, 0, none⟩ = some (.int .i64 X) := blk_cell k1 0
  have c11 : w2.cell? ⟨B + 1, 1, none⟩ = some (.int .i64 Y) := blk_cell k1 1
  have c12 : w2.cell? ⟨B + 1, 2, none⟩ = some (.int .i64 RW) := blk_cell k1 2
  have c13 : w2.cell? ⟨B + 1, 3, none⟩ = some (.int .i64 RH) := blk_cell k1 3
  have c20 : w2.cell? ⟨B + 2, 0, none⟩ = some (.int .u8 (q.r.toNat : Int)) := blk_cell k2 0
  have c21 : w2.cell? ⟨B + 2, 1, none⟩ = some (.int .u8 (q.g.toNat : Int)) := blk_cell k2 1
  have c22 : w2.cell? ⟨B + 2, 2, none⟩ = some (.int .u8 (q.b.toNat : Int)) := blk_cell k2 2
  have c23 : w2.cell? ⟨B + 2, 3, none⟩ = some (.int .u8 (q.a.toNat : Int)) := blk_cell k2 3
  have c30 : w2.cell? ⟨B + 3, 0, none⟩ = some (.int .i64 0) := blk_cell k3 0
  have f0 := blk_frozen k3 0
  have c31 : w2.cell? ⟨B + 3, 1, none⟩ = some (.int .i64 0) := blk_cell k3 1
  have f1 := blk_frozen k3 1
  have c32 : w2.cell? ⟨B + 3, 2, none⟩ = some (.slice none 0 0) := blk_cell k3 2
  have f2 := blk_frozen k3 2
  go_wp2_with fail
  refine (unhide HS _).mono ?_
  have hbA : Below w2.heap.size w2 (w2.alloc (.cells #[.int .i64 X, .int .i64 Y, .int .i64 RW, .int .i64 RH] 3)) := (Below.refl _ _).alloc (Nat.le_refl _) _
  generalize w2.alloc (.cells #[.int .i64 X, .int .i64 Y, .int .i64 RW, .int .i64 RH] 3) = w3 at *
  clear c00 c01 c02 c10 c11 c12 c13 c20 c21 c22 c23 c30 c31 c32 f0 f1 f2
  have hsz := hbA.size
  have k0 := blk_below k0 hbA (by omega)
  have k1 := blk_below k1 hbA (by omega)
  have k2 := blk_below k2 hbA (by omega)
  have k3 := blk_below k3 hbA (by omega)
  have HB := hide ((unhide HB).trans (hbA.mono (by omega)))
  have hs : B + 4 ≤ w3.heap.size := by omega
  clear hbA hsz
  rintro e w3 ⟨rfl, rfl⟩
  have c00 : w3.cell? ⟨B, 0, none⟩ = some (.int .i64 (W : Int)) := blk_cell k0 0
  have c01 : w3.cell? ⟨B, 1, none⟩ = some (.int .i64 (H : Int)) := blk_cell k0 1
  have c02 : w3.cell? ⟨B, 2, none⟩ = some (.slice a n c) := blk_cell k0 2
  have c10 : w3.cell? ⟨B + 1, 0, none⟩ = some (.int .i64 X) := blk_cell k1 0
  have c11 : w3.cell? ⟨B + 1, 1, none⟩ = some (.int .i64 Y) := blk_cell k1 1
  have c12 : w3.cell? ⟨B + 1, 2, none⟩ = some (.int .i64 RW) := blk_cell k1 2
  have c13 : w3.cell? ⟨B + 1, 3, none⟩ = some (.int .i64 RH) := blk_cell k1 3
  have c20 : w3.cell? ⟨B + 2, 0, none⟩ = some (.int .u8 (q.r.toNat : Int)) := blk_cell k2 0
  have c21 : w3.cell? ⟨B + 2, 1, none⟩ = some (.int .u8 (q.g.toNat : Int)) := blk_cell k2 1
  have c22 : w3.cell? ⟨B + 2, 2, none⟩ = some (.int .u8 (q.b.toNat : Int)) := blk_cell k2 2
  have c23 : w3.cell? ⟨B + 2, 3, none⟩ = some (.int .u8 (q.a.toNat : Int)) := blk_cell k2 3
  have c30 : w3.cell? ⟨B + 3, 0, none⟩ = some (.int .i64 0) := blk_cell k3 0
  have f0 := blk_frozen k3 0
  have c31 : w3.cell? ⟨B + 3, 1, none⟩ = some (.int .i64 0) := blk_cell k3 1
  have f1 := blk_frozen k3 1
  have c32 : w3.cell? ⟨B + 3, 2, none⟩ = some (.slice none 0 0) := blk_cell k3 2
  have f2 := blk_frozen k3 2
  have hlr : B + 3 < w3.heap.size := by omega
  go_wp2_with fail
  refine (unhide HM _ k0 k1 k2 k3 (unhide HB) hs).mono ?_
  rintro e wk ⟨a2, c2, rfl, hpx, hbN⟩
  clear c00 c01 c02 c10 c11 c12 c13 c20 c21 c22 c23 c30 c31 c32 f0 f1 f2
  have hsz := hbN.size
  have kr := blk_below k3 hbN (by omega)
  have HBK := hide ((unhide HB).trans (hbN.mono (by omega)))
  have r0 := blk_frozen kr 0
  have s0 : wk.cell? ⟨B + 3, 0, none⟩ = some (.int .i64 0) := blk_cell kr 0
  have r1 := blk_frozen kr 1
  have s1 : wk.cell? ⟨B + 3, 1, none⟩ = some (.int .i64 0) := blk_cell kr 1
  have r2 := blk_frozen kr 2
  have s2 : wk.cell? ⟨B + 3, 2, none⟩ = some (.slice none 0 0) := blk_cell kr 2
  have hlk : B + 3 < wk.heap.size := by omega
  have HPX := hide (fun u1 u2 u3 : Value => (((hpx.far (j := 0) (show B + 3 < w3.heap.size by omega) u1).far (j := 1) (show B + 3 < w3.heap.size by omega) u2).far (j := 2) (show B + 3 < w3.heap.size by omega) u3).is)
  clear hpx hbN hsz kr HM k0 k1 k2 k3
  go_wp2
  refine bodyPost_ret (v := .tuple #[.agg #[.int .i64 (W : Int), .int .i64 (H : Int), .slice a2 (W * H) c2], .nilIface]) ?_ rfl ⟨a2, c2, rfl, unhide HPX _ _ _, ?_⟩
  · rw [results_ct (p := 6) (ty := 24) (u := 7) (by kernel_rfl)]
    go_simp
  · rw [← unhide HBE]
    exact ((((unhide HBK).setCell (p := ⟨B + 3, 0, none⟩) (by show B ≤ B + 3; omega) _).setCell (p := ⟨B + 3, 1, none⟩) (by show B ≤ B + 3; omega) _).setCell (p := ⟨B + 3, 2, none⟩) (by show B ≤ B + 3; omega) _)

end Go.Proofs.YtcicbafdacfbpaiGreatDoor
