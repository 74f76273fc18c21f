/- Pictures: what the functions of package raster refuse as out of bounds. Written by genrt5.py. -/
import Derived.Test.YtcicbafdacfbpaiDoorRt5
namespace Go.Proofs.YtcicbafdacfbpaiDoor
open Go.RowKit

theorem rightN {W H n : Nat} (hW0 : 1 ≤ W) (hW : W ≤ 256) (hH0 : 1 ≤ H) (hH : H ≤ 256) (hn : n = W * H) : RightP (W : Int) (H : Int) n := ⟨by omega, by omega, by rw [hn]; simp⟩
/-- Near. -/
def Nr (z : Int) : Prop := -10000 ≤ z ∧ z ≤ 10000
instance (z : Int) : Decidable (Nr z) := by unfold Nr; infer_instance

set_option maxHeartbeats 4000000 in
set_option maxRecDepth 100000 in
theorem new_bound  (u : Int) (v : Int) (q : Px)  (w : World) (tE : TypeId) (vE : Value) (hE : w.cell? ⟨1, 0, none⟩ = some (.iface tE vE)) (hb : ¬ ((1 ≤ u ∧ u ≤ 256) ∧ (1 ≤ v ∧ v ≤ 256))) :
    Calls Tryd.prog 23 #[.int .i64 u, .int .i64 v, q.val] w fun e w' => e = .returned (.tuple #[.agg #[.int .i64 0, .int .i64 0, .slice none 0 0], .iface tE vE]) ∧ Below w.heap.size w w' := by
  have HA := hide (al2 w (.cells #[.int .u8 (q.r.toNat : Int), .int .u8 (q.g.toNat : Int), .int .u8 (q.b.toNat : Int), .int .u8 (q.a.toNat : Int)] 26) (.cells #[.int .i64 0, .int .i64 0, .slice none 0 0] 24))
  have HS := hide (fun w => areSides_any u v w)
  rw [decide_eq_false hb] at HS
  clear hb
  have hg := World.block_lt_of_cell? _ _ hE
  simp only at hg
  obtain ⟨B, hB⟩ : ∃ B, B = w.heap.size := ⟨_, rfl⟩
  unfold Px.val
  go_enter Tryd.func23, Tryd.ntmps23
  go_wp2_with fail
  refine (unhide HS _).mono ?_
  generalize ((w.alloc (.cells #[.int .u8 (q.r.toNat : Int), .int .u8 (q.g.toNat : Int), .int .u8 (q.b.toNat : Int), .int .u8 (q.a.toNat : Int)] 26)).alloc (.cells #[.int .i64 0, .int .i64 0, .slice none 0 0] 24)) = w1 at *
  rw [← hB] at HA hg ⊢
  obtain ⟨hs1, k0, k1, hb1⟩ := unhide HA
  have HBE := hide hB
  clear HA hB
  have hs : B + 2 ≤ w1.heap.size := by omega
  have HB := hide hb1
  clear hs1 hb1
  rintro e w1 ⟨rfl, rfl⟩
  have c00 : w1.cell? ⟨B, 0, none⟩ = some (.int .u8 (q.r.toNat : Int)) := blk_cell k0 0
  have c01 : w1.cell? ⟨B, 1, none⟩ = some (.int .u8 (q.g.toNat : Int)) := blk_cell k0 1
  have c02 : w1.cell? ⟨B, 2, none⟩ = some (.int .u8 (q.b.toNat : Int)) := blk_cell k0 2
  have c03 : w1.cell? ⟨B, 3, none⟩ = some (.int .u8 (q.a.toNat : Int)) := blk_cell k0 3
  have c10 : w1.cell? ⟨B + 1, 0, none⟩ = some (.int .i64 0) := blk_cell k1 0
  have f0 := blk_frozen k1 0
  have c11 : w1.cell? ⟨B + 1, 1, none⟩ = some (.int .i64 0) := blk_cell k1 1
  have f1 := blk_frozen k1 1
  have c12 : w1.cell? ⟨B + 1, 2, none⟩ = some (.slice none 0 0) := blk_cell k1 2
  have f2 := blk_frozen k1 2
  have hlr : B + 1 < w1.heap.size := by omega
  have hE2 := ((unhide HB).cell (p := ⟨1, 0, none⟩) hg).trans hE
  have xne : B + 1 ≠ 1 := by omega
  clear hE
  clear k0 k1
  go_wp2_with fail
  go_region_held (fun w' => w'.cell? ⟨1, 0, none⟩ = some (.iface tE vE)) (first | (go_keep; done) | (exact (far3 _ _ _ _ _ _ _ (by omega)).trans (by simp [*]))) (fail)
  all_goals
    go_wp2
    refine bodyPost_ret (v := .tuple #[.agg #[.int .i64 0, .int .i64 0, .slice none 0 0], .iface tE vE]) ?_ rfl ⟨rfl, ?_⟩
    · rw [results_ct (p := 6) (ty := 24) (u := 7) (by kernel_rfl)]
      go_simp
    · rw [← unhide HBE]
      exact (((((unhide HB).setCell (p := ⟨B + 1, 0, none⟩) (by show B ≤ B + 1; omega) _).setCell (p := ⟨B + 1, 1, none⟩) (by show B ≤ B + 1; omega) _).setCell (p := ⟨B + 1, 2, none⟩) (by show B ≤ B + 1; omega) _)).drew








set_option maxHeartbeats 4000000 in
set_option maxRecDepth 100000 in
theorem flood_bound (W H : Nat) (a : Option Addr) (n c : Nat) (x : Int) (y : Int) (q : Px)  (w : World) (tE : TypeId) (vE : Value) (hE : w.cell? ⟨1, 0, none⟩ = some (.iface tE vE)) (hW0 : 1 ≤ W) (hW : W ≤ 256) (hH0 : 1 ≤ H) (hH : H ≤ 256) (hn : n = W * H) (hb : ¬ (0 ≤ x ∧ x < (W : Int) ∧ 0 ≤ y ∧ y < (H : Int))) :
    Calls Tryd.prog 7 #[.agg #[.int .i64 (W : Int), .int .i64 (H : Int), .slice a n c], .int .i64 x, .int .i64 y, q.val] w fun e w' => e = .returned (.tuple #[.agg #[.int .i64 0, .int .i64 0, .slice none 0 0], .iface tE vE]) ∧ Below w.heap.size w w' := by
  have HA := hide (al3 w (.cells #[.int .i64 (W : Int), .int .i64 (H : Int), .slice a n c] 24) (.cells #[.int .u8 (q.r.toNat : Int), .int .u8 (q.g.toNat : Int), .int .u8 (q.b.toNat : Int), .int .u8 (q.a.toNat : Int)] 26) (.cells #[.int .i64 0, .int .i64 0, .slice none 0 0] 24))
  have HR := hide (fun w => isRight_any W H a n c w)
  rw [decide_eq_true (rightN hW0 hW hH0 hH hn)] at HR
  clear hn
  have HS := hide (fun w => holds_any W H x y a n c w)
  rw [decide_eq_false hb] at HS
  clear hb
  have hg := World.block_lt_of_cell? _ _ hE
  simp only at hg
  obtain ⟨B, hB⟩ : ∃ B, B = w.heap.size := ⟨_, rfl⟩
  unfold Px.val
  go_enter Tryd.func7, Tryd.ntmps7
  go_wp2_with fail
  refine (unhide HR _).mono ?_
  generalize (((w.alloc (.cells #[.int .i64 (W : Int), .int .i64 (H : Int), .slice a n c] 24)).alloc (.cells #[.int .u8 (q.r.toNat : Int), .int .u8 (q.g.toNat : Int), .int .u8 (q.b.toNat : Int), .int .u8 (q.a.toNat : Int)] 26)).alloc (.cells #[.int .i64 0, .int .i64 0, .slice none 0 0] 24)) = w1 at *
  rw [← hB] at HA hg ⊢
  obtain ⟨hs1, k0, k1, k2, hb1⟩ := unhide HA
  have HBE := hide hB
  clear HA hB
  have hs : B + 3 ≤ w1.heap.size := by omega
  have HB := hide hb1
  clear hs1 hb1
  rintro e w2 ⟨rfl, hbN⟩
  have hsz := hbN.size
  have k0 := blk_below k0 hbN (by omega)
  have k1 := blk_below k1 hbN (by omega)
  have k2 := blk_below k2 hbN (by omega)
  have HB := hide ((unhide HB).trans (hbN.mono (by omega)))
  have hs : B + 3 ≤ w2.heap.size := by omega
  clear hbN hsz
  have c00 : w2.cell? ⟨B, 0, none⟩ = some (.int .i64 (W : Int)) := blk_cell k0 0
  have c01 : w2.cell? ⟨B, 1, none⟩ = some (.int .i64 (H : Int)) := blk_cell k0 1
  have c02 : w2.cell? ⟨B, 2, none⟩ = some (.slice a n c) := blk_cell k0 2
  have c10 : w2.cell? ⟨B + 1, 0, none⟩ = some (.int .u8 (q.r.toNat : Int)) := blk_cell k1 0
  have c11 : w2.cell? ⟨B + 1, 1, none⟩ = some (.int .u8 (q.g.toNat : Int)) := blk_cell k1 1
  have c12 : w2.cell? ⟨B + 1, 2, none⟩ = some (.int .u8 (q.b.toNat : Int)) := blk_cell k1 2
  have c13 : w2.cell? ⟨B + 1, 3, none⟩ = some (.int .u8 (q.a.toNat : Int)) := blk_cell k1 3
  have c20 : w2.cell? ⟨B + 2, 0, none⟩ = some (.int .i64 0) := blk_cell k2 0
  have f0 := blk_frozen k2 0
  have c21 : w2.cell? ⟨B + 2, 1, none⟩ = some (.int .i64 0) := blk_cell k2 1
  have f1 := blk_frozen k2 1
  have c22 : w2.cell? ⟨B + 2, 2, none⟩ = some (.slice none 0 0) := blk_cell k2 2
  have f2 := blk_frozen k2 2
  go_wp2_with fail
  refine (unhide HS _).mono ?_
  clear c00 c01 c02 c10 c11 c12 c13 c20 c21 c22 f0 f1 f2
  rintro e w3 ⟨rfl, hbN⟩
  have hsz := hbN.size
  have k0 := blk_below k0 hbN (by omega)
  have k1 := blk_below k1 hbN (by omega)
  have k2 := blk_below k2 hbN (by omega)
  have HB := hide ((unhide HB).trans (hbN.mono (by omega)))
  have hs : B + 3 ≤ w3.heap.size := by omega
  clear hbN hsz
  have c00 : w3.cell? ⟨B, 0, none⟩ = some (.int .i64 (W : Int)) := blk_cell k0 0
  have c01 : w3.cell? ⟨B, 1, none⟩ = some (.int .i64 (H : Int)) := blk_cell k0 1
  have c02 : w3.cell? ⟨B, 2, none⟩ = some (.slice a n c) := blk_cell k0 2
  have c10 : w3.cell? ⟨B + 1, 0, none⟩ = some (.int .u8 (q.r.toNat : Int)) := blk_cell k1 0
  have c11 : w3.cell? ⟨B + 1, 1, none⟩ = some (.int .u8 (q.g.toNat : Int)) := blk_cell k1 1
  have c12 : w3.cell? ⟨B + 1, 2, none⟩ = some (.int .u8 (q.b.toNat : Int)) := blk_cell k1 2
  have c13 : w3.cell? ⟨B + 1, 3, none⟩ = some (.int .u8 (q.a.toNat : Int)) := blk_cell k1 3
  have c20 : w3.cell? ⟨B + 2, 0, none⟩ = some (.int .i64 0) := blk_cell k2 0
  have f0 := blk_frozen k2 0
  have c21 : w3.cell? ⟨B + 2, 1, none⟩ = some (.int .i64 0) := blk_cell k2 1
  have f1 := blk_frozen k2 1
  have c22 : w3.cell? ⟨B + 2, 2, none⟩ = some (.slice none 0 0) := blk_cell k2 2
  have f2 := blk_frozen k2 2
  have hlr : B + 2 < w3.heap.size := by omega
  have hE2 := ((unhide HB).cell (p := ⟨1, 0, none⟩) hg).trans hE
  have xne : B + 2 ≠ 1 := by omega
  clear hE
  clear k0 k1 k2
  go_wp2_with fail
  go_region_held (fun w' => w'.cell? ⟨1, 0, none⟩ = some (.iface tE vE)) (first | (go_keep; done) | (exact (far3 _ _ _ _ _ _ _ (by omega)).trans (by simp [*]))) (fail)
  all_goals
    go_wp2
    refine bodyPost_ret (v := .tuple #[.agg #[.int .i64 0, .int .i64 0, .slice none 0 0], .iface tE vE]) ?_ rfl ⟨rfl, ?_⟩
    · rw [results_ct (p := 8) (ty := 24) (u := 9) (by kernel_rfl)]
      go_simp
    · rw [← unhide HBE]
      exact (((((unhide HB).setCell (p := ⟨B + 2, 0, none⟩) (by show B ≤ B + 2; omega) _).setCell (p := ⟨B + 2, 1, none⟩) (by show B ≤ B + 2; omega) _).setCell (p := ⟨B + 2, 2, none⟩) (by show B ≤ B + 2; omega) _)).drew

end Go.Proofs.YtcicbafdacfbpaiDoor
