/- Pictures: what the functions of package raster refuse. Written by genrt5.py. -/
import Derived.Test.YtcicbafdacfbpaiDoorRt2
import Derived.Test.YtcicbafdacfbpaiDoorRt4
namespace Go.Proofs.YtcicbafdacfbpaiDoor
open Go.RowKit

theorem far3 (w : World) (k b o : Nat) (v1 v2 v3 : Value) (h : k ≠ b) : (((w.setCell ⟨k, 0, none⟩ v1).setCell ⟨k, 1, none⟩ v2).setCell ⟨k, 2, none⟩ v3).cell? ⟨b, o, none⟩ = w.cell? ⟨b, o, none⟩ := by
  rw [World.cell?_setCell_far _ _ _ _ h, World.cell?_setCell_far _ _ _ _ h, World.cell?_setCell_far _ _ _ _ h]








set_option maxHeartbeats 4000000 in
set_option maxRecDepth 100000 in
theorem flood_shape (W H : Int) (a : Option Addr) (n c : Nat) (x : Int) (y : Int) (q : Px)  (w : World) (tE : TypeId) (vE : Value) (hE : w.cell? ⟨0, 0, none⟩ = some (.iface tE vE)) (hR : ¬ RightP W H n) :
    Calls Tryd.prog 7 #[.agg #[.int .i64 W, .int .i64 H, .slice a n c], .int .i64 x, .int .i64 y, q.val] w fun e w' => e = .returned (.tuple #[.agg #[.int .i64 0, .int .i64 0, .slice none 0 0], .iface tE vE]) ∧ Below w.heap.size w w' := by
  have HA := hide (al3 w (.cells #[.int .i64 W, .int .i64 H, .slice a n c] 24) (.cells #[.int .u8 (q.r.toNat : Int), .int .u8 (q.g.toNat : Int), .int .u8 (q.b.toNat : Int), .int .u8 (q.a.toNat : Int)] 26) (.cells #[.int .i64 0, .int .i64 0, .slice none 0 0] 24))
  have HR := hide (fun w => isRight_any W H a n c w)
  rw [decide_eq_false hR] at HR
  clear hR
  have hg := World.block_lt_of_cell? _ _ hE
  simp only at hg
  obtain ⟨B, hB⟩ : ∃ B, B = w.heap.size := ⟨_, rfl⟩
  unfold Px.val
  go_enter Tryd.func7, Tryd.ntmps7
  go_wp2_with fail
  refine (unhide HR _).mono ?_
  generalize (((w.alloc (.cells #[.int .i64 W, .int .i64 H, .slice a n c] 24)).alloc (.cells #[.int .u8 (q.r.toNat : Int), .int .u8 (q.g.toNat : Int), .int .u8 (q.b.toNat : Int), .int .u8 (q.a.toNat : Int)] 26)).alloc (.cells #[.int .i64 0, .int .i64 0, .slice none 0 0] 24)) = w1 at *
  rw [← hB] at HA hg ⊢
  obtain ⟨hs1, k0, k1, k2, hb1⟩ := unhide HA
  have HBE := hide hB
  clear HA hB
  have hs : B + 3 ≤ w1.heap.size := by omega
  have HB := hide hb1
  clear hs1 hb1
  rintro e w2 ⟨rfl, hbN⟩
  have hsz := hbN.size
  have k0 := blk_below k0 hbN (by omega)
  have k1 := blk_below k1 hbN (by omega)
  have k2 := blk_below k2 hbN (by omega)
  have HB := hide ((unhide HB).trans (hbN.mono (by omega)))
  have hs : B + 3 ≤ w2.heap.size := by omega
  clear hbN hsz
  have c00 : w2.cell? ⟨B, 0, none⟩ = some (.int .i64 W) := blk_cell k0 0
  have c01 : w2.cell? ⟨B, 1, none⟩ = some (.int .i64 H) := blk_cell k0 1
  have c02 : w2.cell? ⟨B, 2, none⟩ = some (.slice a n c) := blk_cell k0 2
  have c10 : w2.cell? ⟨B + 1, 0, none⟩ = some (.int .u8 (q.r.toNat : Int)) := blk_cell k1 0
  have c11 : w2.cell? ⟨B + 1, 1, none⟩ = some (.int .u8 (q.g.toNat : Int)) := blk_cell k1 1
  have c12 : w2.cell? ⟨B + 1, 2, none⟩ = some (.int .u8 (q.b.toNat : Int)) := blk_cell k1 2
  have c13 : w2.cell? ⟨B + 1, 3, none⟩ = some (.int .u8 (q.a.toNat : Int)) := blk_cell k1 3
  have c20 : w2.cell? ⟨B + 2, 0, none⟩ = some (.int .i64 0) := blk_cell k2 0
  have f0 := blk_frozen k2 0
  have c21 : w2.cell? ⟨B + 2, 1, none⟩ = some (.int .i64 0) := blk_cell k2 1
  have f1 := blk_frozen k2 1
  have c22 : w2.cell? ⟨B + 2, 2, none⟩ = some (.slice none 0 0) := blk_cell k2 2
  have f2 := blk_frozen k2 2
  have hlr : B + 2 < w2.heap.size := by omega
  have hE2 := ((unhide HB).cell (p := ⟨0, 0, none⟩) hg).trans hE
  have xne : B + 2 ≠ 0 := by omega
  clear hE
  clear k0 k1 k2
  go_wp2_with fail
  go_region_held (fun w' => w'.cell? ⟨0, 0, none⟩ = some (.iface tE vE)) (first | (go_keep; done) | (exact (far3 _ _ _ _ _ _ _ (by omega)).trans (by simp [*]))) (fail)
  all_goals
    go_wp2
    refine bodyPost_ret (v := .tuple #[.agg #[.int .i64 0, .int .i64 0, .slice none 0 0], .iface tE vE]) ?_ rfl ⟨rfl, ?_⟩
    · rw [results_ct (p := 8) (ty := 24) (u := 9) (by kernel_rfl)]
      go_simp
    · rw [← unhide HBE]
      exact (((((unhide HB).setCell (p := ⟨B + 2, 0, none⟩) (by show B ≤ B + 2; omega) _).setCell (p := ⟨B + 2, 1, none⟩) (by show B ≤ B + 2; omega) _).setCell (p := ⟨B + 2, 2, none⟩) (by show B ≤ B + 2; omega) _)).drew


end Go.Proofs.YtcicbafdacfbpaiDoor
