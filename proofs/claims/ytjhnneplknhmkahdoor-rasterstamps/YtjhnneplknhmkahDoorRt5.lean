/- Pictures: what the functions of package raster refuse. Written by genrt5.py. -/
import Derived.Test.YtjhnneplknhmkahDoorRt2
import Derived.Test.YtjhnneplknhmkahDoorRt4
namespace Go.Proofs.YtjhnneplknhmkahDoor
open Go.RowKit

theorem far3 (w : World) (k b o : Nat) (v1 v2 v3 : Value) (h : k ≠ b) : (((w.setCell ⟨k, 0, none⟩ v1).setCell ⟨k, 1, none⟩ v2).setCell ⟨k, 2, none⟩ v3).cell? ⟨b, o, none⟩ = w.cell? ⟨b, o, none⟩ := by
  rw [World.cell?_setCell_far _ _ _ _ h, World.cell?_setCell_far _ _ _ _ h, World.cell?_setCell_far _ _ _ _ h]

set_option maxHeartbeats 4000000 in
set_option maxRecDepth 100000 in
theorem fill_shape (W H : Int) (a : Option Addr) (n c : Nat) (X Y RW RH : Int) (q : Px)  (w : World) (tE : TypeId) (vE : Value) (hE : w.cell? ⟨1, 0, none⟩ = some (.iface tE vE)) (hR : ¬ RightP W H n) :
    Calls Tryd.prog 20 #[.agg #[.int .i64 W, .int .i64 H, .slice a n c], .agg #[.int .i64 X, .int .i64 Y, .int .i64 RW, .int .i64 RH], q.val] w fun e w' => e = .returned (.tuple #[.agg #[.int .i64 0, .int .i64 0, .slice none 0 0], .iface tE vE]) ∧ Below w.heap.size w w' := by
  have HA := hide (al4 w (.cells #[.int .i64 W, .int .i64 H, .slice a n c] 26) (.cells #[.int .i64 X, .int .i64 Y, .int .i64 RW, .int .i64 RH] 43) (.cells #[.int .u8 (q.r.toNat : Int), .int .u8 (q.g.toNat : Int), .int .u8 (q.b.toNat : Int), .int .u8 (q.a.toNat : Int)] 23) (.cells #[.int .i64 0, .int .i64 0, .slice none 0 0] 26))
  have HR := hide (fun w => isRight_any W H a n c w)
  rw [decide_eq_false hR] at HR
  clear hR
  have hg := World.block_lt_of_cell? _ _ hE
  simp only at hg
  obtain ⟨B, hB⟩ : ∃ B, B = w.heap.size := ⟨_, rfl⟩
  unfold Px.val
  go_enter Tryd.func20, Tryd.ntmps20
  go_wp2_with fail
  refine (unhide HR _).mono ?_
  generalize ((((w.alloc (.cells #[.int .i64 W, .int .i64 H, .slice a n c] 26)).alloc (.cells #[.int .i64 X, .int .i64 Y, .int .i64 RW, .int .i64 RH] 43)).alloc (.cells #[.int .u8 (q.r.toNat : Int), .int .u8 (q.g.toNat : Int), .int .u8 (q.b.toNat : Int), .int .u8 (q.a.toNat : Int)] 23)).alloc (.cells #[.int .i64 0, .int .i64 0, .slice none 0 0] 26)) = w1 at *
  rw [← hB] at HA hg ⊢
  obtain ⟨hs1, k0, k1, k2, k3, hb1⟩ := unhide HA
  have HBE := hide hB
  clear HA hB
  have hs : B + 4 ≤ w1.heap.size := by omega
  have HB := hide hb1
  clear hs1 hb1
  rintro e w2 ⟨rfl, hbN⟩
  have hsz := hbN.size
  have k0 := blk_below k0 hbN (by omega)
  have k1 := blk_below k1 hbN (by omega)
  have k2 := blk_below k2 hbN (by omega)
  have k3 := blk_below k3 hbN (by omega)
  have HB := hide ((unhide HB).trans (hbN.mono (by omega)))
  have hs : B + 4 ≤ w2.heap.size := by omega
  clear hbN hsz
  have c00 : w2.cell? ⟨B, 0, none⟩ = some (.int .i64 W) := blk_cell k0 0
  have c01 : w2.cell? ⟨B, 1, none⟩ = some (.int .i64 H) := blk_cell k0 1
  have c02 : w2.cell? ⟨B, 2, none⟩ = some (.slice a n c) := blk_cell k0 2
  have c10 : w2.cell? ⟨B + 1, 0, none⟩ = some (.int .i64 X) := blk_cell k1 0
  have c11 : w2.cell? ⟨B + 1, 1, none⟩ = some (.int .i64 Y) := blk_cell k1 1
  have c12 : w2.cell? ⟨B + 1, 2, none⟩ = some (.int .i64 RW) := blk_cell k1 2
  have c13 : w2.cell? ⟨B + 1, 3, none⟩ = some (.int .i64 RH) := blk_cell k1 3
  have c20 : w2.cell? ⟨B + 2, 0, none⟩ = some (.int .u8 (q.r.toNat : Int)) := blk_cell k2 0
  have c21 : w2.cell? ⟨B + 2, 1, none⟩ = some (.int .u8 (q.g.toNat : Int)) := blk_cell k2 1
  have c22 : w2.cell? ⟨B + 2, 2, none⟩ = some (.int .u8 (q.b.toNat : Int)) := blk_cell k2 2
  have c23 : w2.cell? ⟨B + 2, 3, none⟩ = some (.int .u8 (q.a.toNat : Int)) := blk_cell k2 3
  have c30 : w2.cell? ⟨B + 3, 0, none⟩ = some (.int .i64 0) := blk_cell k3 0
  have f0 := blk_frozen k3 0
  have c31 : w2.cell? ⟨B + 3, 1, none⟩ = some (.int .i64 0) := blk_cell k3 1
  have f1 := blk_frozen k3 1
  have c32 : w2.cell? ⟨B + 3, 2, none⟩ = some (.slice none 0 0) := blk_cell k3 2
  have f2 := blk_frozen k3 2
  have hlr : B + 3 < w2.heap.size := by omega
  have hE2 := ((unhide HB).cell (p := ⟨1, 0, none⟩) hg).trans hE
  have xne : B + 3 ≠ 1 := by omega
  clear hE
  clear k0 k1 k2 k3
  go_wp2_with fail
  go_region_held (fun w' => w'.cell? ⟨1, 0, none⟩ = some (.iface tE vE)) (first | (go_keep; done) | (exact (far3 _ _ _ _ _ _ _ (by omega)).trans (by simp [*]))) (fail)
  all_goals
    go_wp2
    refine bodyPost_ret (v := .tuple #[.agg #[.int .i64 0, .int .i64 0, .slice none 0 0], .iface tE vE]) ?_ rfl ⟨rfl, ?_⟩
    · rw [results_ct (p := 6) (ty := 26) (u := 7) (by kernel_rfl)]
      go_simp
    · rw [← unhide HBE]
      exact (((((unhide HB).setCell (p := ⟨B + 3, 0, none⟩) (by show B ≤ B + 3; omega) _).setCell (p := ⟨B + 3, 1, none⟩) (by show B ≤ B + 3; omega) _).setCell (p := ⟨B + 3, 2, none⟩) (by show B ≤ B + 3; omega) _)).drew

set_option maxHeartbeats 4000000 in
set_option maxRecDepth 100000 in
theorem crop_shape (W H : Int) (a : Option Addr) (n c : Nat) (X Y RW RH : Int)  (w : World) (tE : TypeId) (vE : Value) (hE : w.cell? ⟨1, 0, none⟩ = some (.iface tE vE)) (hR : ¬ RightP W H n) :
    Calls Tryd.prog 21 #[.agg #[.int .i64 W, .int .i64 H, .slice a n c], .agg #[.int .i64 X, .int .i64 Y, .int .i64 RW, .int .i64 RH]] w fun e w' => e = .returned (.tuple #[.agg #[.int .i64 0, .int .i64 0, .slice none 0 0], .iface tE vE]) ∧ Below w.heap.size w w' := by
  have HA := hide (al3 w (.cells #[.int .i64 W, .int .i64 H, .slice a n c] 26) (.cells #[.int .i64 X, .int .i64 Y, .int .i64 RW, .int .i64 RH] 43) (.cells #[.int .i64 0, .int .i64 0, .slice none 0 0] 26))
  have HR := hide (fun w => isRight_any W H a n c w)
  rw [decide_eq_false hR] at HR
  clear hR
  have hg := World.block_lt_of_cell? _ _ hE
  simp only at hg
  obtain ⟨B, hB⟩ : ∃ B, B = w.heap.size := ⟨_, rfl⟩
  go_enter Tryd.func21, Tryd.ntmps21
  go_wp2_with fail
  refine (unhide HR _).mono ?_
  generalize (((w.alloc (.cells #[.int .i64 W, .int .i64 H, .slice a n c] 26)).alloc (.cells #[.int .i64 X, .int .i64 Y, .int .i64 RW, .int .i64 RH] 43)).alloc (.cells #[.int .i64 0, .int .i64 0, .slice none 0 0] 26)) = w1 at *
  rw [← hB] at HA hg ⊢
  obtain ⟨hs1, k0, k1, k2, hb1⟩ := unhide HA
  have HBE := hide hB
  clear HA hB
  have hs : B + 3 ≤ w1.heap.size := by omega
  have HB := hide hb1
  clear hs1 hb1
  rintro e w2 ⟨rfl, hbN⟩
  have hsz := hbN.size
  have k0 := blk_below k0 hbN (by omega)
  have k1 := blk_below k1 hbN (by omega)
  have k2 := blk_below k2 hbN (by omega)
  have HB := hide ((unhide HB).trans (hbN.mono (by omega)))
  have hs : B + 3 ≤ w2.heap.size := by omega
  clear hbN hsz
  have c00 : w2.cell? ⟨B, 0, none⟩ = some (.int .i64 W) := blk_cell k0 0
  have c01 : w2.cell? ⟨B, 1, none⟩ = some (.int .i64 H) := blk_cell k0 1
  have c02 : w2.cell? ⟨B, 2, none⟩ = some (.slice a n c) := blk_cell k0 2
  have c10 : w2.cell? ⟨B + 1, 0, none⟩ = some (.int .i64 X) := blk_cell k1 0
  have c11 : w2.cell? ⟨B + 1, 1, none⟩ = some (.int .i64 Y) := blk_cell k1 1
  have c12 : w2.cell? ⟨B + 1, 2, none⟩ = some (.int .i64 RW) := blk_cell k1 2
  have c13 : w2.cell? ⟨B + 1, 3, none⟩ = some (.int .i64 RH) := blk_cell k1 3
  have c20 : w2.cell? ⟨B + 2, 0, none⟩ = some (.int .i64 0) := blk_cell k2 0
  have f0 := blk_frozen k2 0
  have c21 : w2.cell? ⟨B + 2, 1, none⟩ = some (.int .i64 0) := blk_cell k2 1
  have f1 := blk_frozen k2 1
  have c22 : w2.cell? ⟨B + 2, 2, none⟩ = some (.slice none 0 0) := blk_cell k2 2
  have f2 := blk_frozen k2 2
  have hlr : B + 2 < w2.heap.size := by omega
  have hE2 := ((unhide HB).cell (p := ⟨1, 0, none⟩) hg).trans hE
  have xne : B + 2 ≠ 1 := by omega
  clear hE
  clear k0 k1 k2
  go_wp2_with fail
  go_region_held (fun w' => w'.cell? ⟨1, 0, none⟩ = some (.iface tE vE)) (first | (go_keep; done) | (exact (far3 _ _ _ _ _ _ _ (by omega)).trans (by simp [*]))) (fail)
  all_goals
    go_wp2
    refine bodyPost_ret (v := .tuple #[.agg #[.int .i64 0, .int .i64 0, .slice none 0 0], .iface tE vE]) ?_ rfl ⟨rfl, ?_⟩
    · rw [results_ct (p := 4) (ty := 26) (u := 5) (by kernel_rfl)]
      go_simp
    · rw [← unhide HBE]
      exact (((((unhide HB).setCell (p := ⟨B + 2, 0, none⟩) (by show B ≤ B + 2; omega) _).setCell (p := ⟨B + 2, 1, none⟩) (by show B ≤ B + 2; omega) _).setCell (p := ⟨B + 2, 2, none⟩) (by show B ≤ B + 2; omega) _)).drew

set_option maxHeartbeats 4000000 in
set_option maxRecDepth 100000 in
theorem flip_shape (W H : Int) (a : Option Addr) (n c : Nat) (d : Bool)  (w : World) (tE : TypeId) (vE : Value) (hE : w.cell? ⟨1, 0, none⟩ = some (.iface tE vE)) (hR : ¬ RightP W H n) :
    Calls Tryd.prog 29 #[.agg #[.int .i64 W, .int .i64 H, .slice a n c], .bool d] w fun e w' => e = .returned (.tuple #[.agg #[.int .i64 0, .int .i64 0, .slice none 0 0], .iface tE vE]) ∧ Below w.heap.size w w' := by
  have HA := hide (al3 w (.cells #[.int .i64 W, .int .i64 H, .slice a n c] 26) (.cells #[.bool d] 4) (.cells #[.int .i64 0, .int .i64 0, .slice none 0 0] 26))
  have HR := hide (fun w => isRight_any W H a n c w)
  rw [decide_eq_false hR] at HR
  clear hR
  have hg := World.block_lt_of_cell? _ _ hE
  simp only at hg
  obtain ⟨B, hB⟩ : ∃ B, B = w.heap.size := ⟨_, rfl⟩
  go_enter Tryd.func29, Tryd.ntmps29
  go_wp2_with fail
  refine (unhide HR _).mono ?_
  generalize (((w.alloc (.cells #[.int .i64 W, .int .i64 H, .slice a n c] 26)).alloc (.cells #[.bool d] 4)).alloc (.cells #[.int .i64 0, .int .i64 0, .slice none 0 0] 26)) = w1 at *
  rw [← hB] at HA hg ⊢
  obtain ⟨hs1, k0, k1, k2, hb1⟩ := unhide HA
  have HBE := hide hB
  clear HA hB
  have hs : B + 3 ≤ w1.heap.size := by omega
  have HB := hide hb1
  clear hs1 hb1
  rintro e w2 ⟨rfl, hbN⟩
  have hsz := hbN.size
  have k0 := blk_below k0 hbN (by omega)
  have k1 := blk_below k1 hbN (by omega)
  have k2 := blk_below k2 hbN (by omega)
  have HB := hide ((unhide HB).trans (hbN.mono (by omega)))
  have hs : B + 3 ≤ w2.heap.size := by omega
  clear hbN hsz
  have c00 : w2.cell? ⟨B, 0, none⟩ = some (.int .i64 W) := blk_cell k0 0
  have c01 : w2.cell? ⟨B, 1, none⟩ = some (.int .i64 H) := blk_cell k0 1
  have c02 : w2.cell? ⟨B, 2, none⟩ = some (.slice a n c) := blk_cell k0 2
  have c10 : w2.cell? ⟨B + 1, 0, none⟩ = some (.bool d) := blk_cell k1 0
  have c20 : w2.cell? ⟨B + 2, 0, none⟩ = some (.int .i64 0) := blk_cell k2 0
  have f0 := blk_frozen k2 0
  have c21 : w2.cell? ⟨B + 2, 1, none⟩ = some (.int .i64 0) := blk_cell k2 1
  have f1 := blk_frozen k2 1
  have c22 : w2.cell? ⟨B + 2, 2, none⟩ = some (.slice none 0 0) := blk_cell k2 2
  have f2 := blk_frozen k2 2
  have hlr : B + 2 < w2.heap.size := by omega
  have hE2 := ((unhide HB).cell (p := ⟨1, 0, none⟩) hg).trans hE
  have xne : B + 2 ≠ 1 := by omega
  clear hE
  clear k0 k1 k2
  go_wp2_with fail
  go_region_held (fun w' => w'.cell? ⟨1, 0, none⟩ = some (.iface tE vE)) (first | (go_keep; done) | (exact (far3 _ _ _ _ _ _ _ (by omega)).trans (by simp [*]))) (fail)
  all_goals
    go_wp2
    refine bodyPost_ret (v := .tuple #[.agg #[.int .i64 0, .int .i64 0, .slice none 0 0], .iface tE vE]) ?_ rfl ⟨rfl, ?_⟩
    · rw [results_ct (p := 4) (ty := 26) (u := 5) (by kernel_rfl)]
      go_simp
    · rw [← unhide HBE]
      exact (((((unhide HB).setCell (p := ⟨B + 2, 0, none⟩) (by show B ≤ B + 2; omega) _).setCell (p := ⟨B + 2, 1, none⟩) (by show B ≤ B + 2; omega) _).setCell (p := ⟨B + 2, 2, none⟩) (by show B ≤ B + 2; omega) _)).drew

set_option maxHeartbeats 4000000 in
set_option maxRecDepth 100000 in
theorem turn_shape (W H : Int) (a : Option Addr) (n c : Nat) (z : Int)  (w : World) (tE : TypeId) (vE : Value) (hE : w.cell? ⟨1, 0, none⟩ = some (.iface tE vE)) (hR : ¬ RightP W H n) :
    Calls Tryd.prog 30 #[.agg #[.int .i64 W, .int .i64 H, .slice a n c], .int .i64 z] w fun e w' => e = .returned (.tuple #[.agg #[.int .i64 0, .int .i64 0, .slice none 0 0], .iface tE vE]) ∧ Below w.heap.size w w' := by
  have HA := hide (al2 w (.cells #[.int .i64 W, .int .i64 H, .slice a n c] 26) (.cells #[.int .i64 0, .int .i64 0, .slice none 0 0] 26))
  have HR := hide (fun w => isRight_any W H a n c w)
  rw [decide_eq_false hR] at HR
  clear hR
  have hg := World.block_lt_of_cell? _ _ hE
  simp only at hg
  obtain ⟨B, hB⟩ : ∃ B, B = w.heap.size := ⟨_, rfl⟩
  go_enter Tryd.func30, Tryd.ntmps30
  go_wp2_with fail
  refine (unhide HR _).mono ?_
  generalize ((w.alloc (.cells #[.int .i64 W, .int .i64 H, .slice a n c] 26)).alloc (.cells #[.int .i64 0, .int .i64 0, .slice none 0 0] 26)) = w1 at *
  rw [← hB] at HA hg ⊢
  obtain ⟨hs1, k0, k1, hb1⟩ := unhide HA
  have HBE := hide hB
  clear HA hB
  have hs : B + 2 ≤ w1.heap.size := by omega
  have HB := hide hb1
  clear hs1 hb1
  rintro e w2 ⟨rfl, hbN⟩
  have hsz := hbN.size
  have k0 := blk_below k0 hbN (by omega)
  have k1 := blk_below k1 hbN (by omega)
  have HB := hide ((unhide HB).trans (hbN.mono (by omega)))
  have hs : B + 2 ≤ w2.heap.size := by omega
  clear hbN hsz
  have c00 : w2.cell? ⟨B, 0, none⟩ = some (.int .i64 W) := blk_cell k0 0
  have c01 : w2.cell? ⟨B, 1, none⟩ = some (.int .i64 H) := blk_cell k0 1
  have c02 : w2.cell? ⟨B, 2, none⟩ = some (.slice a n c) := blk_cell k0 2
  have c10 : w2.cell? ⟨B + 1, 0, none⟩ = some (.int .i64 0) := blk_cell k1 0
  have f0 := blk_frozen k1 0
  have c11 : w2.cell? ⟨B + 1, 1, none⟩ = some (.int .i64 0) := blk_cell k1 1
  have f1 := blk_frozen k1 1
  have c12 : w2.cell? ⟨B + 1, 2, none⟩ = some (.slice none 0 0) := blk_cell k1 2
  have f2 := blk_frozen k1 2
  have hlr : B + 1 < w2.heap.size := by omega
  have hE2 := ((unhide HB).cell (p := ⟨1, 0, none⟩) hg).trans hE
  have xne : B + 1 ≠ 1 := by omega
  clear hE
  clear k0 k1
  go_wp2_with fail
  go_region_held (fun w' => w'.cell? ⟨1, 0, none⟩ = some (.iface tE vE)) (first | (go_keep; done) | (exact (far3 _ _ _ _ _ _ _ (by omega)).trans (by simp [*]))) (fail)
  all_goals
    go_wp2
    refine bodyPost_ret (v := .tuple #[.agg #[.int .i64 0, .int .i64 0, .slice none 0 0], .iface tE vE]) ?_ rfl ⟨rfl, ?_⟩
    · rw [results_ct (p := 4) (ty := 26) (u := 5) (by kernel_rfl)]
      go_simp
    · rw [← unhide HBE]
      exact (((((unhide HB).setCell (p := ⟨B + 1, 0, none⟩) (by show B ≤ B + 1; omega) _).setCell (p := ⟨B + 1, 1, none⟩) (by show B ≤ B + 1; omega) _).setCell (p := ⟨B + 1, 2, none⟩) (by show B ≤ B + 1; omega) _)).drew

set_option maxHeartbeats 4000000 in
set_option maxRecDepth 100000 in
theorem half_shape (W H : Int) (a : Option Addr) (n c : Nat)   (w : World) (tE : TypeId) (vE : Value) (hE : w.cell? ⟨1, 0, none⟩ = some (.iface tE vE)) (hR : ¬ RightP W H n) :
    Calls Tryd.prog 31 #[.agg #[.int .i64 W, .int .i64 H, .slice a n c]] w fun e w' => e = .returned (.tuple #[.agg #[.int .i64 0, .int .i64 0, .slice none 0 0], .iface tE vE]) ∧ Below w.heap.size w w' := by
  have HA := hide (al2 w (.cells #[.int .i64 W, .int .i64 H, .slice a n c] 26) (.cells #[.int .i64 0, .int .i64 0, .slice none 0 0] 26))
  have HR := hide (fun w => isRight_any W H a n c w)
  rw [decide_eq_false hR] at HR
  clear hR
  have hg := World.block_lt_of_cell? _ _ hE
  simp only at hg
  obtain ⟨B, hB⟩ : ∃ B, B = w.heap.size := ⟨_, rfl⟩
  go_enter Tryd.func31, Tryd.ntmps31
  go_wp2_with fail
  refine (unhide HR _).mono ?_
  generalize ((w.alloc (.cells #[.int .i64 W, .int .i64 H, .slice a n c] 26)).alloc (.cells #[.int .i64 0, .int .i64 0, .slice none 0 0] 26)) = w1 at *
  rw [← hB] at HA hg ⊢
  obtain ⟨hs1, k0, k1, hb1⟩ := unhide HA
  have HBE := hide hB
  clear HA hB
  have hs : B + 2 ≤ w1.heap.size := by omega
  have HB := hide hb1
  clear hs1 hb1
  rintro e w2 ⟨rfl, hbN⟩
  have hsz := hbN.size
  have k0 := blk_below k0 hbN (by omega)
  have k1 := blk_below k1 hbN (by omega)
  have HB := hide ((unhide HB).trans (hbN.mono (by omega)))
  have hs : B + 2 ≤ w2.heap.size := by omega
  clear hbN hsz
  have c00 : w2.cell? ⟨B, 0, none⟩ = some (.int .i64 W) := blk_cell k0 0
  have c01 : w2.cell? ⟨B, 1, none⟩ = some (.int .i64 H) := blk_cell k0 1
  have c02 : w2.cell? ⟨B, 2, none⟩ = some (.slice a n c) := blk_cell k0 2
  have c10 : w2.cell? ⟨B + 1, 0, none⟩ = some (.int .i64 0) := blk_cell k1 0
  have f0 := blk_frozen k1 0
  have c11 : w2.cell? ⟨B + 1, 1, none⟩ = some (.int .i64 0) := blk_cell k1 1
  have f1 := blk_frozen k1 1
  have c12 : w2.cell? ⟨B + 1, 2, none⟩ = some (.slice none 0 0) := blk_cell k1 2
  have f2 := blk_frozen k1 2
  have hlr : B + 1 < w2.heap.size := by omega
  have hE2 := ((unhide HB).cell (p := ⟨1, 0, none⟩) hg).trans hE
  have xne : B + 1 ≠ 1 := by omega
  clear hE
  clear k0 k1
  go_wp2_with fail
  go_region_held (fun w' => w'.cell? ⟨1, 0, none⟩ = some (.iface tE vE)) (first | (go_keep; done) | (exact (far3 _ _ _ _ _ _ _ (by omega)).trans (by simp [*]))) (fail)
  all_goals
    go_wp2
    refine bodyPost_ret (v := .tuple #[.agg #[.int .i64 0, .int .i64 0, .slice none 0 0], .iface tE vE]) ?_ rfl ⟨rfl, ?_⟩
    · rw [results_ct (p := 2) (ty := 26) (u := 3) (by kernel_rfl)]
      go_simp
    · rw [← unhide HBE]
      exact (((((unhide HB).setCell (p := ⟨B + 1, 0, none⟩) (by show B ≤ B + 1; omega) _).setCell (p := ⟨B + 1, 1, none⟩) (by show B ≤ B + 1; omega) _).setCell (p := ⟨B + 1, 2, none⟩) (by show B ≤ B + 1; omega) _)).drew

set_option maxHeartbeats 4000000 in
set_option maxRecDepth 100000 in
theorem scale_shape (W H : Int) (a : Option Addr) (n c : Nat) (u : Int) (v : Int)  (w : World) (tE : TypeId) (vE : Value) (hE : w.cell? ⟨1, 0, none⟩ = some (.iface tE vE)) (hR : ¬ RightP W H n) :
    Calls Tryd.prog 32 #[.agg #[.int .i64 W, .int .i64 H, .slice a n c], .int .i64 u, .int .i64 v] w fun e w' => e = .returned (.tuple #[.agg #[.int .i64 0, .int .i64 0, .slice none 0 0], .iface tE vE]) ∧ Below w.heap.size w w' := by
  have HA := hide (al4 w (.cells #[.int .i64 W, .int .i64 H, .slice a n c] 26) (.cells #[.int .i64 u] 3) (.cells #[.int .i64 v] 3) (.cells #[.int .i64 0, .int .i64 0, .slice none 0 0] 26))
  have HR := hide (fun w => isRight_any W H a n c w)
  rw [decide_eq_false hR] at HR
  clear hR
  have hg := World.block_lt_of_cell? _ _ hE
  simp only at hg
  obtain ⟨B, hB⟩ : ∃ B, B = w.heap.size := ⟨_, rfl⟩
  go_enter Tryd.func32, Tryd.ntmps32
  go_wp2_with fail
  refine (unhide HR _).mono ?_
  generalize ((((w.alloc (.cells #[.int .i64 W, .int .i64 H, .slice a n c] 26)).alloc (.cells #[.int .i64 u] 3)).alloc (.cells #[.int .i64 v] 3)).alloc (.cells #[.int .i64 0, .int .i64 0, .slice none 0 0] 26)) = w1 at *
  rw [← hB] at HA hg ⊢
  obtain ⟨hs1, k0, k1, k2, k3, hb1⟩ := unhide HA
  have HBE := hide hB
  clear HA hB
  have hs : B + 4 ≤ w1.heap.size := by omega
  have HB := hide hb1
  clear hs1 hb1
  rintro e w2 ⟨rfl, hbN⟩
  have hsz := hbN.size
  have k0 := blk_below k0 hbN (by omega)
  have k1 := blk_below k1 hbN (by omega)
  have k2 := blk_below k2 hbN (by omega)
  have k3 := blk_below k3 hbN (by omega)
  have HB := hide ((unhide HB).trans (hbN.mono (by omega)))
  have hs : B + 4 ≤ w2.heap.size := by omega
  clear hbN hsz
  have c00 : w2.cell? ⟨B, 0, none⟩ = some (.int .i64 W) := blk_cell k0 0
  have c01 : w2.cell? ⟨B, 1, none⟩ = some (.int .i64 H) := blk_cell k0 1
  have c02 : w2.cell? ⟨B, 2, none⟩ = some (.slice a n c) := blk_cell k0 2
  have c10 : w2.cell? ⟨B + 1, 0, none⟩ = some (.int .i64 u) := blk_cell k1 0
  have c20 : w2.cell? ⟨B + 2, 0, none⟩ = some (.int .i64 v) := blk_cell k2 0
  have c30 : w2.cell? ⟨B + 3, 0, none⟩ = some (.int .i64 0) := blk_cell k3 0
  have f0 := blk_frozen k3 0
  have c31 : w2.cell? ⟨B + 3, 1, none⟩ = some (.int .i64 0) := blk_cell k3 1
  have f1 := blk_frozen k3 1
  have c32 : w2.cell? ⟨B + 3, 2, none⟩ = some (.slice none 0 0) := blk_cell k3 2
  have f2 := blk_frozen k3 2
  have hlr : B + 3 < w2.heap.size := by omega
  have hE2 := ((unhide HB).cell (p := ⟨1, 0, none⟩) hg).trans hE
  have xne : B + 3 ≠ 1 := by omega
  clear hE
  clear k0 k1 k2 k3
  go_wp2_with fail
  go_region_held (fun w' => w'.cell? ⟨1, 0, none⟩ = some (.iface tE vE)) (first | (go_keep; done) | (exact (far3 _ _ _ _ _ _ _ (by omega)).trans (by simp [*]))) (fail)
  all_goals
    go_wp2
    refine bodyPost_ret (v := .tuple #[.agg #[.int .i64 0, .int .i64 0, .slice none 0 0], .iface tE vE]) ?_ rfl ⟨rfl, ?_⟩
    · rw [results_ct (p := 6) (ty := 26) (u := 7) (by kernel_rfl)]
      go_simp
    · rw [← unhide HBE]
      exact (((((unhide HB).setCell (p := ⟨B + 3, 0, none⟩) (by show B ≤ B + 3; omega) _).setCell (p := ⟨B + 3, 1, none⟩) (by show B ≤ B + 3; omega) _).setCell (p := ⟨B + 3, 2, none⟩) (by show B ≤ B + 3; omega) _)).drew

set_option maxHeartbeats 4000000 in
set_option maxRecDepth 100000 in
theorem line_shape (W H : Int) (a : Option Addr) (n c : Nat) (x0 : Int) (y0 : Int) (x1 : Int) (y1 : Int) (q : Px)  (w : World) (tE : TypeId) (vE : Value) (hE : w.cell? ⟨1, 0, none⟩ = some (.iface tE vE)) (hR : ¬ RightP W H n) :
    Calls Tryd.prog 38 #[.agg #[.int .i64 W, .int .i64 H, .slice a n c], .int .i64 x0, .int .i64 y0, .int .i64 x1, .int .i64 y1, q.val] w fun e w' => e = .returned (.tuple #[.agg #[.int .i64 0, .int .i64 0, .slice none 0 0], .iface tE vE]) ∧ Below w.heap.size w w' := by
  have HA := hide (al3 w (.cells #[.int .i64 W, .int .i64 H, .slice a n c] 26) (.cells #[.int .u8 (q.r.toNat : Int), .int .u8 (q.g.toNat : Int), .int .u8 (q.b.toNat : Int), .int .u8 (q.a.toNat : Int)] 23) (.cells #[.int .i64 0, .int .i64 0, .slice none 0 0] 26))
  have HR := hide (fun w => isRight_any W H a n c w)
  rw [decide_eq_false hR] at HR
  clear hR
  have hg := World.block_lt_of_cell? _ _ hE
  simp only at hg
  obtain ⟨B, hB⟩ : ∃ B, B = w.heap.size := ⟨_, rfl⟩
  unfold Px.val
  go_enter Tryd.func38, Tryd.ntmps38
  go_wp2_with fail
  refine (unhide HR _).mono ?_
  generalize (((w.alloc (.cells #[.int .i64 W, .int .i64 H, .slice a n c] 26)).alloc (.cells #[.int .u8 (q.r.toNat : Int), .int .u8 (q.g.toNat : Int), .int .u8 (q.b.toNat : Int), .int .u8 (q.a.toNat : Int)] 23)).alloc (.cells #[.int .i64 0, .int .i64 0, .slice none 0 0] 26)) = w1 at *
  rw [← hB] at HA hg ⊢
  obtain ⟨hs1, k0, k1, k2, hb1⟩ := unhide HA
  have HBE := hide hB
  clear HA hB
  have hs : B + 3 ≤ w1.heap.size := by omega
  have HB := hide hb1
  clear hs1 hb1
  rintro e w2 ⟨rfl, hbN⟩
  have hsz := hbN.size
  have k0 := blk_below k0 hbN (by omega)
  have k1 := blk_below k1 hbN (by omega)
  have k2 := blk_below k2 hbN (by omega)
  have HB := hide ((unhide HB).trans (hbN.mono (by omega)))
  have hs : B + 3 ≤ w2.heap.size := by omega
  clear hbN hsz
  have c00 : w2.cell? ⟨B, 0, none⟩ = some (.int .i64 W) := blk_cell k0 0
  have c01 : w2.cell? ⟨B, 1, none⟩ = some (.int .i64 H) := blk_cell k0 1
  have c02 : w2.cell? ⟨B, 2, none⟩ = some (.slice a n c) := blk_cell k0 2
  have c10 : w2.cell? ⟨B + 1, 0, none⟩ = some (.int .u8 (q.r.toNat : Int)) := blk_cell k1 0
  have c11 : w2.cell? ⟨B + 1, 1, none⟩ = some (.int .u8 (q.g.toNat : Int)) := blk_cell k1 1
  have c12 : w2.cell? ⟨B + 1, 2, none⟩ = some (.int .u8 (q.b.toNat : Int)) := blk_cell k1 2
  have c13 : w2.cell? ⟨B + 1, 3, none⟩ = some (.int .u8 (q.a.toNat : Int)) := blk_cell k1 3
  have c20 : w2.cell? ⟨B + 2, 0, none⟩ = some (.int .i64 0) := blk_cell k2 0
  have f0 := blk_frozen k2 0
  have c21 : w2.cell? ⟨B + 2, 1, none⟩ = some (.int .i64 0) := blk_cell k2 1
  have f1 := blk_frozen k2 1
  have c22 : w2.cell? ⟨B + 2, 2, none⟩ = some (.slice none 0 0) := blk_cell k2 2
  have f2 := blk_frozen k2 2
  have hlr : B + 2 < w2.heap.size := by omega
  have hE2 := ((unhide HB).cell (p := ⟨1, 0, none⟩) hg).trans hE
  have xne : B + 2 ≠ 1 := by omega
  clear hE
  clear k0 k1 k2
  go_wp2_with fail
  go_region_held (fun w' => w'.cell? ⟨1, 0, none⟩ = some (.iface tE vE)) (first | (go_keep; done) | (exact (far3 _ _ _ _ _ _ _ (by omega)).trans (by simp [*]))) (fail)
  all_goals
    go_wp2
    refine bodyPost_ret (v := .tuple #[.agg #[.int .i64 0, .int .i64 0, .slice none 0 0], .iface tE vE]) ?_ rfl ⟨rfl, ?_⟩
    · rw [results_ct (p := 12) (ty := 26) (u := 13) (by kernel_rfl)]
      go_simp
    · rw [← unhide HBE]
      exact (((((unhide HB).setCell (p := ⟨B + 2, 0, none⟩) (by show B ≤ B + 2; omega) _).setCell (p := ⟨B + 2, 1, none⟩) (by show B ≤ B + 2; omega) _).setCell (p := ⟨B + 2, 2, none⟩) (by show B ≤ B + 2; omega) _)).drew


set_option maxHeartbeats 4000000 in
set_option maxRecDepth 100000 in
theorem rAt_shape (W H : Int) (a : Option Addr) (n c : Nat) (x : Int) (y : Int)  (w : World) (tE : TypeId) (vE : Value) (hE : w.cell? ⟨1, 0, none⟩ = some (.iface tE vE)) (hR : ¬ RightP W H n) :
    Calls Tryd.prog 15 #[.agg #[.int .i64 W, .int .i64 H, .slice a n c], .int .i64 x, .int .i64 y] w fun e w' => e = .returned (.tuple #[.agg #[.int .u8 0, .int .u8 0, .int .u8 0, .int .u8 0], .iface tE vE]) ∧ Below w.heap.size w w' := by
  have HA := hide (al2 w (.cells #[.int .i64 W, .int .i64 H, .slice a n c] 26) (.cells #[.int .u8 0, .int .u8 0, .int .u8 0, .int .u8 0] 23))
  have HR := hide (fun w => isRight_any W H a n c w)
  rw [decide_eq_false hR] at HR
  clear hR
  have hg := World.block_lt_of_cell? _ _ hE
  simp only at hg
  obtain ⟨B, hB⟩ : ∃ B, B = w.heap.size := ⟨_, rfl⟩
  go_enter Tryd.func15, Tryd.ntmps15
  go_wp2_with fail
  refine (unhide HR _).mono ?_
  generalize ((w.alloc (.cells #[.int .i64 W, .int .i64 H, .slice a n c] 26)).alloc (.cells #[.int .u8 0, .int .u8 0, .int .u8 0, .int .u8 0] 23)) = w1 at *
  rw [← hB] at HA hg ⊢
  obtain ⟨hs1, k0, k1, hb1⟩ := unhide HA
  have HBE := hide hB
  clear HA hB
  have hs : B + 2 ≤ w1.heap.size := by omega
  have HB := hide hb1
  clear hs1 hb1
  rintro e w2 ⟨rfl, hbN⟩
  have hsz := hbN.size
  have k0 := blk_below k0 hbN (by omega)
  have k1 := blk_below k1 hbN (by omega)
  have HB := hide ((unhide HB).trans (hbN.mono (by omega)))
  have hs : B + 2 ≤ w2.heap.size := by omega
  clear hbN hsz
  have c00 : w2.cell? ⟨B, 0, none⟩ = some (.int .i64 W) := blk_cell k0 0
  have c01 : w2.cell? ⟨B, 1, none⟩ = some (.int .i64 H) := blk_cell k0 1
  have c02 : w2.cell? ⟨B, 2, none⟩ = some (.slice a n c) := blk_cell k0 2
  have c10 : w2.cell? ⟨B + 1, 0, none⟩ = some (.int .u8 0) := blk_cell k1 0
  have f0 := blk_frozen k1 0
  have c11 : w2.cell? ⟨B + 1, 1, none⟩ = some (.int .u8 0) := blk_cell k1 1
  have f1 := blk_frozen k1 1
  have c12 : w2.cell? ⟨B + 1, 2, none⟩ = some (.int .u8 0) := blk_cell k1 2
  have f2 := blk_frozen k1 2
  have c13 : w2.cell? ⟨B + 1, 3, none⟩ = some (.int .u8 0) := blk_cell k1 3
  have f3 := blk_frozen k1 3
  have hlr : B + 1 < w2.heap.size := by omega
  have hE2 := ((unhide HB).cell (p := ⟨1, 0, none⟩) hg).trans hE
  have xne : B + 1 ≠ 1 := by omega
  clear hE
  clear k0 k1
  go_wp2_with fail
  go_region_held (fun w' => w'.cell? ⟨1, 0, none⟩ = some (.iface tE vE)) (first | (go_keep; done) | (exact (far4 _ _ _ _ _ _ _ _ (by omega)).trans (by simp [*]))) (fail)
  all_goals
    go_wp2
    refine bodyPost_ret (v := .tuple #[.agg #[.int .u8 0, .int .u8 0, .int .u8 0, .int .u8 0], .iface tE vE]) ?_ rfl ⟨rfl, ?_⟩
    · rw [results_ct (p := 6) (ty := 23) (u := 7) (by kernel_rfl)]
      go_simp
    · rw [← unhide HBE]
      exact ((((((unhide HB).setCell (p := ⟨B + 1, 0, none⟩) (by show B ≤ B + 1; omega) _).setCell (p := ⟨B + 1, 1, none⟩) (by show B ≤ B + 1; omega) _).setCell (p := ⟨B + 1, 2, none⟩) (by show B ≤ B + 1; omega) _).setCell (p := ⟨B + 1, 3, none⟩) (by show B ≤ B + 1; omega) _)).drew

end Go.Proofs.YtjhnneplknhmkahDoor
