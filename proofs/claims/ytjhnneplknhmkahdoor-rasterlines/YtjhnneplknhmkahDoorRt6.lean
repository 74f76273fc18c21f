/- Pictures: what the functions of package raster refuse as out of bounds. Written by genrt5.py. -/
import Derived.Test.YtjhnneplknhmkahDoorRt5
namespace Go.Proofs.YtjhnneplknhmkahDoor
open Go.RowKit

theorem rightN {W H n : Nat} (hW0 : 1 ≤ W) (hW : W ≤ 256) (hH0 : 1 ≤ H) (hH : H ≤ 256) (hn : n = W * H) : RightP (W : Int) (H : Int) n := ⟨by omega, by omega, by rw [hn]; simp⟩
/-- Near. -/
def Nr (z : Int) : Prop := -10000 ≤ z ∧ z ≤ 10000
instance (z : Int) : Decidable (Nr z) := by unfold Nr; infer_instance
theorem near4_any (z0 z1 z2 z3 : Int) (w : World) :
    Calls Tryd.prog 47 #[.slice (some ⟨w.heap.size, 0, none⟩) 4 4] (w.alloc (.cells #[.int .i64 z0, .int .i64 z1, .int .i64 z2, .int .i64 z3] 3)) fun e w' => e = .returned (.bool (decide (Nr z0 ∧ Nr z1 ∧ Nr z2 ∧ Nr z3))) ∧ w' = w.alloc (.cells #[.int .i64 z0, .int .i64 z1, .int .i64 z2, .int .i64 z3] 3) := by
  have k := heap_alloc_new w (.cells #[.int .i64 z0, .int .i64 z1, .int .i64 z2, .int .i64 z3] 3)
  have e4 : ∀ i, i < 4 → i = 0 ∨ i = 1 ∨ i = 2 ∨ i = 3 := fun i h => by omega
  refine areNear_any w.heap.size 4 4 (fun i => if i = 0 then z0 else if i = 1 then z1 else if i = 2 then z2 else z3) _ (by omega) (fun i hi => ?_) _ ?_
  · rcases e4 i hi with rfl | rfl | rfl | rfl <;> exact blk_cell k _
  · rw [decide_eq_true_eq]
    constructor
    · rintro ⟨h0, h1, h2, h3⟩ i hi
      rcases e4 i hi with rfl | rfl | rfl | rfl
      · exact h0
      · exact h1
      · exact h2
      · exact h3
    · intro h
      exact ⟨h 0 (by omega), h 1 (by omega), h 2 (by omega), h 3 (by omega)⟩
theorem near2_any (z0 z1 : Int) (w : World) :
    Calls Tryd.prog 47 #[.slice (some ⟨w.heap.size, 0, none⟩) 2 2] (w.alloc (.cells #[.int .i64 z0, .int .i64 z1] 3)) fun e w' => e = .returned (.bool (decide (Nr z0 ∧ Nr z1))) ∧ w' = w.alloc (.cells #[.int .i64 z0, .int .i64 z1] 3) := by
  have k := heap_alloc_new w (.cells #[.int .i64 z0, .int .i64 z1] 3)
  have e2 : ∀ i, i < 2 → i = 0 ∨ i = 1 := fun i h => by omega
  refine areNear_any w.heap.size 2 2 (fun i => if i = 0 then z0 else z1) _ (by omega) (fun i hi => ?_) _ ?_
  · rcases e2 i hi with rfl | rfl <;> exact blk_cell k _
  · rw [decide_eq_true_eq]
    constructor
    · rintro ⟨h0, h1⟩ i hi
      rcases e2 i hi with rfl | rfl
      · exact h0
      · exact h1
    · intro h
      exact ⟨h 0 (by omega), h 1 (by omega)⟩

set_option maxHeartbeats 4000000 in
set_option maxRecDepth 100000 in
theorem new_bound  (u : Int) (v : Int) (q : Px)  (w : World) (tE : TypeId) (vE : Value) (hE : w.cell? ⟨0, 0, none⟩ = some (.iface tE vE)) (hb : ¬ ((1 ≤ u ∧ u ≤ 256) ∧ (1 ≤ v ∧ v ≤ 256))) :
    Calls Tryd.prog 11 #[.int .i64 u, .int .i64 v, q.val] w fun e w' => e = .returned (.tuple #[.agg #[.int .i64 0, .int .i64 0, .slice none 0 0], .iface tE vE]) ∧ Below w.heap.size w w' := by
  have HA := hide (al2 w (.cells #[.int .u8 (q.r.toNat : Int), .int .u8 (q.g.toNat : Int), .int .u8 (q.b.toNat : Int), .int .u8 (q.a.toNat : Int)] 23) (.cells #[.int .i64 0, .int .i64 0, .slice none 0 0] 26))
  have HS := hide (fun w => areSides_any u v w)
  rw [decide_eq_false hb] at HS
  clear hb
  have hg := World.block_lt_of_cell? _ _ hE
  simp only at hg
  obtain ⟨B, hB⟩ : ∃ B, B = w.heap.size := ⟨_, rfl⟩
  unfold Px.val
  go_enter Tryd.func11, Tryd.ntmps11
  go_wp2_with fail
  refine (unhide HS _).mono ?_
  generalize ((w.alloc (.cells #[.int .u8 (q.r.toNat : Int), .int .u8 (q.g.toNat : Int), .int .u8 (q.b.toNat : Int), .int .u8 (q.a.toNat : Int)] 23)).alloc (.cells #[.int .i64 0, .int .i64 0, .slice none 0 0] 26)) = w1 at *
  rw [← hB] at HA hg ⊢
  obtain ⟨hs1, k0, k1, hb1⟩ := unhide HA
  have HBE := hide hB
  clear HA hB
  have hs : B + 2 ≤ w1.heap.size := by omega
  have HB := hide hb1
  clear hs1 hb1
  rintro e w1 ⟨rfl, rfl⟩
  have c00 : w1.cell? ⟨B, 0, none⟩ = some (.int .u8 (q.r.toNat : Int)) := blk_cell k0 0
  have c01 : w1.cell? ⟨B, 1, none⟩ = some (.int .u8 (q.g.toNat : Int)) := blk_cell k0 1
  have c02 : w1.cell? ⟨B, 2, none⟩ = some (.int .u8 (q.b.toNat : Int)) := blk_cell k0 2
  have c03 : w1.cell? ⟨B, 3, none⟩ = some (.int .u8 (q.a.toNat : Int)) := blk_cell k0 3
  have c10 : w1.cell? ⟨B + 1, 0, none⟩ = some (.int .i64 0) := blk_cell k1 0
  have f0 := blk_frozen k1 0
  have c11 : w1.cell? ⟨B + 1, 1, none⟩ = some (.int .i64 0) := blk_cell k1 1
  have f1 := blk_frozen k1 1
  have c12 : w1.cell? ⟨B + 1, 2, none⟩ = some (.slice none 0 0) := blk_cell k1 2
  have f2 := blk_frozen k1 2
  have hlr : B + 1 < w1.heap.size := by omega
  have hE2 := ((unhide HB).cell (p := ⟨0, 0, none⟩) hg).trans hE
  have xne : B + 1 ≠ 0 := by omega
  clear hE
  clear k0 k1
  go_wp2_with fail
  go_region_held (fun w' => w'.cell? ⟨0, 0, none⟩ = some (.iface tE vE)) (first | (go_keep; done) | (exact (far3 _ _ _ _ _ _ _ (by omega)).trans (by simp [*]))) (fail)
  all_goals
    go_wp2
    refine bodyPost_ret (v := .tuple #[.agg #[.int .i64 0, .int .i64 0, .slice none 0 0], .iface tE vE]) ?_ rfl ⟨rfl, ?_⟩
    · rw [results_ct (p := 6) (ty := 26) (u := 7) (by kernel_rfl)]
      go_simp
    · rw [← unhide HBE]
      exact (((((unhide HB).setCell (p := ⟨B + 1, 0, none⟩) (by show B ≤ B + 1; omega) _).setCell (p := ⟨B + 1, 1, none⟩) (by show B ≤ B + 1; omega) _).setCell (p := ⟨B + 1, 2, none⟩) (by show B ≤ B + 1; omega) _)).drew

set_option maxHeartbeats 4000000 in
set_option maxRecDepth 100000 in
theorem rAt_bound (W H : Nat) (a : Option Addr) (n c : Nat) (x : Int) (y : Int)  (w : World) (tE : TypeId) (vE : Value) (hE : w.cell? ⟨0, 0, none⟩ = some (.iface tE vE)) (hW0 : 1 ≤ W) (hW : W ≤ 256) (hH0 : 1 ≤ H) (hH : H ≤ 256) (hn : n = W * H) (hb : ¬ (0 ≤ x ∧ x < (W : Int) ∧ 0 ≤ y ∧ y < (H : Int))) :
    Calls Tryd.prog 15 #[.agg #[.int .i64 (W : Int), .int .i64 (H : Int), .slice a n c], .int .i64 x, .int .i64 y] w fun e w' => e = .returned (.tuple #[.agg #[.int .u8 0, .int .u8 0, .int .u8 0, .int .u8 0], .iface tE vE]) ∧ Below w.heap.size w w' := by
  have HA := hide (al2 w (.cells #[.int .i64 (W : Int), .int .i64 (H : Int), .slice a n c] 26) (.cells #[.int .u8 0, .int .u8 0, .int .u8 0, .int .u8 0] 23))
  have HR := hide (fun w => isRight_any W H a n c w)
  rw [decide_eq_true (rightN hW0 hW hH0 hH hn)] at HR
  clear hn
  have HS := hide (fun w => holds_any W H x y a n c w)
  rw [decide_eq_false hb] at HS
  clear hb
  have hg := World.block_lt_of_cell? _ _ hE
  simp only at hg
  obtain ⟨B, hB⟩ : ∃ B, B = w.heap.size := ⟨_, rfl⟩
  go_enter Tryd.func15, Tryd.ntmps15
  go_wp2_with fail
  refine (unhide HR _).mono ?_
  generalize ((w.alloc (.cells #[.int .i64 (W : Int), .int .i64 (H : Int), .slice a n c] 26)).alloc (.cells #[.int .u8 0, .int .u8 0, .int .u8 0, .int .u8 0] 23)) = w1 at *
  rw [← hB] at HA hg ⊢
  obtain ⟨hs1, k0, k1, hb1⟩ := unhide HA
  have HBE := hide hB
  clear HA hB
  have hs : B + 2 ≤ w1.heap.size := by omega
  have HB := hide hb1
  clear hs1 hb1
  rintro e w2 ⟨rfl, hbN⟩
  have hsz := hbN.size
  have k0 := blk_below k0 hbN (by omega)
  have k1 := blk_below k1 hbN (by omega)
  have HB := hide ((unhide HB).trans (hbN.mono (by omega)))
  have hs : B + 2 ≤ w2.heap.size := by omega
  clear hbN hsz
  have c00 : w2.cell? ⟨B, 0, none⟩ = some (.int .i64 (W : Int)) := blk_cell k0 0
  have c01 : w2.cell? ⟨B, 1, none⟩ = some (.int .i64 (H : Int)) := blk_cell k0 1
  have c02 : w2.cell? ⟨B, 2, none⟩ = some (.slice a n c) := blk_cell k0 2
  have c10 : w2.cell? ⟨B + 1, 0, none⟩ = some (.int .u8 0) := blk_cell k1 0
  have f0 := blk_frozen k1 0
  have c11 : w2.cell? ⟨B + 1, 1, none⟩ = some (.int .u8 0) := blk_cell k1 1
  have f1 := blk_frozen k1 1
  have c12 : w2.cell? ⟨B + 1, 2, none⟩ = some (.int .u8 0) := blk_cell k1 2
  have f2 := blk_frozen k1 2
  have c13 : w2.cell? ⟨B + 1, 3, none⟩ = some (.int .u8 0) := blk_cell k1 3
  have f3 := blk_frozen k1 3
  go_wp2_with fail
  refine (unhide HS _).mono ?_
  clear c00 c01 c02 c10 c11 c12 c13 f0 f1 f2 f3
  rintro e w3 ⟨rfl, hbN⟩
  have hsz := hbN.size
  have k0 := blk_below k0 hbN (by omega)
  have k1 := blk_below k1 hbN (by omega)
  have HB := hide ((unhide HB).trans (hbN.mono (by omega)))
  have hs : B + 2 ≤ w3.heap.size := by omega
  clear hbN hsz
  have c00 : w3.cell? ⟨B, 0, none⟩ = some (.int .i64 (W : Int)) := blk_cell k0 0
  have c01 : w3.cell? ⟨B, 1, none⟩ = some (.int .i64 (H : Int)) := blk_cell k0 1
  have c02 : w3.cell? ⟨B, 2, none⟩ = some (.slice a n c) := blk_cell k0 2
  have c10 : w3.cell? ⟨B + 1, 0, none⟩ = some (.int .u8 0) := blk_cell k1 0
  have f0 := blk_frozen k1 0
  have c11 : w3.cell? ⟨B + 1, 1, none⟩ = some (.int .u8 0) := blk_cell k1 1
  have f1 := blk_frozen k1 1
  have c12 : w3.cell? ⟨B + 1, 2, none⟩ = some (.int .u8 0) := blk_cell k1 2
  have f2 := blk_frozen k1 2
  have c13 : w3.cell? ⟨B + 1, 3, none⟩ = some (.int .u8 0) := blk_cell k1 3
  have f3 := blk_frozen k1 3
  have hlr : B + 1 < w3.heap.size := by omega
  have hE2 := ((unhide HB).cell (p := ⟨0, 0, none⟩) hg).trans hE
  have xne : B + 1 ≠ 0 := by omega
  clear hE
  clear k0 k1
  go_wp2_with fail
  go_region_held (fun w' => w'.cell? ⟨0, 0, none⟩ = some (.iface tE vE)) (first | (go_keep; done) | (exact (far4 _ _ _ _ _ _ _ _ (by omega)).trans (by simp [*]))) (fail)
  all_goals
    go_wp2
    refine bodyPost_ret (v := .tuple #[.agg #[.int .u8 0, .int .u8 0, .int .u8 0, .int .u8 0], .iface tE vE]) ?_ rfl ⟨rfl, ?_⟩
    · rw [results_ct (p := 6) (ty := 23) (u := 7) (by kernel_rfl)]
      go_simp
    · rw [← unhide HBE]
      exact ((((((unhide HB).setCell (p := ⟨B + 1, 0, none⟩) (by show B ≤ B + 1; omega) _).setCell (p := ⟨B + 1, 1, none⟩) (by show B ≤ B + 1; omega) _).setCell (p := ⟨B + 1, 2, none⟩) (by show B ≤ B + 1; omega) _).setCell (p := ⟨B + 1, 3, none⟩) (by show B ≤ B + 1; omega) _)).drew

set_option maxHeartbeats 4000000 in
set_option maxRecDepth 100000 in
theorem fill_near (W H : Nat) (a : Option Addr) (n c : Nat) (X Y RW RH : Int) (q : Px)  (w : World) (tE : TypeId) (vE : Value) (hE : w.cell? ⟨0, 0, none⟩ = some (.iface tE vE)) (hW0 : 1 ≤ W) (hW : W ≤ 256) (hH0 : 1 ≤ H) (hH : H ≤ 256) (hn : n = W * H) (hb : ¬ (Nr X ∧ Nr Y ∧ Nr RW ∧ Nr RH)) :
    Calls Tryd.prog 20 #[.agg #[.int .i64 (W : Int), .int .i64 (H : Int), .slice a n c], .agg #[.int .i64 X, .int .i64 Y, .int .i64 RW, .int .i64 RH], q.val] w fun e w' => e = .returned (.tuple #[.agg #[.int .i64 0, .int .i64 0, .slice none 0 0], .iface tE vE]) ∧ Below w.heap.size w w' := by
  have HA := hide (al4 w (.cells #[.int .i64 (W : Int), .int .i64 (H : Int), .slice a n c] 26) (.cells #[.int .i64 X, .int .i64 Y, .int .i64 RW, .int .i64 RH] 43) (.cells #[.int .u8 (q.r.toNat : Int), .int .u8 (q.g.toNat : Int), .int .u8 (q.b.toNat : Int), .int .u8 (q.a.toNat : Int)] 23) (.cells #[.int .i64 0, .int .i64 0, .slice none 0 0] 26))
  have HR := hide (fun w => isRight_any W H a n c w)
  rw [decide_eq_true (rightN hW0 hW hH0 hH hn)] at HR
  clear hn
  have HS := hide (fun w => near4_any X Y RW RH w)
  rw [decide_eq_false hb] at HS
  clear hb
  have hg := World.block_lt_of_cell? _ _ hE
  simp only at hg
  obtain ⟨B, hB⟩ : ∃ B, B = w.heap.size := ⟨_, rfl⟩
  unfold Px.val
  go_enter Tryd.func20, Tryd.ntmps20
  go_wp2_with fail
  refine (unhide HR _).mono ?_
  generalize ((((w.alloc (.cells #[.int .i64 (W : Int), .int .i64 (H : Int), .slice a n c] 26)).alloc (.cells #[.int .i64 X, .int .i64 Y, .int .i64 RW, .int .i64 RH] 43)).alloc (.cells #[.int .u8 (q.r.toNat : Int), .int .u8 (q.g.toNat : Int), .int .u8 (q.b.toNat : Int), .int .u8 (q.a.toNat : Int)] 23)).alloc (.cells #[.int .i64 0, .int .i64 0, .slice none 0 0] 26)) = w1 at *
  rw [← hB] at HA hg ⊢
  obtain ⟨hs1, k0, k1, k2, k3, hb1⟩ := unhide HA
  have HBE := hide hB
  clear HA hB
  have hs : B + 4 ≤ w1.heap.size := by omega
  have HB := hide hb1
  clear hs1 hb1
  rintro e w2 ⟨rfl, hbN⟩
  have hsz := hbN.size
  have k0 := blk_below k0 hbN (by omega)
  have k1 := blk_below k1 hbN (by omega)
  have k2 := blk_below k2 hbN (by omega)
  have k3 := blk_below k3 hbN (by omega)
  have HB := hide ((unhide HB).trans (hbN.mono (by omega)))
  have hs : B + 4 ≤ w2.heap.size := by omega
  clear hbN hsz
  have c00 : w2.cell? ⟨B, 0, none⟩ = some (.int .i64 (W : Int)) := blk_cell k0 0
  have c01 : w2.cell? ⟨B, 1, none⟩ = some (.int .i64 (H : Int)) := blk_cell k0 1
  have c02 : w2.cell? ⟨B, 2, none⟩ = some (.slice a n c) := blk_cell k0 2
  have c10 : w2.cell? ⟨B + 1, 0, none⟩ = some (.int .i64 X) := blk_cell k1 0
  have c11 : w2.cell? ⟨B + 1, 1, none⟩ = some (.int .i64 Y) := blk_cell k1 1
  have c12 : w2.cell? ⟨B + 1, 2, none⟩ = some (.int .i64 RW) := blk_cell k1 2
  have c13 : w2.cell? ⟨B + 1, 3, none⟩ = some (.int .i64 RH) := blk_cell k1 3
  have c20 : w2.cell? ⟨B + 2, 0, none⟩ = some (.int .u8 (q.r.toNat : Int)) := blk_cell k2 0
  have c21 : w2.cell? ⟨B + 2, 1, none⟩ = some (.int .u8 (q.g.toNat : Int)) := blk_cell k2 1
  have c22 : w2.cell? ⟨B + 2, 2, none⟩ = some (.int .u8 (q.b.toNat : Int)) := blk_cell k2 2
  have c23 : w2.cell? ⟨B + 2, 3, none⟩ = some (.int .u8 (q.a.toNat : Int)) := blk_cell k2 3
  have c30 : w2.cell? ⟨B + 3, 0, none⟩ = some (.int .i64 0) := blk_cell k3 0
  have f0 := blk_frozen k3 0
  have c31 : w2.cell? ⟨B + 3, 1, none⟩ = some (.int .i64 0) := blk_cell k3 1
  have f1 := blk_frozen k3 1
  have c32 : w2.cell? ⟨B + 3, 2, none⟩ = some (.slice none 0 0) := blk_cell k3 2
  have f2 := blk_frozen k3 2
  go_wp2_with fail
  refine (unhide HS _).mono ?_
  have hbA : Below w2.heap.size w2 (w2.alloc (.cells #[.int .i64 X, .int .i64 Y, .int .i64 RW, .int .i64 RH] 3)) := (Below.refl _ _).alloc (Nat.le_refl _) _
  generalize w2.alloc (.cells #[.int .i64 X, .int .i64 Y, .int .i64 RW, .int .i64 RH] 3) = w3 at *
  clear c00 c01 c02 c10 c11 c12 c13 c20 c21 c22 c23 c30 c31 c32 f0 f1 f2
  have hsz := hbA.size
  have k0 := blk_below k0 hbA (by omega)
  have k1 := blk_below k1 hbA (by omega)
  have k2 := blk_below k2 hbA (by omega)
  have k3 := blk_below k3 hbA (by omega)
  have HB := hide ((unhide HB).trans (hbA.mono (by omega)))
  have hs : B + 4 ≤ w3.heap.size := by omega
  clear hbA hsz
  rintro e w3 ⟨rfl, rfl⟩
  have c00 : w3.cell? ⟨B, 0, none⟩ = some (.int .i64 (W : Int)) := blk_cell k0 0
  have c01 : w3.cell? ⟨B, 1, none⟩ = some (.int .i64 (H : Int)) := blk_cell k0 1
  have c02 : w3.cell? ⟨B, 2, none⟩ = some (.slice a n c) := blk_cell k0 2
  have c10 : w3.cell? ⟨B + 1, 0, none⟩ = some (.int .i64 X) := blk_cell k1 0
  have c11 : w3.cell? ⟨B + 1, 1, none⟩ = some (.int .i64 Y) := blk_cell k1 1
  have c12 : w3.cell? ⟨B + 1, 2, none⟩ = some (.int .i64 RW) := blk_cell k1 2
  have c13 : w3.cell? ⟨B + 1, 3, none⟩ = some (.int .i64 RH) := blk_cell k1 3
  have c20 : w3.cell? ⟨B + 2, 0, none⟩ = some (.int .u8 (q.r.toNat : Int)) := blk_cell k2 0
  have c21 : w3.cell? ⟨B + 2, 1, none⟩ = some (.int .u8 (q.g.toNat : Int)) := blk_cell k2 1
  have c22 : w3.cell? ⟨B + 2, 2, none⟩ = some (.int .u8 (q.b.toNat : Int)) := blk_cell k2 2
  have c23 : w3.cell? ⟨B + 2, 3, none⟩ = some (.int .u8 (q.a.toNat : Int)) := blk_cell k2 3
  have c30 : w3.cell? ⟨B + 3, 0, none⟩ = some (.int .i64 0) := blk_cell k3 0
  have f0 := blk_frozen k3 0
  have c31 : w3.cell? ⟨B + 3, 1, none⟩ = some (.int .i64 0) := blk_cell k3 1
  have f1 := blk_frozen k3 1
  have c32 : w3.cell? ⟨B + 3, 2, none⟩ = some (.slice none 0 0) := blk_cell k3 2
  have f2 := blk_frozen k3 2
  have hlr : B + 3 < w3.heap.size := by omega
  have hE2 := ((unhide HB).cell (p := ⟨0, 0, none⟩) hg).trans hE
  have xne : B + 3 ≠ 0 := by omega
  clear hE
  clear k0 k1 k2 k3
  go_wp2_with fail
  go_region_held (fun w' => w'.cell? ⟨0, 0, none⟩ = some (.iface tE vE)) (first | (go_keep; done) | (exact (far3 _ _ _ _ _ _ _ (by omega)).trans (by simp [*]))) (fail)
  all_goals
    go_wp2
    refine bodyPost_ret (v := .tuple #[.agg #[.int .i64 0, .int .i64 0, .slice none 0 0], .iface tE vE]) ?_ rfl ⟨rfl, ?_⟩
    · rw [results_ct (p := 6) (ty := 26) (u := 7) (by kernel_rfl)]
      go_simp
    · rw [← unhide HBE]
      exact (((((unhide HB).setCell (p := ⟨B + 3, 0, none⟩) (by show B ≤ B + 3; omega) _).setCell (p := ⟨B + 3, 1, none⟩) (by show B ≤ B + 3; omega) _).setCell (p := ⟨B + 3, 2, none⟩) (by show B ≤ B + 3; omega) _)).drew

set_option maxHeartbeats 4000000 in
set_option maxRecDepth 100000 in
theorem fill_less1 (W H : Nat) (a : Option Addr) (n c : Nat) (X Y RW RH : Int) (q : Px)  (w : World) (tE : TypeId) (vE : Value) (hE : w.cell? ⟨0, 0, none⟩ = some (.iface tE vE)) (hW0 : 1 ≤ W) (hW : W ≤ 256) (hH0 : 1 ≤ H) (hH : H ≤ 256) (hn : n = W * H) (hb : Nr X ∧ Nr Y ∧ Nr RW ∧ Nr RH) (h0 : RW < 0) :
    Calls Tryd.prog 20 #[.agg #[.int .i64 (W : Int), .int .i64 (H : Int), .slice a n c], .agg #[.int .i64 X, .int .i64 Y, .int .i64 RW, .int .i64 RH], q.val] w fun e w' => e = .returned (.tuple #[.agg #[.int .i64 0, .int .i64 0, .slice none 0 0], .iface tE vE]) ∧ Below w.heap.size w w' := by
  have HA := hide (al4 w (.cells #[.int .i64 (W : Int), .int .i64 (H : Int), .slice a n c] 26) (.cells #[.int .i64 X, .int .i64 Y, .int .i64 RW, .int .i64 RH] 43) (.cells #[.int .u8 (q.r.toNat : Int), .int .u8 (q.g.toNat : Int), .int .u8 (q.b.toNat : Int), .int .u8 (q.a.toNat : Int)] 23) (.cells #[.int .i64 0, .int .i64 0, .slice none 0 0] 26))
  have HR := hide (fun w => isRight_any W H a n c w)
  rw [decide_eq_true (rightN hW0 hW hH0 hH hn)] at HR
  clear hn
  have HS := hide (fun w => near4_any X Y RW RH w)
  rw [decide_eq_true hb] at HS
  have d0 : decide (RW < 0) = true := decide_eq_true h0
  clear hb h0
  have hg := World.block_lt_of_cell? _ _ hE
  simp only at hg
  obtain ⟨B, hB⟩ : ∃ B, B = w.heap.size := ⟨_, rfl⟩
  unfold Px.val
  go_enter Tryd.func20, Tryd.ntmps20
  go_wp2_with fail
  refine (unhide HR _).mono ?_
  generalize ((((w.alloc (.cells #[.int .i64 (W : Int), .int .i64 (H : Int), .slice a n c] 26)).alloc (.cells #[.int .i64 X, .int .i64 Y, .int .i64 RW, .int .i64 RH] 43)).alloc (.cells #[.int .u8 (q.r.toNat : Int), .int .u8 (q.g.toNat : Int), .int .u8 (q.b.toNat : Int), .int .u8 (q.a.toNat : Int)] 23)).alloc (.cells #[.int .i64 0, .int .i64 0, .slice none 0 0] 26)) = w1 at *
  rw [← hB] at HA hg ⊢
  obtain ⟨hs1, k0, k1, k2, k3, hb1⟩ := unhide HA
  have HBE := hide hB
  clear HA hB
  have hs : B + 4 ≤ w1.heap.size := by omega
  have HB := hide hb1
  clear hs1 hb1
  rintro e w2 ⟨rfl, hbN⟩
  have hsz := hbN.size
  have k0 := blk_below k0 hbN (by omega)
  have k1 := blk_below k1 hbN (by omega)
  have k2 := blk_below k2 hbN (by omega)
  have k3 := blk_below k3 hbN (by omega)
  have HB := hide ((unhide HB).trans (hbN.mono (by omega)))
  have hs : B + 4 ≤ w2.heap.size := by omega
  clear hbN hsz
  have c00 : w2.cell? ⟨B, 0, none⟩ = some (.int .i64 (W : Int)) := blk_cell k0 0
  have c01 : w2.cell? ⟨B, 1, none⟩ = some (.int .i64 (H : Int)) := blk_cell k0 1
  have c02 : w2.cell? ⟨B, 2, none⟩ = some (.slice a n c) := blk_cell k0 2
  have c10 : w2.cell? ⟨B + 1, 0, none⟩ = some (.int .i64 X) := blk_cell k1 0
  have c11 : w2.cell? ⟨B + 1, 1, none⟩ = some (.int .i64 Y) := blk_cell k1 1
  have c12 : w2.cell? ⟨B + 1, 2, none⟩ = some (.int .i64 RW) := blk_cell k1 2
  have c13 : w2.cell? ⟨B + 1, 3, none⟩ = some (.int .i64 RH) := blk_cell k1 3
  have c20 : w2.cell? ⟨B + 2, 0, none⟩ = some (.int .u8 (q.r.toNat : Int)) := blk_cell k2 0
  have c21 : w2.cell? ⟨B + 2, 1, none⟩ = some (.int .u8 (q.g.toNat : Int)) := blk_cell k2 1
  have c22 : w2.cell? ⟨B + 2, 2, none⟩ = some (.int .u8 (q.b.toNat : Int)) := blk_cell k2 2
  have c23 : w2.cell? ⟨B + 2, 3, none⟩ = some (.int .u8 (q.a.toNat : Int)) := blk_cell k2 3
  have c30 : w2.cell? ⟨B + 3, 0, none⟩ = some (.int .i64 0) := blk_cell k3 0
  have f0 := blk_frozen k3 0
  have c31 : w2.cell? ⟨B + 3, 1, none⟩ = some (.int .i64 0) := blk_cell k3 1
  have f1 := blk_frozen k3 1
  have c32 : w2.cell? ⟨B + 3, 2, none⟩ = some (.slice none 0 0) := blk_cell k3 2
  have f2 := blk_frozen k3 2
  go_wp2_with fail
  refine (unhide HS _).mono ?_
  have hbA : Below w2.heap.size w2 (w2.alloc (.cells #[.int .i64 X, .int .i64 Y, .int .i64 RW, .int .i64 RH] 3)) := (Below.refl _ _).alloc (Nat.le_refl _) _
  generalize w2.alloc (.cells #[.int .i64 X, .int .i64 Y, .int .i64 RW, .int .i64 RH] 3) = w3 at *
  clear c00 c01 c02 c10 c11 c12 c13 c20 c21 c22 c23 c30 c31 c32 f0 f1 f2
  have hsz := hbA.size
  have k0 := blk_below k0 hbA (by omega)
  have k1 := blk_below k1 hbA (by omega)
  have k2 := blk_below k2 hbA (by omega)
  have k3 := blk_below k3 hbA (by omega)
  have HB := hide ((unhide HB).trans (hbA.mono (by omega)))
  have hs : B + 4 ≤ w3.heap.size := by omega
  clear hbA hsz
  rintro e w3 ⟨rfl, rfl⟩
  have c00 : w3.cell? ⟨B, 0, none⟩ = some (.int .i64 (W : Int)) := blk_cell k0 0
  have c01 : w3.cell? ⟨B, 1, none⟩ = some (.int .i64 (H : Int)) := blk_cell k0 1
  have c02 : w3.cell? ⟨B, 2, none⟩ = some (.slice a n c) := blk_cell k0 2
  have c10 : w3.cell? ⟨B + 1, 0, none⟩ = some (.int .i64 X) := blk_cell k1 0
  have c11 : w3.cell? ⟨B + 1, 1, none⟩ = some (.int .i64 Y) := blk_cell k1 1
  have c12 : w3.cell? ⟨B + 1, 2, none⟩ = some (.int .i64 RW) := blk_cell k1 2
  have c13 : w3.cell? ⟨B + 1, 3, none⟩ = some (.int .i64 RH) := blk_cell k1 3
  have c20 : w3.cell? ⟨B + 2, 0, none⟩ = some (.int .u8 (q.r.toNat : Int)) := blk_cell k2 0
  have c21 : w3.cell? ⟨B + 2, 1, none⟩ = some (.int .u8 (q.g.toNat : Int)) := blk_cell k2 1
  have c22 : w3.cell? ⟨B + 2, 2, none⟩ = some (.int .u8 (q.b.toNat : Int)) := blk_cell k2 2
  have c23 : w3.cell? ⟨B + 2, 3, none⟩ = some (.int .u8 (q.a.toNat : Int)) := blk_cell k2 3
  have c30 : w3.cell? ⟨B + 3, 0, none⟩ = some (.int .i64 0) := blk_cell k3 0
  have f0 := blk_frozen k3 0
  have c31 : w3.cell? ⟨B + 3, 1, none⟩ = some (.int .i64 0) := blk_cell k3 1
  have f1 := blk_frozen k3 1
  have c32 : w3.cell? ⟨B + 3, 2, none⟩ = some (.slice none 0 0) := blk_cell k3 2
  have f2 := blk_frozen k3 2
  have hlr : B + 3 < w3.heap.size := by omega
  have hE2 := ((unhide HB).cell (p := ⟨0, 0, none⟩) hg).trans hE
  have xne : B + 3 ≠ 0 := by omega
  clear hE
  clear k0 k1 k2 k3
  go_wp2_with fail
  go_region_held (fun w' => w'.cell? ⟨0, 0, none⟩ = some (.iface tE vE)) (first | (go_keep; done) | (exact (far3 _ _ _ _ _ _ _ (by omega)).trans (by simp [*]))) (fail)
  all_goals
    go_wp2
    refine bodyPost_ret (v := .tuple #[.agg #[.int .i64 0, .int .i64 0, .slice none 0 0], .iface tE vE]) ?_ rfl ⟨rfl, ?_⟩
    · rw [results_ct (p := 6) (ty := 26) (u := 7) (by kernel_rfl)]
      go_simp
    · rw [← unhide HBE]
      exact (((((unhide HB).setCell (p := ⟨B + 3, 0, none⟩) (by show B ≤ B + 3; omega) _).setCell (p := ⟨B + 3, 1, none⟩) (by show B ≤ B + 3; omega) _).setCell (p := ⟨B + 3, 2, none⟩) (by show B ≤ B + 3; omega) _)).drew

set_option maxHeartbeats 4000000 in
set_option maxRecDepth 100000 in
theorem fill_less2 (W H : Nat) (a : Option Addr) (n c : Nat) (X Y RW RH : Int) (q : Px)  (w : World) (tE : TypeId) (vE : Value) (hE : w.cell? ⟨0, 0, none⟩ = some (.iface tE vE)) (hW0 : 1 ≤ W) (hW : W ≤ 256) (hH0 : 1 ≤ H) (hH : H ≤ 256) (hn : n = W * H) (hb : Nr X ∧ Nr Y ∧ Nr RW ∧ Nr RH) (h0 : ¬ RW < 0) (h1 : RH < 0) :
    Calls Tryd.prog 20 #[.agg #[.int .i64 (W : Int), .int .i64 (H : Int), .slice a n c], .agg #[.int .i64 X, .int .i64 Y, .int .i64 RW, .int .i64 RH], q.val] w fun e w' => e = .returned (.tuple #[.agg #[.int .i64 0, .int .i64 0, .slice none 0 0], .iface tE vE]) ∧ Below w.heap.size w w' := by
  have HA := hide (al4 w (.cells #[.int .i64 (W : Int), .int .i64 (H : Int), .slice a n c] 26) (.cells #[.int .i64 X, .int .i64 Y, .int .i64 RW, .int .i64 RH] 43) (.cells #[.int .u8 (q.r.toNat : Int), .int .u8 (q.g.toNat : Int), .int .u8 (q.b.toNat : Int), .int .u8 (q.a.toNat : Int)] 23) (.cells #[.int .i64 0, .int .i64 0, .slice none 0 0] 26))
  have HR := hide (fun w => isRight_any W H a n c w)
  rw [decide_eq_true (rightN hW0 hW hH0 hH hn)] at HR
  clear hn
  have HS := hide (fun w => near4_any X Y RW RH w)
  rw [decide_eq_true hb] at HS
  have d0 : decide (RW < 0) = false := decide_eq_false h0
  have d1 : decide (RH < 0) = true := decide_eq_true h1
  clear hb h0 h1
  have hg := World.block_lt_of_cell? _ _ hE
  simp only at hg
  obtain ⟨B, hB⟩ : ∃ B, B = w.heap.size := ⟨_, rfl⟩
  unfold Px.val
  go_enter Tryd.func20, Tryd.ntmps20
  go_wp2_with fail
  refine (unhide HR _).mono ?_
  generalize ((((w.alloc (.cells #[.int .i64 (W : Int), .int .i64 (H : Int), .slice a n c] 26)).alloc (.cells #[.int .i64 X, .int .i64 Y, .int .i64 RW, .int .i64 RH] 43)).alloc (.cells #[.int .u8 (q.r.toNat : Int), .int .u8 (q.g.toNat : Int), .int .u8 (q.b.toNat : Int), .int .u8 (q.a.toNat : Int)] 23)).alloc (.cells #[.int .i64 0, .int .i64 0, .slice none 0 0] 26)) = w1 at *
  rw [← hB] at HA hg ⊢
  obtain ⟨hs1, k0, k1, k2, k3, hb1⟩ := unhide HA
  have HBE := hide hB
  clear HA hB
  have hs : B + 4 ≤ w1.heap.size := by omega
  have HB := hide hb1
  clear hs1 hb1
  rintro e w2 ⟨rfl, hbN⟩
  have hsz := hbN.size
  have k0 := blk_below k0 hbN (by omega)
  have k1 := blk_below k1 hbN (by omega)
  have k2 := blk_below k2 hbN (by omega)
  have k3 := blk_below k3 hbN (by omega)
  have HB := hide ((unhide HB).trans (hbN.mono (by omega)))
  have hs : B + 4 ≤ w2.heap.size := by omega
  clear hbN hsz
  have c00 : w2.cell? ⟨B, 0, none⟩ = some (.int .i64 (W : Int)) := blk_cell k0 0
  have c01 : w2.cell? ⟨B, 1, none⟩ = some (.int .i64 (H : Int)) := blk_cell k0 1
  have c02 : w2.cell? ⟨B, 2, none⟩ = some (.slice a n c) := blk_cell k0 2
  have c10 : w2.cell? ⟨B + 1, 0, none⟩ = some (.int .i64 X) := blk_cell k1 0
  have c11 : w2.cell? ⟨B + 1, 1, none⟩ = some (.int .i64 Y) := blk_cell k1 1
  have c12 : w2.cell? ⟨B + 1, 2, none⟩ = some (.int .i64 RW) := blk_cell k1 2
  have c13 : w2.cell? ⟨B + 1, 3, none⟩ = some (.int .i64 RH) := blk_cell k1 3
  have c20 : w2.cell? ⟨B + 2, 0, none⟩ = some (.int .u8 (q.r.toNat : Int)) := blk_cell k2 0
  have c21 : w2.cell? ⟨B + 2, 1, none⟩ = some (.int .u8 (q.g.toNat : Int)) := blk_cell k2 1
  have c22 : w2.cell? ⟨B + 2, 2, none⟩ = some (.int .u8 (q.b.toNat : Int)) := blk_cell k2 2
  have c23 : w2.cell? ⟨B + 2, 3, none⟩ = some (.int .u8 (q.a.toNat : Int)) := blk_cell k2 3
  have c30 : w2.cell? ⟨B + 3, 0, none⟩ = some (.int .i64 0) := blk_cell k3 0
  have f0 := blk_frozen k3 0
  have c31 : w2.cell? ⟨B + 3, 1, none⟩ = some (.int .i64 0) := blk_cell k3 1
  have f1 := blk_frozen k3 1
  have c32 : w2.cell? ⟨B + 3, 2, none⟩ = some (.slice none 0 0) := blk_cell k3 2
  have f2 := blk_frozen k3 2
  go_wp2_with fail
  refine (unhide HS _).mono ?_
  have hbA : Below w2.heap.size w2 (w2.alloc (.cells #[.int .i64 X, .int .i64 Y, .int .i64 RW, .int .i64 RH] 3)) := (Below.refl _ _).alloc (Nat.le_refl _) _
  generalize w2.alloc (.cells #[.int .i64 X, .int .i64 Y, .int .i64 RW, .int .i64 RH] 3) = w3 at *
  clear c00 c01 c02 c10 c11 c12 c13 c20 c21 c22 c23 c30 c31 c32 f0 f1 f2
  have hsz := hbA.size
  have k0 := blk_below k0 hbA (by omega)
  have k1 := blk_below k1 hbA (by omega)
  have k2 := blk_below k2 hbA (by omega)
  have k3 := blk_below k3 hbA (by omega)
  have HB := hide ((unhide HB).trans (hbA.mono (by omega)))
  have hs : B + 4 ≤ w3.heap.size := by omega
  clear hbA hsz
  rintro e w3 ⟨rfl, rfl⟩
  have c00 : w3.cell? ⟨B, 0, none⟩ = some (.int .i64 (W : Int)) := blk_cell k0 0
  have c01 : w3.cell? ⟨B, 1, none⟩ = some (.int .i64 (H : Int)) := blk_cell k0 1
  have c02 : w3.cell? ⟨B, 2, none⟩ = some (.slice a n c) := blk_cell k0 2
  have c10 : w3.cell? ⟨B + 1, 0, none⟩ = some (.int .i64 X) := blk_cell k1 0
  have c11 : w3.cell? ⟨B + 1, 1, none⟩ = some (.int .i64 Y) := blk_cell k1 1
  have c12 : w3.cell? ⟨B + 1, 2, none⟩ = some (.int .i64 RW) := blk_cell k1 2
  have c13 : w3.cell? ⟨B + 1, 3, none⟩ = some (.int .i64 RH) := blk_cell k1 3
  have c20 : w3.cell? ⟨B + 2, 0, none⟩ = some (.int .u8 (q.r.toNat : Int)) := blk_cell k2 0
  have c21 : w3.cell? ⟨B + 2, 1, none⟩ = some (.int .u8 (q.g.toNat : Int)) := blk_cell k2 1
  have c22 : w3.cell? ⟨B + 2, 2, none⟩ = some (.int .u8 (q.b.toNat : Int)) := blk_cell k2 2
  have c23 : w3.cell? ⟨B + 2, 3, none⟩ = some (.int .u8 (q.a.toNat : Int)) := blk_cell k2 3
  have c30 : w3.cell? ⟨B + 3, 0, none⟩ = some (.int .i64 0) := blk_cell k3 0
  have f0 := blk_frozen k3 0
  have c31 : w3.cell? ⟨B + 3, 1, none⟩ = some (.int .i64 0) := blk_cell k3 1
  have f1 := blk_frozen k3 1
  have c32 : w3.cell? ⟨B + 3, 2, none⟩ = some (.slice none 0 0) := blk_cell k3 2
  have f2 := blk_frozen k3 2
  have hlr : B + 3 < w3.heap.size := by omega
  have hE2 := ((unhide HB).cell (p := ⟨0, 0, none⟩) hg).trans hE
  have xne : B + 3 ≠ 0 := by omega
  clear hE
  clear k0 k1 k2 k3
  go_wp2_with fail
  go_region_held (fun w' => w'.cell? ⟨0, 0, none⟩ = some (.iface tE vE)) (first | (go_keep; done) | (exact (far3 _ _ _ _ _ _ _ (by omega)).trans (by simp [*]))) (fail)
  all_goals
    go_wp2
    refine bodyPost_ret (v := .tuple #[.agg #[.int .i64 0, .int .i64 0, .slice none 0 0], .iface tE vE]) ?_ rfl ⟨rfl, ?_⟩
    · rw [results_ct (p := 6) (ty := 26) (u := 7) (by kernel_rfl)]
      go_simp
    · rw [← unhide HBE]
      exact (((((unhide HB).setCell (p := ⟨B + 3, 0, none⟩) (by show B ≤ B + 3; omega) _).setCell (p := ⟨B + 3, 1, none⟩) (by show B ≤ B + 3; omega) _).setCell (p := ⟨B + 3, 2, none⟩) (by show B ≤ B + 3; omega) _)).drew

set_option maxHeartbeats 4000000 in
set_option maxRecDepth 100000 in
theorem crop_bound (W H : Nat) (a : Option Addr) (n c : Nat) (X Y RW RH : Int)  (w : World) (tE : TypeId) (vE : Value) (hE : w.cell? ⟨0, 0, none⟩ = some (.iface tE vE)) (hW0 : 1 ≤ W) (hW : W ≤ 256) (hH0 : 1 ≤ H) (hH : H ≤ 256) (hn : n = W * H) (hb : ¬ ((0 ≤ X ∧ X < (W : Int) ∧ 0 ≤ Y ∧ Y < (H : Int)) ∧ 1 ≤ RW ∧ 1 ≤ RH ∧ RW ≤ (W : Int) - X ∧ RH ≤ (H : Int) - Y)) :
    Calls Tryd.prog 21 #[.agg #[.int .i64 (W : Int), .int .i64 (H : Int), .slice a n c], .agg #[.int .i64 X, .int .i64 Y, .int .i64 RW, .int .i64 RH]] w fun e w' => e = .returned (.tuple #[.agg #[.int .i64 0, .int .i64 0, .slice none 0 0], .iface tE vE]) ∧ Below w.heap.size w w' := by
  have HA := hide (al3 w (.cells #[.int .i64 (W : Int), .int .i64 (H : Int), .slice a n c] 26) (.cells #[.int .i64 X, .int .i64 Y, .int .i64 RW, .int .i64 RH] 43) (.cells #[.int .i64 0, .int .i64 0, .slice none 0 0] 26))
  have HR := hide (fun w => isRight_any W H a n c w)
  rw [decide_eq_true (rightN hW0 hW hH0 hH hn)] at HR
  clear hn
  have HS := hide (fun w => isWithin_any X Y RW RH W H a n c w hW hH)
  rw [decide_eq_false hb] at HS
  clear hb
  have hg := World.block_lt_of_cell? _ _ hE
  simp only at hg
  obtain ⟨B, hB⟩ : ∃ B, B = w.heap.size := ⟨_, rfl⟩
  go_enter Tryd.func21, Tryd.ntmps21
  go_wp2_with fail
  refine (unhide HR _).mono ?_
  generalize (((w.alloc (.cells #[.int .i64 (W : Int), .int .i64 (H : Int), .slice a n c] 26)).alloc (.cells #[.int .i64 X, .int .i64 Y, .int .i64 RW, .int .i64 RH] 43)).alloc (.cells #[.int .i64 0, .int .i64 0, .slice none 0 0] 26)) = w1 at *
  rw [← hB] at HA hg ⊢
  obtain ⟨hs1, k0, k1, k2, hb1⟩ := unhide HA
  have HBE := hide hB
  clear HA hB
  have hs : B + 3 ≤ w1.heap.size := by omega
  have HB := hide hb1
  clear hs1 hb1
  rintro e w2 ⟨rfl, hbN⟩
  have hsz := hbN.size
  have k0 := blk_below k0 hbN (by omega)
  have k1 := blk_below k1 hbN (by omega)
  have k2 := blk_below k2 hbN (by omega)
  have HB := hide ((unhide HB).trans (hbN.mono (by omega)))
  have hs : B + 3 ≤ w2.heap.size := by omega
  clear hbN hsz
  have c00 : w2.cell? ⟨B, 0, none⟩ = some (.int .i64 (W : Int)) := blk_cell k0 0
  have c01 : w2.cell? ⟨B, 1, none⟩ = some (.int .i64 (H : Int)) := blk_cell k0 1
  have c02 : w2.cell? ⟨B, 2, none⟩ = some (.slice a n c) := blk_cell k0 2
  have c10 : w2.cell? ⟨B + 1, 0, none⟩ = some (.int .i64 X) := blk_cell k1 0
  have c11 : w2.cell? ⟨B + 1, 1, none⟩ = some (.int .i64 Y) := blk_cell k1 1
  have c12 : w2.cell? ⟨B + 1, 2, none⟩ = some (.int .i64 RW) := blk_cell k1 2
  have c13 : w2.cell? ⟨B + 1, 3, none⟩ = some (.int .i64 RH) := blk_cell k1 3
  have c20 : w2.cell? ⟨B + 2, 0, none⟩ = some (.int .i64 0) := blk_cell k2 0
  have f0 := blk_frozen k2 0
  have c21 : w2.cell? ⟨B + 2, 1, none⟩ = some (.int .i64 0) := blk_cell k2 1
  have f1 := blk_frozen k2 1
  have c22 : w2.cell? ⟨B + 2, 2, none⟩ = some (.slice none 0 0) := blk_cell k2 2
  have f2 := blk_frozen k2 2
  go_wp2_with fail
  refine (unhide HS _).mono ?_
  clear c00 c01 c02 c10 c11 c12 c13 c20 c21 c22 f0 f1 f2
  rintro e w3 ⟨rfl, hbN⟩
  have hsz := hbN.size
  have k0 := blk_below k0 hbN (by omega)
  have k1 := blk_below k1 hbN (by omega)
  have k2 := blk_below k2 hbN (by omega)
  have HB := hide ((unhide HB).trans (hbN.mono (by omega)))
  have hs : B + 3 ≤ w3.heap.size := by omega
  clear hbN hsz
  have c00 : w3.cell? ⟨B, 0, none⟩ = some (.int .i64 (W : Int)) := blk_cell k0 0
  have c01 : w3.cell? ⟨B, 1, none⟩ = some (.int .i64 (H : Int)) := blk_cell k0 1
  have c02 : w3.cell? ⟨B, 2, none⟩ = some (.slice a n c) := blk_cell k0 2
  have c10 : w3.cell? ⟨B + 1, 0, none⟩ = some (.int .i64 X) := blk_cell k1 0
  have c11 : w3.cell? ⟨B + 1, 1, none⟩ = some (.int .i64 Y) := blk_cell k1 1
  have c12 : w3.cell? ⟨B + 1, 2, none⟩ = some (.int .i64 RW) := blk_cell k1 2
  have c13 : w3.cell? ⟨B + 1, 3, none⟩ = some (.int .i64 RH) := blk_cell k1 3
  have c20 : w3.cell? ⟨B + 2, 0, none⟩ = some (.int .i64 0) := blk_cell k2 0
  have f0 := blk_frozen k2 0
  have c21 : w3.cell? ⟨B + 2, 1, none⟩ = some (.int .i64 0) := blk_cell k2 1
  have f1 := blk_frozen k2 1
  have c22 : w3.cell? ⟨B + 2, 2, none⟩ = some (.slice none 0 0) := blk_cell k2 2
  have f2 := blk_frozen k2 2
  have hlr : B + 2 < w3.heap.size := by omega
  have hE2 := ((unhide HB).cell (p := ⟨0, 0, none⟩) hg).trans hE
  have xne : B + 2 ≠ 0 := by omega
  clear hE
  clear k0 k1 k2
  go_wp2_with fail
  go_region_held (fun w' => w'.cell? ⟨0, 0, none⟩ = some (.iface tE vE)) (first | (go_keep; done) | (exact (far3 _ _ _ _ _ _ _ (by omega)).trans (by simp [*]))) (fail)
  all_goals
    go_wp2
    refine bodyPost_ret (v := .tuple #[.agg #[.int .i64 0, .int .i64 0, .slice none 0 0], .iface tE vE]) ?_ rfl ⟨rfl, ?_⟩
    · rw [results_ct (p := 4) (ty := 26) (u := 5) (by kernel_rfl)]
      go_simp
    · rw [← unhide HBE]
      exact (((((unhide HB).setCell (p := ⟨B + 2, 0, none⟩) (by show B ≤ B + 2; omega) _).setCell (p := ⟨B + 2, 1, none⟩) (by show B ≤ B + 2; omega) _).setCell (p := ⟨B + 2, 2, none⟩) (by show B ≤ B + 2; omega) _)).drew

set_option maxHeartbeats 4000000 in
set_option maxRecDepth 100000 in
theorem scale_bound (W H : Nat) (a : Option Addr) (n c : Nat) (u : Int) (v : Int)  (w : World) (tE : TypeId) (vE : Value) (hE : w.cell? ⟨0, 0, none⟩ = some (.iface tE vE)) (hW0 : 1 ≤ W) (hW : W ≤ 256) (hH0 : 1 ≤ H) (hH : H ≤ 256) (hn : n = W * H) (hb : ¬ ((1 ≤ u ∧ u ≤ 256) ∧ (1 ≤ v ∧ v ≤ 256))) :
    Calls Tryd.prog 32 #[.agg #[.int .i64 (W : Int), .int .i64 (H : Int), .slice a n c], .int .i64 u, .int .i64 v] w fun e w' => e = .returned (.tuple #[.agg #[.int .i64 0, .int .i64 0, .slice none 0 0], .iface tE vE]) ∧ Below w.heap.size w w' := by
  have HA := hide (al4 w (.cells #[.int .i64 (W : Int), .int .i64 (H : Int), .slice a n c] 26) (.cells #[.int .i64 u] 3) (.cells #[.int .i64 v] 3) (.cells #[.int .i64 0, .int .i64 0, .slice none 0 0] 26))
  have HR := hide (fun w => isRight_any W H a n c w)
  rw [decide_eq_true (rightN hW0 hW hH0 hH hn)] at HR
  clear hn
  have HS := hide (fun w => areSides_any u v w)
  rw [decide_eq_false hb] at HS
  clear hb
  have hg := World.block_lt_of_cell? _ _ hE
  simp only at hg
  obtain ⟨B, hB⟩ : ∃ B, B = w.heap.size := ⟨_, rfl⟩
  go_enter Tryd.func32, Tryd.ntmps32
  go_wp2_with fail
  refine (unhide HR _).mono ?_
  generalize ((((w.alloc (.cells #[.int .i64 (W : Int), .int .i64 (H : Int), .slice a n c] 26)).alloc (.cells #[.int .i64 u] 3)).alloc (.cells #[.int .i64 v] 3)).alloc (.cells #[.int .i64 0, .int .i64 0, .slice none 0 0] 26)) = w1 at *
  rw [← hB] at HA hg ⊢
  obtain ⟨hs1, k0, k1, k2, k3, hb1⟩ := unhide HA
  have HBE := hide hB
  clear HA hB
  have hs : B + 4 ≤ w1.heap.size := by omega
  have HB := hide hb1
  clear hs1 hb1
  rintro e w2 ⟨rfl, hbN⟩
  have hsz := hbN.size
  have k0 := blk_below k0 hbN (by omega)
  have k1 := blk_below k1 hbN (by omega)
  have k2 := blk_below k2 hbN (by omega)
  have k3 := blk_below k3 hbN (by omega)
  have HB := hide ((unhide HB).trans (hbN.mono (by omega)))
  have hs : B + 4 ≤ w2.heap.size := by omega
  clear hbN hsz
  have c00 : w2.cell? ⟨B, 0, none⟩ = some (.int .i64 (W : Int)) := blk_cell k0 0
  have c01 : w2.cell? ⟨B, 1, none⟩ = some (.int .i64 (H : Int)) := blk_cell k0 1
  have c02 : w2.cell? ⟨B, 2, none⟩ = some (.slice a n c) := blk_cell k0 2
  have c10 : w2.cell? ⟨B + 1, 0, none⟩ = some (.int .i64 u) := blk_cell k1 0
  have c20 : w2.cell? ⟨B + 2, 0, none⟩ = some (.int .i64 v) := blk_cell k2 0
  have c30 : w2.cell? ⟨B + 3, 0, none⟩ = some (.int .i64 0) := blk_cell k3 0
  have f0 := blk_frozen k3 0
  have c31 : w2.cell? ⟨B + 3, 1, none⟩ = some (.int .i64 0) := blk_cell k3 1
  have f1 := blk_frozen k3 1
  have c32 : w2.cell? ⟨B + 3, 2, none⟩ = some (.slice none 0 0) := blk_cell k3 2
  have f2 := blk_frozen k3 2
  go_wp2_with fail
  refine (unhide HS _).mono ?_
  rintro e w2 ⟨rfl, rfl⟩
  have hlr : B + 3 < w2.heap.size := by omega
  have hE2 := ((unhide HB).cell (p := ⟨0, 0, none⟩) hg).trans hE
  have xne : B + 3 ≠ 0 := by omega
  clear hE
  clear k0 k1 k2 k3
  go_wp2_with fail
  go_region_held (fun w' => w'.cell? ⟨0, 0, none⟩ = some (.iface tE vE)) (first | (go_keep; done) | (exact (far3 _ _ _ _ _ _ _ (by omega)).trans (by simp [*]))) (fail)
  all_goals
    go_wp2
    refine bodyPost_ret (v := .tuple #[.agg #[.int .i64 0, .int .i64 0, .slice none 0 0], .iface tE vE]) ?_ rfl ⟨rfl, ?_⟩
    · rw [results_ct (p := 6) (ty := 26) (u := 7) (by kernel_rfl)]
      go_simp
    · rw [← unhide HBE]
      exact (((((unhide HB).setCell (p := ⟨B + 3, 0, none⟩) (by show B ≤ B + 3; omega) _).setCell (p := ⟨B + 3, 1, none⟩) (by show B ≤ B + 3; omega) _).setCell (p := ⟨B + 3, 2, none⟩) (by show B ≤ B + 3; omega) _)).drew

set_option maxHeartbeats 4000000 in
set_option maxRecDepth 100000 in
theorem line_bound (W H : Nat) (a : Option Addr) (n c : Nat) (x0 : Int) (y0 : Int) (x1 : Int) (y1 : Int) (q : Px)  (w : World) (tE : TypeId) (vE : Value) (hE : w.cell? ⟨0, 0, none⟩ = some (.iface tE vE)) (hW0 : 1 ≤ W) (hW : W ≤ 256) (hH0 : 1 ≤ H) (hH : H ≤ 256) (hn : n = W * H) (hb : ¬ (Nr x0 ∧ Nr y0 ∧ Nr x1 ∧ Nr y1)) :
    Calls Tryd.prog 38 #[.agg #[.int .i64 (W : Int), .int .i64 (H : Int), .slice a n c], .int .i64 x0, .int .i64 y0, .int .i64 x1, .int .i64 y1, q.val] w fun e w' => e = .returned (.tuple #[.agg #[.int .i64 0, .int .i64 0, .slice none 0 0], .iface tE vE]) ∧ Below w.heap.size w w' := by
  have HA := hide (al3 w (.cells #[.int .i64 (W : Int), .int .i64 (H : Int), .slice a n c] 26) (.cells #[.int .u8 (q.r.toNat : Int), .int .u8 (q.g.toNat : Int), .int .u8 (q.b.toNat : Int), .int .u8 (q.a.toNat : Int)] 23) (.cells #[.int .i64 0, .int .i64 0, .slice none 0 0] 26))
  have HR := hide (fun w => isRight_any W H a n c w)
  rw [decide_eq_true (rightN hW0 hW hH0 hH hn)] at HR
  clear hn
  have HS := hide (fun w => near4_any x0 y0 x1 y1 w)
  rw [decide_eq_false hb] at HS
  clear hb
  have hg := World.block_lt_of_cell? _ _ hE
  simp only at hg
  obtain ⟨B, hB⟩ : ∃ B, B = w.heap.size := ⟨_, rfl⟩
  unfold Px.val
  go_enter Tryd.func38, Tryd.ntmps38
  go_wp2_with fail
  refine (unhide HR _).mono ?_
  generalize (((w.alloc (.cells #[.int .i64 (W : Int), .int .i64 (H : Int), .slice a n c] 26)).alloc (.cells #[.int .u8 (q.r.toNat : Int), .int .u8 (q.g.toNat : Int), .int .u8 (q.b.toNat : Int), .int .u8 (q.a.toNat : Int)] 23)).alloc (.cells #[.int .i64 0, .int .i64 0, .slice none 0 0] 26)) = w1 at *
  rw [← hB] at HA hg ⊢
  obtain ⟨hs1, k0, k1, k2, hb1⟩ := unhide HA
  have HBE := hide hB
  clear HA hB
  have hs : B + 3 ≤ w1.heap.size := by omega
  have HB := hide hb1
  clear hs1 hb1
  rintro e w2 ⟨rfl, hbN⟩
  have hsz := hbN.size
  have k0 := blk_below k0 hbN (by omega)
  have k1 := blk_below k1 hbN (by omega)
  have k2 := blk_below k2 hbN (by omega)
  have HB := hide ((unhide HB).trans (hbN.mono (by omega)))
  have hs : B + 3 ≤ w2.heap.size := by omega
  clear hbN hsz
  have c00 : w2.cell? ⟨B, 0, none⟩ = some (.int .i64 (W : Int)) := blk_cell k0 0
  have c01 : w2.cell? ⟨B, 1, none⟩ = some (.int .i64 (H : Int)) := blk_cell k0 1
  have c02 : w2.cell? ⟨B, 2, none⟩ = some (.slice a n c) := blk_cell k0 2
  have c10 : w2.cell? ⟨B + 1, 0, none⟩ = some (.int .u8 (q.r.toNat : Int)) := blk_cell k1 0
  have c11 : w2.cell? ⟨B + 1, 1, none⟩ = some (.int .u8 (q.g.toNat : Int)) := blk_cell k1 1
  have c12 : w2.cell? ⟨B + 1, 2, none⟩ = some (.int .u8 (q.b.toNat : Int)) := blk_cell k1 2
  have c13 : w2.cell? ⟨B + 1, 3, none⟩ = some (.int .u8 (q.a.toNat : Int)) := blk_cell k1 3
  have c20 : w2.cell? ⟨B + 2, 0, none⟩ = some (.int .i64 0) := blk_cell k2 0
  have f0 := blk_frozen k2 0
  have c21 : w2.cell? ⟨B + 2, 1, none⟩ = some (.int .i64 0) := blk_cell k2 1
  have f1 := blk_frozen k2 1
  have c22 : w2.cell? ⟨B + 2, 2, none⟩ = some (.slice none 0 0) := blk_cell k2 2
  have f2 := blk_frozen k2 2
  go_wp2_with fail
  refine (unhide HS _).mono ?_
  have hbA : Below w2.heap.size w2 (w2.alloc (.cells #[.int .i64 x0, .int .i64 y0, .int .i64 x1, .int .i64 y1] 3)) := (Below.refl _ _).alloc (Nat.le_refl _) _
  generalize w2.alloc (.cells #[.int .i64 x0, .int .i64 y0, .int .i64 x1, .int .i64 y1] 3) = w3 at *
  clear c00 c01 c02 c10 c11 c12 c13 c20 c21 c22 f0 f1 f2
  have hsz := hbA.size
  have k0 := blk_below k0 hbA (by omega)
  have k1 := blk_below k1 hbA (by omega)
  have k2 := blk_below k2 hbA (by omega)
  have HB := hide ((unhide HB).trans (hbA.mono (by omega)))
  have hs : B + 3 ≤ w3.heap.size := by omega
  clear hbA hsz
  rintro e w3 ⟨rfl, rfl⟩
  have c00 : w3.cell? ⟨B, 0, none⟩ = some (.int .i64 (W : Int)) := blk_cell k0 0
  have c01 : w3.cell? ⟨B, 1, none⟩ = some (.int .i64 (H : Int)) := blk_cell k0 1
  have c02 : w3.cell? ⟨B, 2, none⟩ = some (.slice a n c) := blk_cell k0 2
  have c10 : w3.cell? ⟨B + 1, 0, none⟩ = some (.int .u8 (q.r.toNat : Int)) := blk_cell k1 0
  have c11 : w3.cell? ⟨B + 1, 1, none⟩ = some (.int .u8 (q.g.toNat : Int)) := blk_cell k1 1
  have c12 : w3.cell? ⟨B + 1, 2, none⟩ = some (.int .u8 (q.b.toNat : Int)) := blk_cell k1 2
  have c13 : w3.cell? ⟨B + 1, 3, none⟩ = some (.int .u8 (q.a.toNat : Int)) := blk_cell k1 3
  have c20 : w3.cell? ⟨B + 2, 0, none⟩ = some (.int .i64 0) := blk_cell k2 0
  have f0 := blk_frozen k2 0
  have c21 : w3.cell? ⟨B + 2, 1, none⟩ = some (.int .i64 0) := blk_cell k2 1
  have f1 := blk_frozen k2 1
  have c22 : w3.cell? ⟨B + 2, 2, none⟩ = some (.slice none 0 0) := blk_cell k2 2
  have f2 := blk_frozen k2 2
  have hlr : B + 2 < w3.heap.size := by omega
  have hE2 := ((unhide HB).cell (p := ⟨0, 0, none⟩) hg).trans hE
  have xne : B + 2 ≠ 0 := by omega
  clear hE
  clear k0 k1 k2
  go_wp2_with fail
  go_region_held (fun w' => w'.cell? ⟨0, 0, none⟩ = some (.iface tE vE)) (first | (go_keep; done) | (exact (far3 _ _ _ _ _ _ _ (by omega)).trans (by simp [*]))) (fail)
  all_goals
    go_wp2
    refine bodyPost_ret (v := .tuple #[.agg #[.int .i64 0, .int .i64 0, .slice none 0 0], .iface tE vE]) ?_ rfl ⟨rfl, ?_⟩
    · rw [results_ct (p := 12) (ty := 26) (u := 13) (by kernel_rfl)]
      go_simp
    · rw [← unhide HBE]
      exact (((((unhide HB).setCell (p := ⟨B + 2, 0, none⟩) (by show B ≤ B + 2; omega) _).setCell (p := ⟨B + 2, 1, none⟩) (by show B ≤ B + 2; omega) _).setCell (p := ⟨B + 2, 2, none⟩) (by show B ≤ B + 2; omega) _)).drew


end Go.Proofs.YtjhnneplknhmkahDoor
