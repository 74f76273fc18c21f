/- A picture stamped on another one: what the program refuses by shapes and places. Written by genst3.py. -/
import Derived.Test.YtjhnneplknhmkahDoorRt6
namespace Go.Proofs.YtjhnneplknhmkahDoor
open Go.RowKit

set_option maxHeartbeats 4000000 in
set_option maxRecDepth 100000 in
theorem stamp_shape1 (W H : Int) (a : Option Addr) (n c : Nat)  (QW QH : Int) (b : Option Addr) (m d : Nat) (X : Int) (Y : Int) (mo : Int)  (w : World) (tE : TypeId) (vE : Value) (hE : w.cell? ⟨1, 0, none⟩ = some (.iface tE vE)) (hR : ¬ RightP W H n) :
    Calls Tryd.prog 26 #[.agg #[.int .i64 W, .int .i64 H, .slice a n c], .agg #[.int .i64 QW, .int .i64 QH, .slice b m d], .int .i64 X, .int .i64 Y, .int .i64 mo] w fun e w' => e = .returned (.tuple #[.agg #[.int .i64 0, .int .i64 0, .slice none 0 0], .iface tE vE]) ∧ Below w.heap.size w w' := by
  have HA := hide (al6 w (.cells #[.int .i64 W, .int .i64 H, .slice a n c] 26) (.cells #[.int .i64 QW, .int .i64 QH, .slice b m d] 26) (.cells #[.int .i64 X] 3) (.cells #[.int .i64 Y] 3) (.cells #[.int .i64 mo] 3) (.cells #[.int .i64 0, .int .i64 0, .slice none 0 0] 26))
  have HR := hide (fun w => isRight_any W H a n c w)
  rw [decide_eq_false hR] at HR
  clear hR
  have hg := World.block_lt_of_cell? _ _ hE
  simp only at hg
  obtain ⟨B, hB⟩ : ∃ B, B = w.heap.size := ⟨_, rfl⟩
  go_enter Tryd.func26, Tryd.ntmps26
  go_wp2_with fail
  refine (unhide HR _).mono ?_
  generalize ((((((w.alloc (.cells #[.int .i64 W, .int .i64 H, .slice a n c] 26)).alloc (.cells #[.int .i64 QW, .int .i64 QH, .slice b m d] 26)).alloc (.cells #[.int .i64 X] 3)).alloc (.cells #[.int .i64 Y] 3)).alloc (.cells #[.int .i64 mo] 3)).alloc (.cells #[.int .i64 0, .int .i64 0, .slice none 0 0] 26)) = w1 at *
  rw [← hB] at HA hg ⊢
  obtain ⟨hs1, k0, k1, k2, k3, k4, k5, hb1⟩ := unhide HA
  have HBE := hide hB
  clear HA hB
  have hs : B + 6 ≤ w1.heap.size := by omega
  have HB := hide hb1
  clear hs1 hb1
  rintro e w2 ⟨rfl, hbN⟩
  have hsz := hbN.size
  have k0 := blk_below k0 hbN (by omega)
  have k1 := blk_below k1 hbN (by omega)
  have k2 := blk_below k2 hbN (by omega)
  have k3 := blk_below k3 hbN (by omega)
  have k4 := blk_below k4 hbN (by omega)
  have k5 := blk_below k5 hbN (by omega)
  have HB := hide ((unhide HB).trans (hbN.mono (by omega)))
  have hs : B + 6 ≤ w2.heap.size := by omega
  clear hbN hsz
  have c00 : w2.cell? ⟨B, 0, none⟩ = some (.int .i64 W) := blk_cell k0 0
  have c01 : w2.cell? ⟨B, 1, none⟩ = some (.int .i64 H) := blk_cell k0 1
  have c02 : w2.cell? ⟨B, 2, none⟩ = some (.slice a n c) := blk_cell k0 2
  have c10 : w2.cell? ⟨B + 1, 0, none⟩ = some (.int .i64 QW) := blk_cell k1 0
  have c11 : w2.cell? ⟨B + 1, 1, none⟩ = some (.int .i64 QH) := blk_cell k1 1
  have c12 : w2.cell? ⟨B + 1, 2, none⟩ = some (.slice b m d) := blk_cell k1 2
  have c20 : w2.cell? ⟨B + 2, 0, none⟩ = some (.int .i64 X) := blk_cell k2 0
  have c30 : w2.cell? ⟨B + 3, 0, none⟩ = some (.int .i64 Y) := blk_cell k3 0
  have c40 : w2.cell? ⟨B + 4, 0, none⟩ = some (.int .i64 mo) := blk_cell k4 0
  have c50 : w2.cell? ⟨B + 5, 0, none⟩ = some (.int .i64 0) := blk_cell k5 0
  have f0 := blk_frozen k5 0
  have c51 : w2.cell? ⟨B + 5, 1, none⟩ = some (.int .i64 0) := blk_cell k5 1
  have f1 := blk_frozen k5 1
  have c52 : w2.cell? ⟨B + 5, 2, none⟩ = some (.slice none 0 0) := blk_cell k5 2
  have f2 := blk_frozen k5 2
  have hlr : B + 5 < w2.heap.size := by omega
  have hE2 := ((unhide HB).cell (p := ⟨1, 0, none⟩) hg).trans hE
  have xne : B + 5 ≠ 1 := by omega
  clear hE
  clear k0 k1 k2 k3 k4 k5
  go_wp2_with fail
  go_region_held (fun w' => w'.cell? ⟨1, 0, none⟩ = some (.iface tE vE)) (first | (go_keep; done) | (exact (far3 _ _ _ _ _ _ _ (by omega)).trans (by simp [*]))) (fail)
  all_goals
    go_wp2
    refine bodyPost_ret (v := .tuple #[.agg #[.int .i64 0, .int .i64 0, .slice none 0 0], .iface tE vE]) ?_ rfl ⟨rfl, ?_⟩
    · rw [results_ct (p := 10) (ty := 26) (u := 11) (by kernel_rfl)]
      go_simp
    · rw [← unhide HBE]
      exact (((((unhide HB).setCell (p := ⟨B + 5, 0, none⟩) (by show B ≤ B + 5; omega) _).setCell (p := ⟨B + 5, 1, none⟩) (by show B ≤ B + 5; omega) _).setCell (p := ⟨B + 5, 2, none⟩) (by show B ≤ B + 5; omega) _)).drew

set_option maxHeartbeats 4000000 in
set_option maxRecDepth 100000 in
theorem stamp_shape2 (W H : Nat) (a : Option Addr) (n c : Nat)  (QW QH : Int) (b : Option Addr) (m d : Nat) (X : Int) (Y : Int) (mo : Int)  (w : World) (tE : TypeId) (vE : Value) (hE : w.cell? ⟨1, 0, none⟩ = some (.iface tE vE)) (hW0 : 1 ≤ W) (hW : W ≤ 256) (hH0 : 1 ≤ H) (hH : H ≤ 256) (hn : n = W * H) (hR : ¬ RightP QW QH m) :
    Calls Tryd.prog 26 #[.agg #[.int .i64 (W : Int), .int .i64 (H : Int), .slice a n c], .agg #[.int .i64 QW, .int .i64 QH, .slice b m d], .int .i64 X, .int .i64 Y, .int .i64 mo] w fun e w' => e = .returned (.tuple #[.agg #[.int .i64 0, .int .i64 0, .slice none 0 0], .iface tE vE]) ∧ Below w.heap.size w w' := by
  have HA := hide (al6 w (.cells #[.int .i64 (W : Int), .int .i64 (H : Int), .slice a n c] 26) (.cells #[.int .i64 QW, .int .i64 QH, .slice b m d] 26) (.cells #[.int .i64 X] 3) (.cells #[.int .i64 Y] 3) (.cells #[.int .i64 mo] 3) (.cells #[.int .i64 0, .int .i64 0, .slice none 0 0] 26))
  have HR := hide (fun w => isRight_any W H a n c w)
  rw [decide_eq_true (rightN hW0 hW hH0 hH hn)] at HR
  clear hn
  have HQ := hide (fun w => isRight_any QW QH b m d w)
  rw [decide_eq_false hR] at HQ
  clear hR
  have hg := World.block_lt_of_cell? _ _ hE
  simp only at hg
  obtain ⟨B, hB⟩ : ∃ B, B = w.heap.size := ⟨_, rfl⟩
  go_enter Tryd.func26, Tryd.ntmps26
  go_wp2_with fail
  refine (unhide HR _).mono ?_
  generalize ((((((w.alloc (.cells #[.int .i64 (W : Int), .int .i64 (H : Int), .slice a n c] 26)).alloc (.cells #[.int .i64 QW, .int .i64 QH, .slice b m d] 26)).alloc (.cells #[.int .i64 X] 3)).alloc (.cells #[.int .i64 Y] 3)).alloc (.cells #[.int .i64 mo] 3)).alloc (.cells #[.int .i64 0, .int .i64 0, .slice none 0 0] 26)) = w1 at *
  rw [← hB] at HA hg ⊢
  obtain ⟨hs1, k0, k1, k2, k3, k4, k5, hb1⟩ := unhide HA
  have HBE := hide hB
  clear HA hB
  have hs : B + 6 ≤ w1.heap.size := by omega
  have HB := hide hb1
  clear hs1 hb1
  rintro e w2 ⟨rfl, hbN⟩
  have hsz := hbN.size
  have k0 := blk_below k0 hbN (by omega)
  have k1 := blk_below k1 hbN (by omega)
  have k2 := blk_below k2 hbN (by omega)
  have k3 := blk_below k3 hbN (by omega)
  have k4 := blk_below k4 hbN (by omega)
  have k5 := blk_below k5 hbN (by omega)
  have HB := hide ((unhide HB).trans (hbN.mono (by omega)))
  have hs : B + 6 ≤ w2.heap.size := by omega
  clear hbN hsz
  have c00 : w2.cell? ⟨B, 0, none⟩ = some (.int .i64 (W : Int)) := blk_cell k0 0
  have c01 : w2.cell? ⟨B, 1, none⟩ = some (.int .i64 (H : Int)) := blk_cell k0 1
  have c02 : w2.cell? ⟨B, 2, none⟩ = some (.slice a n c) := blk_cell k0 2
  have c10 : w2.cell? ⟨B + 1, 0, none⟩ = some (.int .i64 QW) := blk_cell k1 0
  have c11 : w2.cell? ⟨B + 1, 1, none⟩ = some (.int .i64 QH) := blk_cell k1 1
  have c12 : w2.cell? ⟨B + 1, 2, none⟩ = some (.slice b m d) := blk_cell k1 2
  have c20 : w2.cell? ⟨B + 2, 0, none⟩ = some (.int .i64 X) := blk_cell k2 0
  have c30 : w2.cell? ⟨B + 3, 0, none⟩ = some (.int .i64 Y) := blk_cell k3 0
  have c40 : w2.cell? ⟨B + 4, 0, none⟩ = some (.int .i64 mo) := blk_cell k4 0
  have c50 : w2.cell? ⟨B + 5, 0, none⟩ = some (.int .i64 0) := blk_cell k5 0
  have f0 := blk_frozen k5 0
  have c51 : w2.cell? ⟨B + 5, 1, none⟩ = some (.int .i64 0) := blk_cell k5 1
  have f1 := blk_frozen k5 1
  have c52 : w2.cell? ⟨B + 5, 2, none⟩ = some (.slice none 0 0) := blk_cell k5 2
  have f2 := blk_frozen k5 2
  go_wp2_with fail
  refine (unhide HQ _).mono ?_
  clear c00 c01 c02 c10 c11 c12 c20 c30 c40 c50 c51 c52 f0 f1 f2
  rintro e w3 ⟨rfl, hbN⟩
  have hsz := hbN.size
  have k0 := blk_below k0 hbN (by omega)
  have k1 := blk_below k1 hbN (by omega)
  have k2 := blk_below k2 hbN (by omega)
  have k3 := blk_below k3 hbN (by omega)
  have k4 := blk_below k4 hbN (by omega)
  have k5 := blk_below k5 hbN (by omega)
  have HB := hide ((unhide HB).trans (hbN.mono (by omega)))
  have hs : B + 6 ≤ w3.heap.size := by omega
  clear hbN hsz
  have c00 : w3.cell? ⟨B, 0, none⟩ = some (.int .i64 (W : Int)) := blk_cell k0 0
  have c01 : w3.cell? ⟨B, 1, none⟩ = some (.int .i64 (H : Int)) := blk_cell k0 1
  have c02 : w3.cell? ⟨B, 2, none⟩ = some (.slice a n c) := blk_cell k0 2
  have c10 : w3.cell? ⟨B + 1, 0, none⟩ = some (.int .i64 QW) := blk_cell k1 0
  have c11 : w3.cell? ⟨B + 1, 1, none⟩ = some (.int .i64 QH) := blk_cell k1 1
  have c12 : w3.cell? ⟨B + 1, 2, none⟩ = some (.slice b m d) := blk_cell k1 2
  have c20 : w3.cell? ⟨B + 2, 0, none⟩ = some (.int .i64 X) := blk_cell k2 0
  have c30 : w3.cell? ⟨B + 3, 0, none⟩ = some (.int .i64 Y) := blk_cell k3 0
  have c40 : w3.cell? ⟨B + 4, 0, none⟩ = some (.int .i64 mo) := blk_cell k4 0
  have c50 : w3.cell? ⟨B + 5, 0, none⟩ = some (.int .i64 0) := blk_cell k5 0
  have f0 := blk_frozen k5 0
  have c51 : w3.cell? ⟨B + 5, 1, none⟩ = some (.int .i64 0) := blk_cell k5 1
  have f1 := blk_frozen k5 1
  have c52 : w3.cell? ⟨B + 5, 2, none⟩ = some (.slice none 0 0) := blk_cell k5 2
  have f2 := blk_frozen k5 2
  have hlr : B + 5 < w3.heap.size := by omega
  have hE2 := ((unhide HB).cell (p := ⟨1, 0, none⟩) hg).trans hE
  have xne : B + 5 ≠ 1 := by omega
  clear hE
  clear k0 k1 k2 k3 k4 k5
  go_wp2_with fail
  go_region_held (fun w' => w'.cell? ⟨1, 0, none⟩ = some (.iface tE vE)) (first | (go_keep; done) | (exact (far3 _ _ _ _ _ _ _ (by omega)).trans (by simp [*]))) (fail)
  all_goals
    go_wp2
    refine bodyPost_ret (v := .tuple #[.agg #[.int .i64 0, .int .i64 0, .slice none 0 0], .iface tE vE]) ?_ rfl ⟨rfl, ?_⟩
    · rw [results_ct (p := 10) (ty := 26) (u := 11) (by kernel_rfl)]
      go_simp
    · rw [← unhide HBE]
      exact (((((unhide HB).setCell (p := ⟨B + 5, 0, none⟩) (by show B ≤ B + 5; omega) _).setCell (p := ⟨B + 5, 1, none⟩) (by show B ≤ B + 5; omega) _).setCell (p := ⟨B + 5, 2, none⟩) (by show B ≤ B + 5; omega) _)).drew

set_option maxHeartbeats 4000000 in
set_option maxRecDepth 100000 in
theorem stamp_near (W H : Nat) (a : Option Addr) (n c : Nat)  (QW QH : Nat) (b : Option Addr) (m d : Nat) (X : Int) (Y : Int) (mo : Int)  (w : World) (tE : TypeId) (vE : Value) (hE : w.cell? ⟨0, 0, none⟩ = some (.iface tE vE)) (hW0 : 1 ≤ W) (hW : W ≤ 256) (hH0 : 1 ≤ H) (hH : H ≤ 256) (hn : n = W * H) (hQW0 : 1 ≤ QW) (hQW : QW ≤ 256) (hQH0 : 1 ≤ QH) (hQH : QH ≤ 256) (hm : m = QW * QH) (hb : ¬ (Nr X ∧ Nr Y)) :
    Calls Tryd.prog 26 #[.agg #[.int .i64 (W : Int), .int .i64 (H : Int), .slice a n c], .agg #[.int .i64 (QW : Int), .int .i64 (QH : Int), .slice b m d], .int .i64 X, .int .i64 Y, .int .i64 mo] w fun e w' => e = .returned (.tuple #[.agg #[.int .i64 0, .int .i64 0, .slice none 0 0], .iface tE vE]) ∧ Below w.heap.size w w' := by
  have HA := hide (al6 w (.cells #[.int .i64 (W : Int), .int .i64 (H : Int), .slice a n c] 26) (.cells #[.int .i64 (QW : Int), .int .i64 (QH : Int), .slice b m d] 26) (.cells #[.int .i64 X] 3) (.cells #[.int .i64 Y] 3) (.cells #[.int .i64 mo] 3) (.cells #[.int .i64 0, .int .i64 0, .slice none 0 0] 26))
  have HR := hide (fun w => isRight_any W H a n c w)
  rw [decide_eq_true (rightN hW0 hW hH0 hH hn)] at HR
  clear hn
  have HQ := hide (fun w => isRight_any QW QH b m d w)
  rw [decide_eq_true (rightN hQW0 hQW hQH0 hQH hm)] at HQ
  have HS := hide (fun w => near2_any X Y w)
  rw [decide_eq_false hb] at HS
  clear hb hm
  have hg := World.block_lt_of_cell? _ _ hE
  simp only at hg
  obtain ⟨B, hB⟩ : ∃ B, B = w.heap.size := ⟨_, rfl⟩
  go_enter Tryd.func26, Tryd.ntmps26
  go_wp2_with fail
  refine (unhide HR _).mono ?_
  generalize ((((((w.alloc (.cells #[.int .i64 (W : Int), .int .i64 (H : Int), .slice a n c] 26)).alloc (.cells #[.int .i64 (QW : Int), .int .i64 (QH : Int), .slice b m d] 26)).alloc (.cells #[.int .i64 X] 3)).alloc (.cells #[.int .i64 Y] 3)).alloc (.cells #[.int .i64 mo] 3)).alloc (.cells #[.int .i64 0, .int .i64 0, .slice none 0 0] 26)) = w1 at *
  rw [← hB] at HA hg ⊢
  obtain ⟨hs1, k0, k1, k2, k3, k4, k5, hb1⟩ := unhide HA
  have HBE := hide hB
  clear HA hB
  have hs : B + 6 ≤ w1.heap.size := by omega
  have HB := hide hb1
  clear hs1 hb1
  rintro e w2 ⟨rfl, hbN⟩
  have hsz := hbN.size
  have k0 := blk_below k0 hbN (by omega)
  have k1 := blk_below k1 hbN (by omega)
  have k2 := blk_below k2 hbN (by omega)
  have k3 := blk_below k3 hbN (by omega)
  have k4 := blk_below k4 hbN (by omega)
  have k5 := blk_below k5 hbN (by omega)
  have HB := hide ((unhide HB).trans (hbN.mono (by omega)))
  have hs : B + 6 ≤ w2.heap.size := by omega
  clear hbN hsz
  have c00 : w2.cell? ⟨B, 0, none⟩ = some (.int .i64 (W : Int)) := blk_cell k0 0
  have c01 : w2.cell? ⟨B, 1, none⟩ = some (.int .i64 (H : Int)) := blk_cell k0 1
  have c02 : w2.cell? ⟨B, 2, none⟩ = some (.slice a n c) := blk_cell k0 2
  have c10 : w2.cell? ⟨B + 1, 0, none⟩ = some (.int .i64 (QW : Int)) := blk_cell k1 0
  have c11 : w2.cell? ⟨B + 1, 1, none⟩ = some (.int .i64 (QH : Int)) := blk_cell k1 1
  have c12 : w2.cell? ⟨B + 1, 2, none⟩ = some (.slice b m d) := blk_cell k1 2
  have c20 : w2.cell? ⟨B + 2, 0, none⟩ = some (.int .i64 X) := blk_cell k2 0
  have c30 : w2.cell? ⟨B + 3, 0, none⟩ = some (.int .i64 Y) := blk_cell k3 0
  have c40 : w2.cell? ⟨B + 4, 0, none⟩ = some (.int .i64 mo) := blk_cell k4 0
  have c50 : w2.cell? ⟨B + 5, 0, none⟩ = some (.int .i64 0) := blk_cell k5 0
  have f0 := blk_frozen k5 0
  have c51 : w2.cell? ⟨B + 5, 1, none⟩ = some (.int .i64 0) := blk_cell k5 1
  have f1 := blk_frozen k5 1
  have c52 : w2.cell? ⟨B + 5, 2, none⟩ = some (.slice none 0 0) := blk_cell k5 2
  have f2 := blk_frozen k5 2
  go_wp2_with fail
  refine (unhide HQ _).mono ?_
  clear c00 c01 c02 c10 c11 c12 c20 c30 c40 c50 c51 c52 f0 f1 f2
  rintro e w3 ⟨rfl, hbN⟩
  have hsz := hbN.size
  have k0 := blk_below k0 hbN (by omega)
  have k1 := blk_below k1 hbN (by omega)
  have k2 := blk_below k2 hbN (by omega)
  have k3 := blk_below k3 hbN (by omega)
  have k4 := blk_below k4 hbN (by omega)
  have k5 := blk_below k5 hbN (by omega)
  have HB := hide ((unhide HB).trans (hbN.mono (by omega)))
  have hs : B + 6 ≤ w3.heap.size := by omega
  clear hbN hsz
  have c00 : w3.cell? ⟨B, 0, none⟩ = some (.int .i64 (W : Int)) := blk_cell k0 0
  have c01 : w3.cell? ⟨B, 1, none⟩ = some (.int .i64 (H : Int)) := blk_cell k0 1
  have c02 : w3.cell? ⟨B, 2, none⟩ = some (.slice a n c) := blk_cell k0 2
  have c10 : w3.cell? ⟨B + 1, 0, none⟩ = some (.int .i64 (QW : Int)) := blk_cell k1 0
  have c11 : w3.cell? ⟨B + 1, 1, none⟩ = some (.int .i64 (QH : Int)) := blk_cell k1 1
  have c12 : w3.cell? ⟨B + 1, 2, none⟩ = some (.slice b m d) := blk_cell k1 2
  have c20 : w3.cell? ⟨B + 2, 0, none⟩ = some (.int .i64 X) := blk_cell k2 0
  have c30 : w3.cell? ⟨B + 3, 0, none⟩ = some (.int .i64 Y) := blk_cell k3 0
  have c40 : w3.cell? ⟨B + 4, 0, none⟩ = some (.int .i64 mo) := blk_cell k4 0
  have c50 : w3.cell? ⟨B + 5, 0, none⟩ = some (.int .i64 0) := blk_cell k5 0
  have f0 := blk_frozen k5 0
  have c51 : w3.cell? ⟨B + 5, 1, none⟩ = some (.int .i64 0) := blk_cell k5 1
  have f1 := blk_frozen k5 1
  have c52 : w3.cell? ⟨B + 5, 2, none⟩ = some (.slice none 0 0) := blk_cell k5 2
  have f2 := blk_frozen k5 2
  go_wp2_with fail
  refine (unhide HS _).mono ?_
  have hbA : Below w3.heap.size w3 (w3.alloc (.cells #[.int .i64 X, .int .i64 Y] 3)) := (Below.refl _ _).alloc (Nat.le_refl _) _
  generalize w3.alloc (.cells #[.int .i64 X, .int .i64 Y] 3) = w4 at *
  clear c00 c01 c02 c10 c11 c12 c20 c30 c40 c50 c51 c52 f0 f1 f2
  have hsz := hbA.size
  have k0 := blk_below k0 hbA (by omega)
  have k1 := blk_below k1 hbA (by omega)
  have k2 := blk_below k2 hbA (by omega)
  have k3 := blk_below k3 hbA (by omega)
  have k4 := blk_below k4 hbA (by omega)
  have k5 := blk_below k5 hbA (by omega)
  have HB := hide ((unhide HB).trans (hbA.mono (by omega)))
  have hs : B + 6 ≤ w4.heap.size := by omega
  clear hbA hsz
  rintro e w4 ⟨rfl, rfl⟩
  have c00 : w4.cell? ⟨B, 0, none⟩ = some (.int .i64 (W : Int)) := blk_cell k0 0
  have c01 : w4.cell? ⟨B, 1, none⟩ = some (.int .i64 (H : Int)) := blk_cell k0 1
  have c02 : w4.cell? ⟨B, 2, none⟩ = some (.slice a n c) := blk_cell k0 2
  have c10 : w4.cell? ⟨B + 1, 0, none⟩ = some (.int .i64 (QW : Int)) := blk_cell k1 0
  have c11 : w4.cell? ⟨B + 1, 1, none⟩ = some (.int .i64 (QH : Int)) := blk_cell k1 1
  have c12 : w4.cell? ⟨B + 1, 2, none⟩ = some (.slice b m d) := blk_cell k1 2
  have c20 : w4.cell? ⟨B + 2, 0, none⟩ = some (.int .i64 X) := blk_cell k2 0
  have c30 : w4.cell? ⟨B + 3, 0, none⟩ = some (.int .i64 Y) := blk_cell k3 0
  have c40 : w4.cell? ⟨B + 4, 0, none⟩ = some (.int .i64 mo) := blk_cell k4 0
  have c50 : w4.cell? ⟨B + 5, 0, none⟩ = some (.int .i64 0) := blk_cell k5 0
  have f0 := blk_frozen k5 0
  have c51 : w4.cell? ⟨B + 5, 1, none⟩ = some (.int .i64 0) := blk_cell k5 1
  have f1 := blk_frozen k5 1
  have c52 : w4.cell? ⟨B + 5, 2, none⟩ = some (.slice none 0 0) := blk_cell k5 2
  have f2 := blk_frozen k5 2
  have hlr : B + 5 < w4.heap.size := by omega
  have hE2 := ((unhide HB).cell (p := ⟨0, 0, none⟩) hg).trans hE
  have xne : B + 5 ≠ 0 := by omega
  clear hE
  clear k0 k1 k2 k3 k4 k5
  go_wp2_with fail
  go_region_held (fun w' => w'.cell? ⟨0, 0, none⟩ = some (.iface tE vE)) (first | (go_keep; done) | (exact (far3 _ _ _ _ _ _ _ (by omega)).trans (by simp [*]))) (fail)
  all_goals
    go_wp2
    refine bodyPost_ret (v := .tuple #[.agg #[.int .i64 0, .int .i64 0, .slice none 0 0], .iface tE vE]) ?_ rfl ⟨rfl, ?_⟩
    · rw [results_ct (p := 10) (ty := 26) (u := 11) (by kernel_rfl)]
      go_simp
    · rw [← unhide HBE]
      exact (((((unhide HB).setCell (p := ⟨B + 5, 0, none⟩) (by show B ≤ B + 5; omega) _).setCell (p := ⟨B + 5, 1, none⟩) (by show B ≤ B + 5; omega) _).setCell (p := ⟨B + 5, 2, none⟩) (by show B ≤ B + 5; omega) _)).drew

end Go.Proofs.YtjhnneplknhmkahDoor
