/- Marks on a picture, none yet: the program's. -/
import Derived.Test.YtjhnneplknhmkahDoorLm0
import Derived.Deep.OwnRows
namespace Go.Proofs.YtjhnneplknhmkahDoor
open Go.RowKit

theorem mk_bools (n : Nat) (hn : n ≤ 100000) (w : World) : (Instr.makeSlice 79 (.int .i64 (n : Int)) (.int .i64 (n : Int))).run Tryd.prog w = .ok (.slice (some ⟨w.heap.size, 0, none⟩) n n) (w.alloc (.cells (madeCells #[.bool false] n) 4)) :=
  run_make_row' (P := Tryd.prog) 79 4 (.bool false) 1 Tryd.underlying79 (by kernel_rfl) rfl .i64 .i64 n (by omega) (by omega) w
theorem made_MR (w : World) (n : Nat) : MR (w.alloc (.cells (madeCells #[.bool false] n) 4)) w.heap.size n (fun _ => false) := by
  have hb := heap_alloc_new w (.cells (madeCells #[.bool false] n) 4)
  exact ⟨⟨_, hb⟩, fun i hi => (blk_cell hb i).trans (by simp [madeCells, hi, Nat.mod_one])⟩

set_option maxHeartbeats 2000000 in
set_option maxRecDepth 100000 in
theorem marksOn_any (W H : Nat) (a : Option Addr) (n c : Nat) (w : World) (hn : n ≤ 100000) :
    Calls Tryd.prog 67 #[.agg #[.int .i64 (W : Int), .int .i64 (H : Int), .slice a n c]] w fun e w' => ∃ g, e = .returned (.agg #[.int .i64 (W : Int), .slice (some ⟨g, 0, none⟩) n n]) ∧ w.heap.size ≤ g ∧ MR w' g n (fun _ => false) ∧ Below w.heap.size w w' := by
  have hmk := mk_bools n hn
  have HA := hide (al2 w (.cells #[.int .i64 (W : Int), .int .i64 (H : Int), .slice a n c] 26) (.cells #[.int .i64 0, .slice none 0 0] 81))
  obtain ⟨B, hB⟩ : ∃ B, B = w.heap.size := ⟨_, rfl⟩
  go_enter Tryd.func67, Tryd.ntmps67
  go_wp2
  generalize (w.alloc (.cells #[.int .i64 (W : Int), .int .i64 (H : Int), .slice a n c] 26)).alloc (.cells #[.int .i64 0, .slice none 0 0] 81) = w2 at *
  rw [← hB] at HA ⊢
  obtain ⟨hs, k0, k1, hb⟩ := unhide HA
  have HBE := hide hB
  have HB2 := hide hb
  have c0 : w2.cell? ⟨B, 0, none⟩ = some (.int .i64 (W : Int)) := blk_cell k0 0
  have c2 : w2.cell? ⟨B, 2, none⟩ = some (.slice a n c) := blk_cell k0 2
  have l0 : B < w2.heap.size := by omega
  have l1 : B + 1 < w2.heap.size := by omega
  have s0 : w2.cell? ⟨B + 1, 0, none⟩ = some (.int .i64 0) := blk_cell k1 0
  have s1 : w2.cell? ⟨B + 1, 1, none⟩ = some (.slice none 0 0) := blk_cell k1 1
  have f0 := blk_frozen k1 0
  have f1 := blk_frozen k1 1
  have HM : Hid (∀ x y, MR (((w2.setCell ⟨B + 1, 0, none⟩ x).setCell ⟨B + 1, 1, none⟩ y).alloc (.cells (madeCells #[.bool false] n) 4)) w2.heap.size n (fun _ => false)) := fun x y => by
    have h := made_MR ((w2.setCell ⟨B + 1, 0, none⟩ x).setCell ⟨B + 1, 1, none⟩ y) n
    have e : ((w2.setCell ⟨B + 1, 0, none⟩ x).setCell ⟨B + 1, 1, none⟩ y).heap.size = w2.heap.size := by simp [World.setCell]
    rw [e] at h
    exact h
  have HF : Hid (∀ x y o, Below B w (((w2.setCell ⟨B + 1, 0, none⟩ x).setCell ⟨B + 1, 1, none⟩ y).alloc o)) := fun x y o =>
    ((hb.setCell (p := ⟨B + 1, 0, none⟩) (by show B ≤ B + 1; omega) x).setCell (p := ⟨B + 1, 1, none⟩) (by show B ≤ B + 1; omega) y).alloc (by simp [World.setCell]; omega) o
  have hne : w2.heap.size ≠ B + 1 := by omega
  have hne2 : B + 1 ≠ w2.heap.size := by omega
  have n01 : B + 1 ≠ B := by omega
  have HS := hide hs
  clear HA hB hb k0 k1 hs
  go_region_held (fun w' => w'.cell? ⟨B, 0, none⟩ = some (.int .i64 (W : Int)) ∧ w'.cell? ⟨B, 2, none⟩ = some (.slice a n c)) (go_keep) (fail)
  go_wp2
  refine bodyPost_ret (v := .agg #[.int .i64 (W : Int), .slice (some ⟨w2.heap.size, 0, none⟩) n n]) ?_ rfl ⟨w2.heap.size, rfl, ?_, ?_, ?_⟩
  · rw [results_cellP (p := 2) (ty := 81) (by kernel_rfl)]
    go_simp
  · rw [← unhide HBE]; omega
  · exact (unhide HM _ _).block rfl
  · rw [← unhide HBE]; exact (unhide HF _ _ _).drew
end Go.Proofs.YtjhnneplknhmkahDoor
