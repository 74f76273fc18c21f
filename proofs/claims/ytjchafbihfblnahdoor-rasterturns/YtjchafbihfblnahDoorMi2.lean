/- Pixels, mixed: the document's. -/
import Derived.Test.YtjchafbihfblnahDoorMi1
import Derived.Test.YtjchafbihfblnahDoorOo1
import Derived.Deep.OwnRows
namespace Go.Proofs.YtjchafbihfblnahDoor
open Go.RowKit

theorem mki4 (w : World) : (Instr.makeSlice 93 (.int .i64 4) (.int .i64 4)).run Tryd.prog w = .ok (.slice (some ⟨w.heap.size, 0, none⟩) 4 4) (w.alloc (.cells #[.int .i64 0, .int .i64 0, .int .i64 0, .int .i64 0] 3)) := by
  have h := run_make_row' (P := Tryd.prog) 93 3 (.int .i64 0) 8 Tryd.underlying93 (by kernel_rfl) rfl .i64 .i64 4 (by omega) (by omega) w
  rw [show madeCells #[.int .i64 0] 4 = (List.replicate 4 (.int .i64 0)).toArray by rw [← toList_madeCells_one (.int .i64 0) 4]] at h
  exact h
/-- Four sums of a call's own, and its answer's cells. -/
structure S4 (w wr : World) (B : Nat) (r g b a : Nat) : Prop where
  below : Below B w wr
  size : B + 2 ≤ wr.heap.size
  r : wr.cell? ⟨B + 1, 0, none⟩ = some (.int .i64 (r : Int))
  g : wr.cell? ⟨B + 1, 1, none⟩ = some (.int .i64 (g : Int))
  b : wr.cell? ⟨B + 1, 2, none⟩ = some (.int .i64 (b : Int))
  a : wr.cell? ⟨B + 1, 3, none⟩ = some (.int .i64 (a : Int))
  f : F4 wr (B + 1)
  z0 : Q4 wr B 0 0 0 0
  f0 : F4 wr B
theorem S4.start (w : World) : S4 w ((w.alloc (q4Obj 0 0 0 0)).alloc (.cells #[.int .i64 0, .int .i64 0, .int .i64 0, .int .i64 0] 3)) w.heap.size 0 0 0 0 := by
  have e1 : (w.alloc (q4Obj 0 0 0 0)).heap.size = w.heap.size + 1 := by simp
  have hb : Below (w.alloc (q4Obj 0 0 0 0)).heap.size (w.alloc (q4Obj 0 0 0 0)) ((w.alloc (q4Obj 0 0 0 0)).alloc (.cells #[.int .i64 0, .int .i64 0, .int .i64 0, .int .i64 0] 3)) := (Below.refl _ _).alloc (Nat.le_refl _) _
  have hf : ∀ j, j < 4 → ((w.alloc (q4Obj 0 0 0 0)).alloc (.cells #[.int .i64 0, .int .i64 0, .int .i64 0, .int .i64 0] 3)).frozen? ⟨w.heap.size + 1, j, none⟩ = false := fun j hj => by
    rw [← e1]
    have hh := heap_alloc_new (w.alloc (q4Obj 0 0 0 0)) (.cells #[.int .i64 0, .int .i64 0, .int .i64 0, .int .i64 0] 3)
    unfold World.frozen?
    rw [hh]
    simp
  refine ⟨((Below.refl _ _).alloc (Nat.le_refl _) _).alloc (by simp) _, by simp, ?_, ?_, ?_, ?_, ⟨hf 0 (by omega), hf 1 (by omega), hf 2 (by omega), hf 3 (by omega)⟩, (q4_new w 0 0 0 0).alloc _, (q4_new_f w 0 0 0 0).below hb (by simp)⟩
  all_goals
    rw [← e1, World.cell?_alloc_mark]
    rfl
theorem sum_far (w : World) (k o b j : Nat) (v : Value) (h : k ≠ b ∨ o ≠ j) : (w.setCell ⟨k, o, none⟩ v).cell? ⟨b, j, none⟩ = w.cell? ⟨b, j, none⟩ :=
  World.cell?_setCell_other _ _ _ _ (fun q => by injection q with q1 q2 _; rcases h with h | h; exact h q1; exact h q2)
theorem S4.setR {w wr : World} {B r g b a : Nat} (h : S4 w wr B r g b a) (v n : Nat) : S4 w ((wr.setCell ⟨B + 1, 0, none⟩ (.int .i64 (v : Int))).drewN n) B v g b a := by
  have hs := h.size
  have hfr : ∀ k j, ((wr.setCell ⟨B + 1, 0, none⟩ (.int .i64 (v : Int))).drewN n).frozen? ⟨k, j, none⟩ = wr.frozen? ⟨k, j, none⟩ := fun k j => World.frozen?_setCell _ _ _ _
  have hfar : ∀ k j, (B + 1 ≠ k ∨ 0 ≠ j) → ((wr.setCell ⟨B + 1, 0, none⟩ (.int .i64 (v : Int))).drewN n).cell? ⟨k, j, none⟩ = wr.cell? ⟨k, j, none⟩ := fun k j hk => sum_far _ _ _ _ _ _ hk
  exact ⟨belowD (h.below.setCell (by show B ≤ B + 1; omega) _), by simpa using hs, World.cell?_setCell_same _ _ _ h.r, (hfar _ _ (by omega)).trans h.g, (hfar _ _ (by omega)).trans h.b, (hfar _ _ (by omega)).trans h.a, ⟨(hfr _ _).trans h.f.f0, (hfr _ _).trans h.f.f1, (hfr _ _).trans h.f.f2, (hfr _ _).trans h.f.f3⟩, ⟨(hfar _ _ (by omega)).trans h.z0.r, (hfar _ _ (by omega)).trans h.z0.g, (hfar _ _ (by omega)).trans h.z0.b, (hfar _ _ (by omega)).trans h.z0.a⟩, ⟨(hfr _ _).trans h.f0.f0, (hfr _ _).trans h.f0.f1, (hfr _ _).trans h.f0.f2, (hfr _ _).trans h.f0.f3⟩⟩
theorem S4.setG {w wr : World} {B r g b a : Nat} (h : S4 w wr B r g b a) (v n : Nat) : S4 w ((wr.setCell ⟨B + 1, 1, none⟩ (.int .i64 (v : Int))).drewN n) B r v b a := by
  have hs := h.size
  have hfr : ∀ k j, ((wr.setCell ⟨B + 1, 1, none⟩ (.int .i64 (v : Int))).drewN n).frozen? ⟨k, j, none⟩ = wr.frozen? ⟨k, j, none⟩ := fun k j => World.frozen?_setCell _ _ _ _
  have hfar : ∀ k j, (B + 1 ≠ k ∨ 1 ≠ j) → ((wr.setCell ⟨B + 1, 1, none⟩ (.int .i64 (v : Int))).drewN n).cell? ⟨k, j, none⟩ = wr.cell? ⟨k, j, none⟩ := fun k j hk => sum_far _ _ _ _ _ _ hk
  exact ⟨belowD (h.below.setCell (by show B ≤ B + 1; omega) _), by simpa using hs, (hfar _ _ (by omega)).trans h.r, World.cell?_setCell_same _ _ _ h.g, (hfar _ _ (by omega)).trans h.b, (hfar _ _ (by omega)).trans h.a, ⟨(hfr _ _).trans h.f.f0, (hfr _ _).trans h.f.f1, (hfr _ _).trans h.f.f2, (hfr _ _).trans h.f.f3⟩, ⟨(hfar _ _ (by omega)).trans h.z0.r, (hfar _ _ (by omega)).trans h.z0.g, (hfar _ _ (by omega)).trans h.z0.b, (hfar _ _ (by omega)).trans h.z0.a⟩, ⟨(hfr _ _).trans h.f0.f0, (hfr _ _).trans h.f0.f1, (hfr _ _).trans h.f0.f2, (hfr _ _).trans h.f0.f3⟩⟩
theorem S4.setB {w wr : World} {B r g b a : Nat} (h : S4 w wr B r g b a) (v n : Nat) : S4 w ((wr.setCell ⟨B + 1, 2, none⟩ (.int .i64 (v : Int))).drewN n) B r g v a := by
  have hs := h.size
  have hfr : ∀ k j, ((wr.setCell ⟨B + 1, 2, none⟩ (.int .i64 (v : Int))).drewN n).frozen? ⟨k, j, none⟩ = wr.frozen? ⟨k, j, none⟩ := fun k j => World.frozen?_setCell _ _ _ _
  have hfar : ∀ k j, (B + 1 ≠ k ∨ 2 ≠ j) → ((wr.setCell ⟨B + 1, 2, none⟩ (.int .i64 (v : Int))).drewN n).cell? ⟨k, j, none⟩ = wr.cell? ⟨k, j, none⟩ := fun k j hk => sum_far _ _ _ _ _ _ hk
  exact ⟨belowD (h.below.setCell (by show B ≤ B + 1; omega) _), by simpa using hs, (hfar _ _ (by omega)).trans h.r, (hfar _ _ (by omega)).trans h.g, World.cell?_setCell_same _ _ _ h.b, (hfar _ _ (by omega)).trans h.a, ⟨(hfr _ _).trans h.f.f0, (hfr _ _).trans h.f.f1, (hfr _ _).trans h.f.f2, (hfr _ _).trans h.f.f3⟩, ⟨(hfar _ _ (by omega)).trans h.z0.r, (hfar _ _ (by omega)).trans h.z0.g, (hfar _ _ (by omega)).trans h.z0.b, (hfar _ _ (by omega)).trans h.z0.a⟩, ⟨(hfr _ _).trans h.f0.f0, (hfr _ _).trans h.f0.f1, (hfr _ _).trans h.f0.f2, (hfr _ _).trans h.f0.f3⟩⟩
theorem S4.setA {w wr : World} {B r g b a : Nat} (h : S4 w wr B r g b a) (v : Nat) : S4 w (wr.setCell ⟨B + 1, 3, none⟩ (.int .i64 (v : Int))) B r g b v := by
  have hs := h.size
  have hfr : ∀ k j, (wr.setCell ⟨B + 1, 3, none⟩ (.int .i64 (v : Int))).frozen? ⟨k, j, none⟩ = wr.frozen? ⟨k, j, none⟩ := fun k j => World.frozen?_setCell _ _ _ _
  have hfar : ∀ k j, (B + 1 ≠ k ∨ 3 ≠ j) → (wr.setCell ⟨B + 1, 3, none⟩ (.int .i64 (v : Int))).cell? ⟨k, j, none⟩ = wr.cell? ⟨k, j, none⟩ := fun k j hk => sum_far _ _ _ _ _ _ hk
  exact ⟨h.below.setCell (by show B ≤ B + 1; omega) _, by simpa using hs, (hfar _ _ (by omega)).trans h.r, (hfar _ _ (by omega)).trans h.g, (hfar _ _ (by omega)).trans h.b, World.cell?_setCell_same _ _ _ h.a, ⟨(hfr _ _).trans h.f.f0, (hfr _ _).trans h.f.f1, (hfr _ _).trans h.f.f2, (hfr _ _).trans h.f.f3⟩, ⟨(hfar _ _ (by omega)).trans h.z0.r, (hfar _ _ (by omega)).trans h.z0.g, (hfar _ _ (by omega)).trans h.z0.b, (hfar _ _ (by omega)).trans h.z0.a⟩, ⟨(hfr _ _).trans h.f0.f0, (hfr _ _).trans h.f0.f1, (hfr _ _).trans h.f0.f2, (hfr _ _).trans h.f0.f3⟩⟩
end Go.Proofs.YtjchafbihfblnahDoor
