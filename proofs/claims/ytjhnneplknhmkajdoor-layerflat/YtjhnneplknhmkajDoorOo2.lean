/- Pixels over pixels: the document's. -/
import Derived.Test.YtjhnneplknhmkajDoorOo1
import Derived.Test.YtjhnneplknhmkajDoorTx
import Derived.Deep.OwnRows
namespace Go.Proofs.YtjhnneplknhmkajDoor
open Go.RowKit

theorem made_is (x : Value) (n : Nat) : madeCells #[x] n = (List.replicate n x).toArray := by rw [← toList_madeCells_one x n]
theorem mk3 (w : World) : (Instr.makeSlice 122 (.int .i64 3) (.int .i64 3)).run Tryd.prog w = .ok (.slice (some ⟨w.heap.size, 0, none⟩) 3 3) (w.alloc (.cells #[.int .u8 0, .int .u8 0, .int .u8 0] 5)) := by
  have h := run_make_row' (P := Tryd.prog) 122 5 (.int .u8 0) 1 Tryd.underlying122 info_u8 rfl .i64 .i64 3 (by omega) (by omega) w
  rw [made_is] at h
  exact h
/-- One of three. -/
def c3 (x y z : Nat) (i : Nat) : Nat := if i = 0 then x else if i = 1 then y else z
theorem c3_le (x y z i c : Nat) (h1 : x ≤ c) (h2 : y ≤ c) (h3 : z ≤ c) : c3 x y z i ≤ c := by unfold c3; split <;> (try split) <;> omega
theorem three_lt {j : Nat} (h : j < 3) : j = 0 ∨ j = 1 ∨ j = 2 := by omega
/-- The document's rows: three colors of each, three bytes of the answer, and the answer. -/
structure OL (w wr : World) (B : Nat) (s d c : Nat → Nat) (i : Nat) : Prop where
  below : Below B w wr
  size : B + 6 ≤ wr.heap.size
  s : ∀ j, j < 3 → wr.cell? ⟨B + 3, j, none⟩ = some (.int .i64 (s j : Int))
  d : ∀ j, j < 3 → wr.cell? ⟨B + 4, j, none⟩ = some (.int .i64 (d j : Int))
  c : ∀ j, j < 3 → wr.cell? ⟨B + 5, j, none⟩ = some (.int .u8 ((if j < i then c j else 0 : Nat) : Int))
  f : ∀ j, j < 3 → wr.frozen? ⟨B + 5, j, none⟩ = false
  z0 : Q4 wr (B + 2) 0 0 0 0
  f0 : F4 wr (B + 2)
theorem OL.start {w w3 : World} {tr tg tb ta ur ug ub ua B : Nat} (h : O3 w w3 tr tg tb ta ur ug ub ua B) (c : Nat → Nat) :
    OL w (((w3.alloc (.cells #[.int .i64 (tr : Int), .int .i64 (tg : Int), .int .i64 (tb : Int)] 3)).alloc (.cells #[.int .i64 (ur : Int), .int .i64 (ug : Int), .int .i64 (ub : Int)] 3)).alloc (.cells #[.int .u8 0, .int .u8 0, .int .u8 0] 5)) B (c3 tr tg tb) (c3 ur ug ub) c 0 := by
  have hs := h.size
  have e1 : (w3.alloc (.cells #[.int .i64 (tr : Int), .int .i64 (tg : Int), .int .i64 (tb : Int)] 3)).heap.size = B + 4 := by simp [hs]
  have e2 : ((w3.alloc (.cells #[.int .i64 (tr : Int), .int .i64 (tg : Int), .int .i64 (tb : Int)] 3)).alloc (.cells #[.int .i64 (ur : Int), .int .i64 (ug : Int), .int .i64 (ub : Int)] 3)).heap.size = B + 5 := by simp [hs]
  have hb : Below w3.heap.size w3 (((w3.alloc (.cells #[.int .i64 (tr : Int), .int .i64 (tg : Int), .int .i64 (tb : Int)] 3)).alloc (.cells #[.int .i64 (ur : Int), .int .i64 (ug : Int), .int .i64 (ub : Int)] 3)).alloc (.cells #[.int .u8 0, .int .u8 0, .int .u8 0] 5)) := (((Below.refl _ _).alloc (Nat.le_refl _) _).alloc (by simp) _).alloc (by simp; omega) _
  refine ⟨h.below.trans (hb.mono (by omega)), by simp; omega, fun j hj => ?_, fun j hj => ?_, fun j hj => ?_, fun j hj => ?_, h.z0.below hb (by omega), h.f0.below hb (by omega)⟩
  · rw [World.cell?_alloc_lt _ _ ⟨B + 3, j, none⟩ (by simp only; omega), World.cell?_alloc_lt _ _ ⟨B + 3, j, none⟩ (by simp only; omega), ← hs, World.cell?_alloc_mark]
    rcases three_lt hj with rfl | rfl | rfl <;> rfl
  · rw [World.cell?_alloc_lt _ _ ⟨B + 4, j, none⟩ (by simp only; omega), ← e1, World.cell?_alloc_mark]
    rcases three_lt hj with rfl | rfl | rfl <;> rfl
  · rw [← e2, World.cell?_alloc_mark]
    rcases three_lt hj with rfl | rfl | rfl <;> rfl
  · rw [← e2]
    have hh := heap_alloc_new ((w3.alloc (.cells #[.int .i64 (tr : Int), .int .i64 (tg : Int), .int .i64 (tb : Int)] 3)).alloc (.cells #[.int .i64 (ur : Int), .int .i64 (ug : Int), .int .i64 (ub : Int)] 3)) (.cells #[.int .u8 0, .int .u8 0, .int .u8 0] 5)
    unfold World.frozen?
    rw [hh]
    simp
theorem OL.next {w wr : World} {B i n : Nat} {s d c : Nat → Nat} (h : OL w wr B s d c i) (hi : i < 3) : OL w ((wr.drewN n).setCell ⟨B + 5, i, none⟩ (.int .u8 (c i : Int))) B s d c (i + 1) := by
  have hsz := h.size
  have hfr : ∀ k j, ((wr.drewN n).setCell ⟨B + 5, i, none⟩ (.int .u8 (c i : Int))).frozen? ⟨k, j, none⟩ = wr.frozen? ⟨k, j, none⟩ := fun k j => World.frozen?_setCell _ _ _ _
  have hfar : ∀ k j, k ≠ B + 5 → ((wr.drewN n).setCell ⟨B + 5, i, none⟩ (.int .u8 (c i : Int))).cell? ⟨k, j, none⟩ = wr.cell? ⟨k, j, none⟩ := fun k j hk => World.cell?_setCell_far _ _ _ _ (fun e => hk e.symm)
  refine ⟨(belowD h.below).setCell (by show B ≤ B + 5; omega) _, by simpa using hsz, fun j hj => (hfar _ _ (by omega)).trans (h.s j hj), fun j hj => (hfar _ _ (by omega)).trans (h.d j hj), fun j hj => ?_, fun j hj => (hfr _ _).trans (h.f j hj), ⟨(hfar _ _ (by omega)).trans h.z0.r, (hfar _ _ (by omega)).trans h.z0.g, (hfar _ _ (by omega)).trans h.z0.b, (hfar _ _ (by omega)).trans h.z0.a⟩, ⟨(hfr _ _).trans h.f0.f0, (hfr _ _).trans h.f0.f1, (hfr _ _).trans h.f0.f2, (hfr _ _).trans h.f0.f3⟩⟩
  by_cases e : j = i
  · subst e
    rw [if_pos (by omega)]
    exact World.cell?_setCell_same _ _ _ (show (wr.drewN n).cell? ⟨B + 5, j, none⟩ = _ from h.c j hj)
  · rw [World.cell?_setCell_other _ _ _ _ (fun q => e (by injection q with _ q _; exact q.symm))]
    show wr.cell? ⟨B + 5, j, none⟩ = _
    rw [h.c j hj]
    by_cases q : j < i
    · rw [if_pos q, if_pos (by omega)]
    · rw [if_neg q, if_neg (by omega)]
theorem OL.drewN {w wr : World} {B i n : Nat} {s d c : Nat → Nat} (h : OL w wr B s d c i) : OL w (wr.drewN n) B s d c i :=
  ⟨belowD h.below, h.size, h.s, h.d, h.c, h.f, ⟨h.z0.r, h.z0.g, h.z0.b, h.z0.a⟩, ⟨h.f0.f0, h.f0.f1, h.f0.f2, h.f0.f3⟩⟩
end Go.Proofs.YtjhnneplknhmkajDoor
