/- Four cells of a call's own, read and written. -/
import Derived.Test.YtpfobocdbmiagaaDoorBase
import Derived.Deep.RegionHeld
import Derived.Deep.QuietTactic
namespace Go.Proofs.YtpfobocdbmiagaaDoor
open Go.RowKit

/-- A pixel's cells, as numbers. -/
structure Q4 (w : World) (k : Nat) (r g b a : Nat) : Prop where
  r : w.cell? ⟨k, 0, none⟩ = some (.int .u8 (r : Int))
  g : w.cell? ⟨k, 1, none⟩ = some (.int .u8 (g : Int))
  b : w.cell? ⟨k, 2, none⟩ = some (.int .u8 (b : Int))
  a : w.cell? ⟨k, 3, none⟩ = some (.int .u8 (a : Int))
theorem Q4.lt {w : World} {k r g b a : Nat} (h : Q4 w k r g b a) : k < w.heap.size := World.block_lt_of_cell? _ _ h.r
theorem Q4.below {w w' : World} {k r g b a B : Nat} (h : Q4 w k r g b a) (hb : Below B w w') (hB : k < B) : Q4 w' k r g b a :=
  ⟨(hb.cell (p := ⟨k, 0, none⟩) hB).trans h.r, (hb.cell (p := ⟨k, 1, none⟩) hB).trans h.g, (hb.cell (p := ⟨k, 2, none⟩) hB).trans h.b, (hb.cell (p := ⟨k, 3, none⟩) hB).trans h.a⟩
theorem Q4.alloc {w : World} {k r g b a : Nat} (h : Q4 w k r g b a) (o : Obj) : Q4 (w.alloc o) k r g b a := h.below ((Below.refl _ _).alloc (Nat.le_refl _) _) h.lt
def q4Obj (r g b a : Nat) : Obj := .cells #[.int .u8 (r : Int), .int .u8 (g : Int), .int .u8 (b : Int), .int .u8 (a : Int)] 40
theorem q4_new (w : World) (r g b a : Nat) : Q4 (w.alloc (q4Obj r g b a)) w.heap.size r g b a := by
  unfold q4Obj
  exact ⟨by simp, by simp, by simp, by simp⟩
/-- They may be written. -/
structure F4 (w : World) (k : Nat) : Prop where
  f0 : w.frozen? ⟨k, 0, none⟩ = false
  f1 : w.frozen? ⟨k, 1, none⟩ = false
  f2 : w.frozen? ⟨k, 2, none⟩ = false
  f3 : w.frozen? ⟨k, 3, none⟩ = false
theorem F4.below {w w' : World} {k B : Nat} (h : F4 w k) (hb : Below B w w') (hB : k < B) : F4 w' k :=
  ⟨(hb.frozen (p := ⟨k, 0, none⟩) hB).trans h.f0, (hb.frozen (p := ⟨k, 1, none⟩) hB).trans h.f1, (hb.frozen (p := ⟨k, 2, none⟩) hB).trans h.f2, (hb.frozen (p := ⟨k, 3, none⟩) hB).trans h.f3⟩
theorem q4_new_f (w : World) (r g b a : Nat) : F4 (w.alloc (q4Obj r g b a)) w.heap.size := by
  unfold q4Obj
  exact ⟨by simp, by simp, by simp, by simp⟩
theorem belowD {B n : Nat} {a w : World} (h : Below B a w) : Below B a (w.drewN n) := h.trans ⟨rfl, rfl, rfl, Nat.le_refl _, fun _ _ => rfl⟩
theorem far4 (w : World) (k b o : Nat) (v1 v2 v3 v4 : Value) (h : k ≠ b) : ((((w.setCell ⟨k, 0, none⟩ v1).setCell ⟨k, 1, none⟩ v2).setCell ⟨k, 2, none⟩ v3).setCell ⟨k, 3, none⟩ v4).cell? ⟨b, o, none⟩ = w.cell? ⟨b, o, none⟩ := by
  rw [World.cell?_setCell_far _ _ _ _ h, World.cell?_setCell_far _ _ _ _ h, World.cell?_setCell_far _ _ _ _ h, World.cell?_setCell_far _ _ _ _ h]

/-- Four numbers' cells. -/
structure I4 (w : World) (k : Nat) (a b c d : Nat) : Prop where
  a : w.cell? ⟨k, 0, none⟩ = some (.int .i64 (a : Int))
  b : w.cell? ⟨k, 1, none⟩ = some (.int .i64 (b : Int))
  c : w.cell? ⟨k, 2, none⟩ = some (.int .i64 (c : Int))
  d : w.cell? ⟨k, 3, none⟩ = some (.int .i64 (d : Int))
theorem I4.lt {w : World} {k a b c d : Nat} (h : I4 w k a b c d) : k < w.heap.size := World.block_lt_of_cell? _ _ h.a
theorem I4.below {w w' : World} {k a b c d B : Nat} (h : I4 w k a b c d) (hb : Below B w w') (hB : k < B) : I4 w' k a b c d :=
  ⟨(hb.cell (p := ⟨k, 0, none⟩) hB).trans h.a, (hb.cell (p := ⟨k, 1, none⟩) hB).trans h.b, (hb.cell (p := ⟨k, 2, none⟩) hB).trans h.c, (hb.cell (p := ⟨k, 3, none⟩) hB).trans h.d⟩
theorem i4_laid (w : World) (t : TypeId) (a b c d : Nat) : I4 (w.alloc (.cells #[.int .i64 (a : Int), .int .i64 (b : Int), .int .i64 (c : Int), .int .i64 (d : Int)] t)) w.heap.size a b c d ∧ F4 (w.alloc (.cells #[.int .i64 (a : Int), .int .i64 (b : Int), .int .i64 (c : Int), .int .i64 (d : Int)] t)) w.heap.size ∧ Below w.heap.size w (w.alloc (.cells #[.int .i64 (a : Int), .int .i64 (b : Int), .int .i64 (c : Int), .int .i64 (d : Int)] t)) ∧ w.heap.size < (w.alloc (.cells #[.int .i64 (a : Int), .int .i64 (b : Int), .int .i64 (c : Int), .int .i64 (d : Int)] t)).heap.size :=
  ⟨⟨by simp, by simp, by simp, by simp⟩, ⟨by simp, by simp, by simp, by simp⟩, (Below.refl _ _).alloc (Nat.le_refl _) _, by simp⟩
end Go.Proofs.YtpfobocdbmiagaaDoor
