/- Four cells of a call's own, read and written. Blocks that are known whole. -/
import Derived.Test.YtcicbafdacfbpaiGreatDoorMg1
import Derived.Deep.RegionHeld
import Derived.Deep.QuietTactic
import Derived.Test.YtcicbafdacfbpaiGreatDoorMg2
namespace Go.Proofs.YtcicbafdacfbpaiGreatDoor
open Go.RowKit

/-- A pixel's cells, as numbers. -/
structure Q4 (w : World) (k : Nat) (r g b a : Nat) : Prop where
  r : w.cell? ⟨k, 0, none⟩ = some (.int .u8 (r : Int))
  g : w.cell? ⟨k, 1, none⟩ = some (.int .u8 (g : Int))
  b : w.cell? ⟨k, 2, none⟩ = some (.int .u8 (b : Int))
  a : w.cell? ⟨k, 3, none⟩ = some (.int .u8 (a : Int))
theorem Q4.lt {w : World} {k r g b a : Nat} (h : Q4 w k r g b a) : k < w.heap.size := World.block_lt_of_cell? _ _ h.r
theorem Q4.below {w w' : World} {k r g b a B : Nat} (h : Q4 w k r g b a) (hb : Below B w w') (hB : k < B) : Q4 w' k r g b a :=
  ⟨(hb.cell (p := ⟨k, 0, none⟩) hB).trans h.r, (hb.cell (p := ⟨k, 1, none⟩) hB).trans h.g, (hb.cell (p := ⟨k, 2, none⟩) hB).trans h.b, (hb.cell (p := ⟨k, 3, none⟩) hB).trans h.a⟩
theorem Q4.alloc {w : World} {k r g b a : Nat} (h : Q4 w k r g b a) (o : Obj) : Q4 (w.alloc o) k r g b a := h.below ((Below.refl _ _).alloc (Nat.le_refl _) _) h.lt
def q4Obj (r g b a : Nat) : Obj := .cells #[.int .u8 (r : Int), .int .u8 (g : Int), .int .u8 (b : Int), .int .u8 (a : Int)] 39
theorem q4_new (w : World) (r g b a : Nat) : Q4 (w.alloc (q4Obj r g b a)) w.heap.size r g b a := by
  unfold q4Obj
  exact ⟨by simp, by simp, by simp, by simp⟩
/-- They may be written. -/
structure F4 (w : World) (k : Nat) : Prop where
  f0 : w.frozen? ⟨k, 0, none⟩ = false
  f1 : w.frozen? ⟨k, 1, none⟩ = false
  f2 : w.frozen? ⟨k, 2, none⟩ = false
  f3 : w.frozen? ⟨k, 3, none⟩ = false
theorem F4.below {w w' : World} {k B : Nat} (h : F4 w k) (hb : Below B w w') (hB : k < B) : F4 w' k :=
  ⟨(hb.frozen (p := ⟨k, 0, none⟩) hB).trans h.f0, (hb.frozen (p := ⟨k, 1, none⟩) hB).trans h.f1, (hb.frozen (p := ⟨k, 2, none⟩) hB).trans h.f2, (hb.frozen (p := ⟨k, 3, none⟩) hB).trans h.f3⟩
theorem q4_new_f (w : World) (r g b a : Nat) : F4 (w.alloc (q4Obj r g b a)) w.heap.size := by
  unfold q4Obj
  exact ⟨by simp, by simp, by simp, by simp⟩
theorem belowD {B n : Nat} {a w : World} (h : Below B a w) : Below B a (w.drewN n) := h.trans ⟨rfl, rfl, rfl, Nat.le_refl _, fun _ _ => rfl⟩
theorem far4 (w : World) (k b o : Nat) (v1 v2 v3 v4 : Value) (h : k ≠ b) : ((((w.setCell ⟨k, 0, none⟩ v1).setCell ⟨k, 1, none⟩ v2).setCell ⟨k, 2, none⟩ v3).setCell ⟨k, 3, none⟩ v4).cell? ⟨b, o, none⟩ = w.cell? ⟨b, o, none⟩ := by
  rw [World.cell?_setCell_far _ _ _ _ h, World.cell?_setCell_far _ _ _ _ h, World.cell?_setCell_far _ _ _ _ h, World.cell?_setCell_far _ _ _ _ h]

/-- Four numbers' cells. -/
structure I4 (w : World) (k : Nat) (a b c d : Nat) : Prop where
  a : w.cell? ⟨k, 0, none⟩ = some (.int .i64 (a : Int))
  b : w.cell? ⟨k, 1, none⟩ = some (.int .i64 (b : Int))
  c : w.cell? ⟨k, 2, none⟩ = some (.int .i64 (c : Int))
  d : w.cell? ⟨k, 3, none⟩ = some (.int .i64 (d : Int))
theorem I4.lt {w : World} {k a b c d : Nat} (h : I4 w k a b c d) : k < w.heap.size := World.block_lt_of_cell? _ _ h.a
theorem I4.below {w w' : World} {k a b c d B : Nat} (h : I4 w k a b c d) (hb : Below B w w') (hB : k < B) : I4 w' k a b c d :=
  ⟨(hb.cell (p := ⟨k, 0, none⟩) hB).trans h.a, (hb.cell (p := ⟨k, 1, none⟩) hB).trans h.b, (hb.cell (p := ⟨k, 2, none⟩) hB).trans h.c, (hb.cell (p := ⟨k, 3, none⟩) hB).trans h.d⟩
theorem i4_laid (w : World) (t : TypeId) (a b c d : Nat) : I4 (w.alloc (.cells #[.int .i64 (a : Int), .int .i64 (b : Int), .int .i64 (c : Int), .int .i64 (d : Int)] t)) w.heap.size a b c d ∧ F4 (w.alloc (.cells #[.int .i64 (a : Int), .int .i64 (b : Int), .int .i64 (c : Int), .int .i64 (d : Int)] t)) w.heap.size ∧ Below w.heap.size w (w.alloc (.cells #[.int .i64 (a : Int), .int .i64 (b : Int), .int .i64 (c : Int), .int .i64 (d : Int)] t)) ∧ w.heap.size < (w.alloc (.cells #[.int .i64 (a : Int), .int .i64 (b : Int), .int .i64 (c : Int), .int .i64 (d : Int)] t)).heap.size :=
  ⟨⟨by simp, by simp, by simp, by simp⟩, ⟨by simp, by simp, by simp, by simp⟩, (Below.refl _ _).alloc (Nat.le_refl _) _, by simp⟩
end Go.Proofs.YtcicbafdacfbpaiGreatDoor
namespace Go.Proofs.YtcicbafdacfbpaiGreatDoor
open Go.RowKit

theorem blk_cell {w : World} {k : Nat} {cs : Array Value} {t : TypeId} (h : w.heap[k]? = some (.cells cs t)) (j : Nat) : w.cell? ⟨k, j, none⟩ = cs[j]? := by simp [World.cell?, h]
theorem blk_frozen {w : World} {k : Nat} {cs : Array Value} {t : TypeId} (h : w.heap[k]? = some (.cells cs t)) (j : Nat) : w.frozen? ⟨k, j, none⟩ = false := by simp [World.frozen?, h]
theorem blk_lt {w : World} {k : Nat} {o : Obj} (h : w.heap[k]? = some o) : k < w.heap.size := by
  rcases Nat.lt_or_ge k w.heap.size with q | q
  · exact q
  · rw [Array.getElem?_eq_none q] at h; cases h
theorem blk_below {w w' : World} {k B : Nat} {o : Obj} (h : w.heap[k]? = some o) (hb : Below B w w') (hk : k < B) : w'.heap[k]? = some o := (hb.block k hk).trans h
theorem blk_alloc {w : World} {k : Nat} {o : Obj} (h : w.heap[k]? = some o) (o2 : Obj) : (w.alloc o2).heap[k]? = some o := (Below.heap_alloc _ _ _ (blk_lt h)).trans h

structure Al1 (w w' : World) (o0 : Obj) (B : Nat) : Prop where
  size : w'.heap.size = B + 1
  k0 : w'.heap[B]? = some o0
  below : Below B w w'
theorem al1 (w : World) (o0 : Obj) : Al1 w (w.alloc o0) o0 w.heap.size := ⟨by simp, heap_alloc_new w o0, (Below.refl _ _).alloc (Nat.le_refl _) _⟩
structure Al2 (w w' : World) (o0 o1 : Obj) (B : Nat) : Prop where
  size : w'.heap.size = B + 2
  k0 : w'.heap[B]? = some o0
  k1 : w'.heap[B + 1]? = some o1
  below : Below B w w'
theorem al2 (w : World) (o0 o1 : Obj) : Al2 w ((w.alloc o0).alloc o1) o0 o1 w.heap.size := by
  have h := al1 w o0
  have e := heap_alloc_new (w.alloc o0) o1
  rw [h.size] at e
  exact ⟨by simp, blk_alloc h.k0 _, e, h.below.alloc (by rw [h.size]; omega) _⟩
structure Al3 (w w' : World) (o0 o1 o2 : Obj) (B : Nat) : Prop where
  size : w'.heap.size = B + 3
  k0 : w'.heap[B]? = some o0
  k1 : w'.heap[B + 1]? = some o1
  k2 : w'.heap[B + 2]? = some o2
  below : Below B w w'
theorem al3 (w : World) (o0 o1 o2 : Obj) : Al3 w (((w.alloc o0).alloc o1).alloc o2) o0 o1 o2 w.heap.size := by
  have h := al2 w o0 o1
  have e := heap_alloc_new ((w.alloc o0).alloc o1) o2
  rw [h.size] at e
  exact ⟨by simp, blk_alloc h.k0 _, blk_alloc h.k1 _, e, h.below.alloc (by rw [h.size]; omega) _⟩
structure Al4 (w w' : World) (o0 o1 o2 o3 : Obj) (B : Nat) : Prop where
  size : w'.heap.size = B + 4
  k0 : w'.heap[B]? = some o0
  k1 : w'.heap[B + 1]? = some o1
  k2 : w'.heap[B + 2]? = some o2
  k3 : w'.heap[B + 3]? = some o3
  below : Below B w w'
theorem al4 (w : World) (o0 o1 o2 o3 : Obj) : Al4 w ((((w.alloc o0).alloc o1).alloc o2).alloc o3) o0 o1 o2 o3 w.heap.size := by
  have h := al3 w o0 o1 o2
  have e := heap_alloc_new (((w.alloc o0).alloc o1).alloc o2) o3
  rw [h.size] at e
  exact ⟨by simp, blk_alloc h.k0 _, blk_alloc h.k1 _, blk_alloc h.k2 _, e, h.below.alloc (by rw [h.size]; omega) _⟩
structure Al6 (w w' : World) (o0 o1 o2 o3 o4 o5 : Obj) (B : Nat) : Prop where
  size : w'.heap.size = B + 6
  k0 : w'.heap[B]? = some o0
  k1 : w'.heap[B + 1]? = some o1
  k2 : w'.heap[B + 2]? = some o2
  k3 : w'.heap[B + 3]? = some o3
  k4 : w'.heap[B + 4]? = some o4
  k5 : w'.heap[B + 5]? = some o5
  below : Below B w w'
theorem al6 (w : World) (o0 o1 o2 o3 o4 o5 : Obj) : Al6 w ((((((w.alloc o0).alloc o1).alloc o2).alloc o3).alloc o4).alloc o5) o0 o1 o2 o3 o4 o5 w.heap.size := by
  have h := al4 w o0 o1 o2 o3
  have h5 := heap_alloc_new ((((w.alloc o0).alloc o1).alloc o2).alloc o3) o4
  have h6 := heap_alloc_new (((((w.alloc o0).alloc o1).alloc o2).alloc o3).alloc o4) o5
  have s5 : (((((w.alloc o0).alloc o1).alloc o2).alloc o3).alloc o4).heap.size = w.heap.size + 5 := by simp
  rw [h.size] at h5
  rw [s5] at h6
  exact ⟨by simp, blk_alloc (blk_alloc h.k0 _) _, blk_alloc (blk_alloc h.k1 _) _, blk_alloc (blk_alloc h.k2 _) _, blk_alloc (blk_alloc h.k3 _) _, blk_alloc h5 _, h6, (h.below.alloc (by rw [h.size]; omega) _).alloc (by rw [s5]; omega) _⟩
end Go.Proofs.YtcicbafdacfbpaiGreatDoor
