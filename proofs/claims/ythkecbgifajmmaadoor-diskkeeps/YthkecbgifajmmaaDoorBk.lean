/- Blocks that are known whole. -/
import Derived.Test.YthkecbgifajmmaaDoorBu
import Derived.Test.YthkecbgifajmmaaDoorQB
namespace Go.Proofs.YthkecbgifajmmaaDoor
open Go.RowKit

theorem blk_cell {w : World} {k : Nat} {cs : Array Value} {t : TypeId} (h : w.heap[k]? = some (.cells cs t)) (j : Nat) : w.cell? ⟨k, j, none⟩ = cs[j]? := by simp [World.cell?, h]
theorem blk_frozen {w : World} {k : Nat} {cs : Array Value} {t : TypeId} (h : w.heap[k]? = some (.cells cs t)) (j : Nat) : w.frozen? ⟨k, j, none⟩ = false := by simp [World.frozen?, h]
theorem blk_lt {w : World} {k : Nat} {o : Obj} (h : w.heap[k]? = some o) : k < w.heap.size := by
  rcases Nat.lt_or_ge k w.heap.size with q | q
  · exact q
  · rw [Array.getElem?_eq_none q] at h; cases h
theorem blk_below {w w' : World} {k B : Nat} {o : Obj} (h : w.heap[k]? = some o) (hb : Below B w w') (hk : k < B) : w'.heap[k]? = some o := (hb.block k hk).trans h
theorem blk_alloc {w : World} {k : Nat} {o : Obj} (h : w.heap[k]? = some o) (o2 : Obj) : (w.alloc o2).heap[k]? = some o := (Below.heap_alloc _ _ _ (blk_lt h)).trans h

structure Al1 (w w' : World) (o0 : Obj) (B : Nat) : Prop where
  size : w'.heap.size = B + 1
  k0 : w'.heap[B]? = some o0
  below : Below B w w'
theorem al1 (w : World) (o0 : Obj) : Al1 w (w.alloc o0) o0 w.heap.size := ⟨by simp, heap_alloc_new w o0, (Below.refl _ _).alloc (Nat.le_refl _) _⟩
structure Al2 (w w' : World) (o0 o1 : Obj) (B : Nat) : Prop where
  size : w'.heap.size = B + 2
  k0 : w'.heap[B]? = some o0
  k1 : w'.heap[B + 1]? = some o1
  below : Below B w w'
theorem al2 (w : World) (o0 o1 : Obj) : Al2 w ((w.alloc o0).alloc o1) o0 o1 w.heap.size := by
  have h := al1 w o0
  have e := heap_alloc_new (w.alloc o0) o1
  rw [h.size] at e
  exact ⟨by simp, blk_alloc h.k0 _, e, h.below.alloc (by rw [h.size]; omega) _⟩
structure Al3 (w w' : World) (o0 o1 o2 : Obj) (B : Nat) : Prop where
  size : w'.heap.size = B + 3
  k0 : w'.heap[B]? = some o0
  k1 : w'.heap[B + 1]? = some o1
  k2 : w'.heap[B + 2]? = some o2
  below : Below B w w'
theorem al3 (w : World) (o0 o1 o2 : Obj) : Al3 w (((w.alloc o0).alloc o1).alloc o2) o0 o1 o2 w.heap.size := by
  have h := al2 w o0 o1
  have e := heap_alloc_new ((w.alloc o0).alloc o1) o2
  rw [h.size] at e
  exact ⟨by simp, blk_alloc h.k0 _, blk_alloc h.k1 _, e, h.below.alloc (by rw [h.size]; omega) _⟩
structure Al4 (w w' : World) (o0 o1 o2 o3 : Obj) (B : Nat) : Prop where
  size : w'.heap.size = B + 4
  k0 : w'.heap[B]? = some o0
  k1 : w'.heap[B + 1]? = some o1
  k2 : w'.heap[B + 2]? = some o2
  k3 : w'.heap[B + 3]? = some o3
  below : Below B w w'
theorem al4 (w : World) (o0 o1 o2 o3 : Obj) : Al4 w ((((w.alloc o0).alloc o1).alloc o2).alloc o3) o0 o1 o2 o3 w.heap.size := by
  have h := al3 w o0 o1 o2
  have e := heap_alloc_new (((w.alloc o0).alloc o1).alloc o2) o3
  rw [h.size] at e
  exact ⟨by simp, blk_alloc h.k0 _, blk_alloc h.k1 _, blk_alloc h.k2 _, e, h.below.alloc (by rw [h.size]; omega) _⟩
structure Al6 (w w' : World) (o0 o1 o2 o3 o4 o5 : Obj) (B : Nat) : Prop where
  size : w'.heap.size = B + 6
  k0 : w'.heap[B]? = some o0
  k1 : w'.heap[B + 1]? = some o1
  k2 : w'.heap[B + 2]? = some o2
  k3 : w'.heap[B + 3]? = some o3
  k4 : w'.heap[B + 4]? = some o4
  k5 : w'.heap[B + 5]? = some o5
  below : Below B w w'
theorem al6 (w : World) (o0 o1 o2 o3 o4 o5 : Obj) : Al6 w ((((((w.alloc o0).alloc o1).alloc o2).alloc o3).alloc o4).alloc o5) o0 o1 o2 o3 o4 o5 w.heap.size := by
  have h := al4 w o0 o1 o2 o3
  have h5 := heap_alloc_new ((((w.alloc o0).alloc o1).alloc o2).alloc o3) o4
  have h6 := heap_alloc_new (((((w.alloc o0).alloc o1).alloc o2).alloc o3).alloc o4) o5
  have s5 : (((((w.alloc o0).alloc o1).alloc o2).alloc o3).alloc o4).heap.size = w.heap.size + 5 := by simp
  rw [h.size] at h5
  rw [s5] at h6
  exact ⟨by simp, blk_alloc (blk_alloc h.k0 _) _, blk_alloc (blk_alloc h.k1 _) _, blk_alloc (blk_alloc h.k2 _) _, blk_alloc (blk_alloc h.k3 _) _, blk_alloc h5 _, h6, (h.below.alloc (by rw [h.size]; omega) _).alloc (by rw [s5]; omega) _⟩
end Go.Proofs.YthkecbgifajmmaaDoor
