/- How far two colors are apart: the program's and the document's. Blocks that are known whole. -/
import Derived.Test.YtpfobocdbmiagaaDoorMg3
import Derived.Test.YtpfobocdbmiagaaDoorMg4
import Derived.Sort.AtCall
namespace Go.Proofs.YtpfobocdbmiagaaDoor
open Go.RowKit

theorem psquared_any (a b : UInt8) (w : World) :
    Calls Tryd.prog 63 #[.int .u8 (a.toNat : Int), .int .u8 (b.toNat : Int)] w fun e w' => e = .returned (.int .i64 (sqB a b : Int)) ∧ w' = w := by
  have h1 := a.toNat_lt
  have h2 := b.toNat_lt
  have hs := sqB_int a b
  have hl := sqB_le a b
  generalize sqB a b = s at *
  generalize a.toNat = x at *
  generalize b.toNat = y at *
  have hw : IntKind.i64.wrap (((x : Int) - (y : Int)) * ((x : Int) - (y : Int))) = (s : Int) := by rw [← hs, IntKind.wrap_i64]; omega
  clear hs
  go_enter Tryd.func63, Tryd.ntmps63
  go_wp2
  go_ret
  exact ⟨by first | rfl | rw [hw], rfl⟩

set_option maxHeartbeats 600000 in
set_option maxRecDepth 100000 in
theorem papart_any (x y : Px) (w : World) :
    Calls Tryd.prog 57 #[x.val, y.val] w fun e w' => e = .returned (.int .i64 (farP x y : Int)) ∧ Below w.heap.size w w' := by
  have hb : Below w.heap.size w ((w.alloc (.cells #[.int .u8 (x.r.toNat : Int), .int .u8 (x.g.toNat : Int), .int .u8 (x.b.toNat : Int), .int .u8 (x.a.toNat : Int)] 40)).alloc (.cells #[.int .u8 (y.r.toNat : Int), .int .u8 (y.g.toNat : Int), .int .u8 (y.b.toNat : Int), .int .u8 (y.a.toNat : Int)] 40)) := ((Below.refl _ _).alloc (Nat.le_refl _) _).alloc (by simp) _
  have h1 := sqB_le x.r y.r
  have h2 := sqB_le x.g y.g
  have h3 := sqB_le x.b y.b
  have h4 := sqB_le x.a y.a
  have HB := hide hb
  have hf : (farP x y : Int) = (sqB x.r y.r : Int) + (sqB x.g y.g : Int) + (sqB x.b y.b : Int) + (sqB x.a y.a : Int) := by unfold farP; omega
  have HF := hide hf
  have C1 := hide (psquared_any x.r y.r)
  have C2 := hide (psquared_any x.g y.g)
  have C3 := hide (psquared_any x.b y.b)
  have C4 := hide (psquared_any x.a y.a)
  unfold Px.val
  generalize sqB x.r y.r = s1 at *
  generalize sqB x.g y.g = s2 at *
  generalize sqB x.b y.b = s3 at *
  generalize sqB x.a y.a = s4 at *
  clear hf hb
  generalize x.r.toNat = r1 at *
  generalize x.g.toNat = g1 at *
  generalize x.b.toNat = b1 at *
  generalize x.a.toNat = a1 at *
  generalize y.r.toNat = r2 at *
  generalize y.g.toNat = g2 at *
  generalize y.b.toNat = b2 at *
  generalize y.a.toNat = a2 at *
  go_enter Tryd.func57, Tryd.ntmps57
  go_wp2
  go_quiet (first | (go_at_call_of 63 r1; with_reducible exact Calls.quiet_of_same (unhide C1 _)) | (go_at_call_of 63 g1; with_reducible exact Calls.quiet_of_same (unhide C2 _)) | (go_at_call_of 63 b1; with_reducible exact Calls.quiet_of_same (unhide C3 _)) | (go_at_call_of 63 a1; with_reducible exact Calls.quiet_of_same (unhide C4 _)))
  go_wp2
  go_ret
  exact ⟨by rw [unhide HF]; rfl, below_drewN (unhide HB) _⟩

theorem dsquared_any (a b : UInt8) (w : World) :
    Calls Tryd.prog 46 #[.int .u8 (a.toNat : Int), .int .u8 (b.toNat : Int)] w fun e w' => e = .returned (.int .i64 (sqB a b : Int)) ∧ w' = w := by
  have h1 := a.toNat_lt
  have h2 := b.toNat_lt
  have hs := sqB_int a b
  have hl := sqB_le a b
  generalize sqB a b = s at *
  generalize a.toNat = x at *
  generalize b.toNat = y at *
  have hw : IntKind.i64.wrap (((x : Int) - (y : Int)) * ((x : Int) - (y : Int))) = (s : Int) := by rw [← hs, IntKind.wrap_i64]; omega
  clear hs
  go_enter Tryd.func46, Tryd.ntmps46
  go_wp2
  go_ret
  exact ⟨by first | rfl | rw [hw], rfl⟩

set_option maxHeartbeats 600000 in
set_option maxRecDepth 100000 in
theorem dapart_any (x y : Px) (w : World) :
    Calls Tryd.prog 35 #[x.val, y.val] w fun e w' => e = .returned (.int .i64 (farP x y : Int)) ∧ Below w.heap.size w w' := by
  have hb : Below w.heap.size w ((w.alloc (.cells #[.int .u8 (x.r.toNat : Int), .int .u8 (x.g.toNat : Int), .int .u8 (x.b.toNat : Int), .int .u8 (x.a.toNat : Int)] 40)).alloc (.cells #[.int .u8 (y.r.toNat : Int), .int .u8 (y.g.toNat : Int), .int .u8 (y.b.toNat : Int), .int .u8 (y.a.toNat : Int)] 40)) := ((Below.refl _ _).alloc (Nat.le_refl _) _).alloc (by simp) _
  have h1 := sqB_le x.r y.r
  have h2 := sqB_le x.g y.g
  have h3 := sqB_le x.b y.b
  have h4 := sqB_le x.a y.a
  have HB := hide hb
  have hf : (farP x y : Int) = (sqB x.r y.r : Int) + (sqB x.g y.g : Int) + (sqB x.b y.b : Int) + (sqB x.a y.a : Int) := by unfold farP; omega
  have HF := hide hf
  have C1 := hide (dsquared_any x.r y.r)
  have C2 := hide (dsquared_any x.g y.g)
  have C3 := hide (dsquared_any x.b y.b)
  have C4 := hide (dsquared_any x.a y.a)
  unfold Px.val
  generalize sqB x.r y.r = s1 at *
  generalize sqB x.g y.g = s2 at *
  generalize sqB x.b y.b = s3 at *
  generalize sqB x.a y.a = s4 at *
  clear hf hb
  generalize x.r.toNat = r1 at *
  generalize x.g.toNat = g1 at *
  generalize x.b.toNat = b1 at *
  generalize x.a.toNat = a1 at *
  generalize y.r.toNat = r2 at *
  generalize y.g.toNat = g2 at *
  generalize y.b.toNat = b2 at *
  generalize y.a.toNat = a2 at *
  go_enter Tryd.func35, Tryd.ntmps35
  go_wp2
  go_quiet (first | (go_at_call_of 46 r1; with_reducible exact Calls.quiet_of_same (unhide C1 _)) | (go_at_call_of 46 g1; with_reducible exact Calls.quiet_of_same (unhide C2 _)) | (go_at_call_of 46 b1; with_reducible exact Calls.quiet_of_same (unhide C3 _)) | (go_at_call_of 46 a1; with_reducible exact Calls.quiet_of_same (unhide C4 _)))
  go_wp2
  go_ret
  exact ⟨by rw [unhide HF]; rfl, below_drewN (unhide HB) _⟩
end Go.Proofs.YtpfobocdbmiagaaDoor
namespace Go.Proofs.YtpfobocdbmiagaaDoor
open Go.RowKit

theorem blk_cell {w : World} {k : Nat} {cs : Array Value} {t : TypeId} (h : w.heap[k]? = some (.cells cs t)) (j : Nat) : w.cell? ⟨k, j, none⟩ = cs[j]? := by simp [World.cell?, h]
theorem blk_frozen {w : World} {k : Nat} {cs : Array Value} {t : TypeId} (h : w.heap[k]? = some (.cells cs t)) (j : Nat) : w.frozen? ⟨k, j, none⟩ = false := by simp [World.frozen?, h]
theorem blk_lt {w : World} {k : Nat} {o : Obj} (h : w.heap[k]? = some o) : k < w.heap.size := by
  rcases Nat.lt_or_ge k w.heap.size with q | q
  · exact q
  · rw [Array.getElem?_eq_none q] at h; cases h
theorem blk_below {w w' : World} {k B : Nat} {o : Obj} (h : w.heap[k]? = some o) (hb : Below B w w') (hk : k < B) : w'.heap[k]? = some o := (hb.block k hk).trans h
theorem blk_alloc {w : World} {k : Nat} {o : Obj} (h : w.heap[k]? = some o) (o2 : Obj) : (w.alloc o2).heap[k]? = some o := (Below.heap_alloc _ _ _ (blk_lt h)).trans h

structure Al1 (w w' : World) (o0 : Obj) (B : Nat) : Prop where
  size : w'.heap.size = B + 1
  k0 : w'.heap[B]? = some o0
  below : Below B w w'
theorem al1 (w : World) (o0 : Obj) : Al1 w (w.alloc o0) o0 w.heap.size := ⟨by simp, heap_alloc_new w o0, (Below.refl _ _).alloc (Nat.le_refl _) _⟩
structure Al2 (w w' : World) (o0 o1 : Obj) (B : Nat) : Prop where
  size : w'.heap.size = B + 2
  k0 : w'.heap[B]? = some o0
  k1 : w'.heap[B + 1]? = some o1
  below : Below B w w'
theorem al2 (w : World) (o0 o1 : Obj) : Al2 w ((w.alloc o0).alloc o1) o0 o1 w.heap.size := by
  have h := al1 w o0
  have e := heap_alloc_new (w.alloc o0) o1
  rw [h.size] at e
  exact ⟨by simp, blk_alloc h.k0 _, e, h.below.alloc (by rw [h.size]; omega) _⟩
structure Al3 (w w' : World) (o0 o1 o2 : Obj) (B : Nat) : Prop where
  size : w'.heap.size = B + 3
  k0 : w'.heap[B]? = some o0
  k1 : w'.heap[B + 1]? = some o1
  k2 : w'.heap[B + 2]? = some o2
  below : Below B w w'
theorem al3 (w : World) (o0 o1 o2 : Obj) : Al3 w (((w.alloc o0).alloc o1).alloc o2) o0 o1 o2 w.heap.size := by
  have h := al2 w o0 o1
  have e := heap_alloc_new ((w.alloc o0).alloc o1) o2
  rw [h.size] at e
  exact ⟨by simp, blk_alloc h.k0 _, blk_alloc h.k1 _, e, h.below.alloc (by rw [h.size]; omega) _⟩
structure Al4 (w w' : World) (o0 o1 o2 o3 : Obj) (B : Nat) : Prop where
  size : w'.heap.size = B + 4
  k0 : w'.heap[B]? = some o0
  k1 : w'.heap[B + 1]? = some o1
  k2 : w'.heap[B + 2]? = some o2
  k3 : w'.heap[B + 3]? = some o3
  below : Below B w w'
theorem al4 (w : World) (o0 o1 o2 o3 : Obj) : Al4 w ((((w.alloc o0).alloc o1).alloc o2).alloc o3) o0 o1 o2 o3 w.heap.size := by
  have h := al3 w o0 o1 o2
  have e := heap_alloc_new (((w.alloc o0).alloc o1).alloc o2) o3
  rw [h.size] at e
  exact ⟨by simp, blk_alloc h.k0 _, blk_alloc h.k1 _, blk_alloc h.k2 _, e, h.below.alloc (by rw [h.size]; omega) _⟩
structure Al6 (w w' : World) (o0 o1 o2 o3 o4 o5 : Obj) (B : Nat) : Prop where
  size : w'.heap.size = B + 6
  k0 : w'.heap[B]? = some o0
  k1 : w'.heap[B + 1]? = some o1
  k2 : w'.heap[B + 2]? = some o2
  k3 : w'.heap[B + 3]? = some o3
  k4 : w'.heap[B + 4]? = some o4
  k5 : w'.heap[B + 5]? = some o5
  below : Below B w w'
theorem al6 (w : World) (o0 o1 o2 o3 o4 o5 : Obj) : Al6 w ((((((w.alloc o0).alloc o1).alloc o2).alloc o3).alloc o4).alloc o5) o0 o1 o2 o3 o4 o5 w.heap.size := by
  have h := al4 w o0 o1 o2 o3
  have h5 := heap_alloc_new ((((w.alloc o0).alloc o1).alloc o2).alloc o3) o4
  have h6 := heap_alloc_new (((((w.alloc o0).alloc o1).alloc o2).alloc o3).alloc o4) o5
  have s5 : (((((w.alloc o0).alloc o1).alloc o2).alloc o3).alloc o4).heap.size = w.heap.size + 5 := by simp
  rw [h.size] at h5
  rw [s5] at h6
  exact ⟨by simp, blk_alloc (blk_alloc h.k0 _) _, blk_alloc (blk_alloc h.k1 _) _, blk_alloc (blk_alloc h.k2 _) _, blk_alloc (blk_alloc h.k3 _) _, blk_alloc h5 _, h6, (h.below.alloc (by rw [h.size]; omega) _).alloc (by rw [s5]; omega) _⟩
end Go.Proofs.YtpfobocdbmiagaaDoor
