/- Pictures in blocks: what the walks of the statements use. -/
import Derived.Test.YtpfobocdbmiagaaDoorRo0
import Derived.Test.YtpfobocdbmiagaaDoorRt8
namespace Go.Proofs.YtpfobocdbmiagaaDoor
open Go.RowKit

theorem turn_sides (k W H : Nat) : (tW k W H = W ∧ tW k H W = H) ∨ (tW k W H = H ∧ tW k H W = W) := by
  unfold tW
  by_cases h : k = 1 ∨ k = 3
  · right; simp [h]
  · left; simp [h]

theorem own_isPx (W H : Int) (a : Option Addr) (n c : Nat) (p : Nat → Px) (w : World) (hP : IsPx w a n p) (hn : n ≤ 100000) :
    Calls Tryd.prog 10 #[.agg #[.int .i64 W, .int .i64 H, .slice a n c]] w fun e w' => ∃ a2 c2, e = .returned (.agg #[.int .i64 W, .int .i64 H, .slice a2 n c2]) ∧ IsPx w' a2 n p ∧ Below w.heap.size w w' :=
  (own_any W H a n c p w hP hn).mono fun _ _ ⟨a2, c2, he, ho, hb⟩ => ⟨a2, c2, he, own_px ho (by unfold maxLen; omega), hb⟩

/-- A block of three cells is stored. -/
structure Put3 (w w' w0 : World) (k B : Nat) (x y z : Value) (t : TypeId) : Prop where
  size : w'.heap.size = w.heap.size
  blk : w'.heap[k]? = some (.cells #[x, y, z] t)
  rest : ∀ j, j ≠ k → w'.heap[j]? = w.heap[j]?
  below : Below B w0 w'
  px : ∀ a n (p : Nat → Px), IsPx w a n p → IsPx w' a n p
theorem set_cells {w : World} {k j : Nat} {cs : Array Value} {t : TypeId} (h : w.heap[k]? = some (.cells cs t)) (u : Value) : (w.setCell ⟨k, j, none⟩ u).heap[k]? = some (.cells (cs.setIfInBounds j u) t) := by
  simp [World.setCell, Array.getElem?_modify, h]
theorem isPx_block {w w' : World} {a : Option Addr} {n : Nat} {p : Nat → Px} (h : IsPx w a n p) (e : ∀ q, a = some q → 0 < n → w'.heap[q.block]? = w.heap[q.block]?) : IsPx w' a n p := by
  rcases h with h | ⟨b, off, ha, hl, h⟩
  · exact .inl h
  · exact .inr ⟨b, off, ha, hl, fun i hi => (h i hi).block (e _ ha (by omega))⟩
/-- Where a picture lies, no pixel does. -/
theorem px_not_pic {w : World} {k b off s1 s2 : Nat} {x y : Int} {s : Option Addr} {t : TypeId} {p : Px} (h : w.heap[k]? = some (.cells #[.int .i64 x, .int .i64 y, .slice s s1 s2] t)) (hp : PxAt w b off p) : b ≠ k := by
  rintro rfl
  have e := (blk_cell h off).symm.trans hp.r
  match off, e with
  | 0, e => simp at e
  | 1, e => simp at e
  | 2, e => simp at e
  | o + 3, e => simp at e
theorem put3 {w w0 : World} {k B s1 s2 : Nat} {a b : Int} {s : Option Addr} {t : TypeId} (h : w.heap[k]? = some (.cells #[.int .i64 a, .int .i64 b, .slice s s1 s2] t)) (x y z : Value) (hb : Below B w0 w) (hk : B ≤ k) :
    Put3 w (((w.setCell ⟨k, 0, none⟩ x).setCell ⟨k, 1, none⟩ y).setCell ⟨k, 2, none⟩ z) w0 k B x y z t := by
  have hr : ∀ j, j ≠ k → (((w.setCell ⟨k, 0, none⟩ x).setCell ⟨k, 1, none⟩ y).setCell ⟨k, 2, none⟩ z).heap[j]? = w.heap[j]? := fun j hj => by
    rw [Below.heap_setCell _ _ _ _ hj, Below.heap_setCell _ _ _ _ hj, Below.heap_setCell _ _ _ _ hj]
  exact ⟨by simp [World.setCell], set_cells (set_cells (set_cells h x) y) z, hr, ((hb.setCell (p := ⟨k, 0, none⟩) hk _).setCell (p := ⟨k, 1, none⟩) hk _).setCell (p := ⟨k, 2, none⟩) hk _, fun a n p hp => by
    rcases hp with hp | ⟨b, off, rfl, hm, hp⟩
    · exact .inl hp
    · exact .inr ⟨b, off, rfl, hm, fun i hi => (hp i hi).block (hr _ (px_not_pic h (hp i hi)))⟩⟩
/-- What several orders lead to, shown once, for any world and any block. -/
theorem once1 {G0 : Prop} {G : World → Nat → Option Addr → Nat → Prop} (F : World → Nat → Option Addr → Nat → Prop) (h : (∀ w b a c, F w b a c → G w b a c) → G0) (r : ∀ w b a c, F w b a c → G w b a c) : G0 := h r
theorem once2 {G0 : Prop} {G : World → Nat → Option Addr → Nat → Option Addr → Nat → Prop} (F : World → Nat → Option Addr → Nat → Option Addr → Nat → Prop) (h : (∀ w b a c a' c', F w b a c a' c' → G w b a c a' c') → G0) (r : ∀ w b a c a' c', F w b a c a' c' → G w b a c a' c') : G0 := h r
theorem bcell {w wx : World} {k o : Nat} {v : Value} (h : Below w.heap.size w wx) (hl : k < w.heap.size) (c : w.cell? ⟨k, o, none⟩ = some v) : wx.cell? ⟨k, o, none⟩ = some v := (h.cell (p := ⟨k, o, none⟩) hl).trans c
theorem bel_trans {w wx wy : World} (h : Below w.heap.size w wx) (hb : Below wx.heap.size wx wy) : Below w.heap.size w wy := h.trans (hb.mono h.size)
theorem set3_below {B k : Nat} {w0 w : World} (h : Below B w0 w) (hk : B ≤ k) (x y z : Value) : Below B w0 (((w.setCell ⟨k, 0, none⟩ x).setCell ⟨k, 1, none⟩ y).setCell ⟨k, 2, none⟩ z) :=
  ((h.setCell (p := ⟨k, 0, none⟩) hk _).setCell (p := ⟨k, 1, none⟩) hk _).setCell (p := ⟨k, 2, none⟩) hk _
theorem IsPx.allocP {w : World} {a : Option Addr} {n : Nat} {p : Nat → Px} (h : IsPx w a n p) (o : Obj) : IsPx (w.alloc o) a n p := h.below ((Below.refl _ _).alloc (Nat.le_refl _) _)
/-- A fresh block that stands behind calls is stored: what is known then. -/
theorem fin3 {w wx : World} {k s1 s2 : Nat} {a b : Int} {s : Option Addr} {t : TypeId} (h : wx.heap[k]? = some (.cells #[.int .i64 a, .int .i64 b, .slice s s1 s2] t)) (hb : Below w.heap.size w wx) (hk : w.heap.size ≤ k) (x y z : Value) :
    Put3 wx (((wx.setCell ⟨k, 0, none⟩ x).setCell ⟨k, 1, none⟩ y).setCell ⟨k, 2, none⟩ z) w k w.heap.size x y z t := put3 h x y z hb hk
end Go.Proofs.YtpfobocdbmiagaaDoor
