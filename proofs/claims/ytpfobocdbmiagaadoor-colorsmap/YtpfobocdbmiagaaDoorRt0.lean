/- Pictures, made pixel by pixel of what a function tells of each place: the program's. -/
import Derived.Test.YtpfobocdbmiagaaDoorPx1
import Derived.Test.YtpfobocdbmiagaaDoorQf
namespace Go.Proofs.YtpfobocdbmiagaaDoor
open Go.RowKit

/-- Cells of a picture of nothing, that may be written. -/
structure Z3 (w : World) (k : Nat) : Prop where
  c0 : w.cell? ⟨k, 0, none⟩ = some (.int .i64 0)
  c1 : w.cell? ⟨k, 1, none⟩ = some (.int .i64 0)
  c2 : w.cell? ⟨k, 2, none⟩ = some (.slice none 0 0)
  f0 : w.frozen? ⟨k, 0, none⟩ = false
  f1 : w.frozen? ⟨k, 1, none⟩ = false
  f2 : w.frozen? ⟨k, 2, none⟩ = false
theorem Z3.lt {w : World} {k : Nat} (h : Z3 w k) : k < w.heap.size := World.block_lt_of_cell? _ _ h.c0
theorem Z3.block {w w' : World} {k : Nat} (h : Z3 w k) (e : w'.heap[k]? = w.heap[k]?) : Z3 w' k :=
  ⟨(World.cell?_of_block (a := ⟨k, 0, none⟩) e).trans h.c0, (World.cell?_of_block (a := ⟨k, 1, none⟩) e).trans h.c1, (World.cell?_of_block (a := ⟨k, 2, none⟩) e).trans h.c2,
    (World.frozen?_of_block (a := ⟨k, 0, none⟩) e).trans h.f0, (World.frozen?_of_block (a := ⟨k, 1, none⟩) e).trans h.f1, (World.frozen?_of_block (a := ⟨k, 2, none⟩) e).trans h.f2⟩
theorem Z3.below {w w' : World} {k B : Nat} (h : Z3 w k) (hb : Below B w w') (hB : k < B) : Z3 w' k := h.block (hb.block k hB)
def z3Obj : Obj := .cells #[.int .i64 0, .int .i64 0, .slice none 0 0] 24
theorem z3_new (w : World) : Z3 (w.alloc z3Obj) w.heap.size := by
  unfold z3Obj
  exact ⟨by simp, by simp, by simp, by simp, by simp, by simp⟩

/-- Pixels that lie in a block from B on. -/
structure IsPxN (B : Nat) (w : World) (a : Option Addr) (n : Nat) (p : Nat → Px) : Prop where
  is : IsPx w a n p
  new : ∀ q, a = some q → B ≤ q.block
theorem IsPxN.far {B k j n : Nat} {w : World} {a : Option Addr} {p : Nat → Px} (h : IsPxN B w a n p) (hk : k < B) (u : Value) : IsPxN B (w.setCell ⟨k, j, none⟩ u) a n p := by
  refine ⟨?_, h.new⟩
  rcases h.is with h0 | ⟨b, off, rfl, hm, hc⟩
  · exact .inl h0
  · have hb : k ≠ b := by have : B ≤ b := h.new _ rfl; omega
    exact .inr ⟨b, off, rfl, hm, fun i hi => ⟨(World.cell?_setCell_far _ _ _ _ hb).trans (hc i hi).r, (World.cell?_setCell_far _ _ _ _ hb).trans (hc i hi).g, (World.cell?_setCell_far _ _ _ _ hb).trans (hc i hi).b, (World.cell?_setCell_far _ _ _ _ hb).trans (hc i hi).a⟩⟩
theorem own_pxN {w : World} {base n cap : Nat} {a : Option Addr} {p : Nat → Px} (h : w.ownsRow base 40 4 (.slice a n cap) n (pxVals p n)) (hn : n ≤ maxLen) : IsPxN base w a n p :=
  ⟨own_px h hn, fun q e => (h.lt q.block (by rw [e]; rfl)).1⟩

theorem make_px (n : Nat) (hn : n ≤ 100000) (w : World) : (Instr.makeSlice 22 (.int .i64 0) (.int .i64 (n : Int))).run Tryd.prog w = .ok (.slice (some ⟨w.heap.size, 0, none⟩) 0 n) (w.alloc (.cells (madeCells #[.int .u8 0, .int .u8 0, .int .u8 0, .int .u8 0] (n * 4)) 40)) := by
  obtain ⟨i0, hi, hz0, hz1, hz2⟩ := info_parts px_info
  have hr := run_make (P := Tryd.prog) w 22 40 i0 (.agg #[.int .u8 0, .int .u8 0, .int .u8 0, .int .u8 0]) Tryd.underlying22 hi hz0 .i64 .i64 0 n (by omega) (by omega) (by rw [hz2]; omega) (by omega)
  simp only [Int.toNat_natCast, Int.toNat_zero, hz1] at hr
  exact hr

/-- A row of pixels, told place by place. -/
def grid (W : Nat) (P : Nat → Nat → Px) (i : Nat) : Px := P (i % W) (i / W)
theorem grid_at (W : Nat) (P : Nat → Nat → Px) (x y : Nat) (hx : x < W) : grid W P (y * W + x) = P x y := by
  unfold grid
  rw [Nat.add_comm, Nat.add_mul_mod_self_right, Nat.mod_eq_of_lt hx, Nat.add_mul_div_right _ _ (by omega), Nat.div_eq_of_lt hx, Nat.zero_add]
theorem px_cells_lie (w : World) (p : Px) : ∀ j u, p.cells[j]? = some u → (w.alloc (.cells #[.int .u8 (p.r.toNat : Int), .int .u8 (p.g.toNat : Int), .int .u8 (p.b.toNat : Int), .int .u8 (p.a.toNat : Int)] 40)).cell? ((⟨w.heap.size, 0, none⟩ : Addr).add j) = some u :=
  World.news_of_block (heap_alloc_new w _)

theorem own_belowP {w w' : World} {base size n : Nat} {e : TypeId} {v : Value} {xs : List Value} (h : w.ownsRow base e size v n xs) (hb : Below w.heap.size w w') : w'.ownsRow base e size v n xs :=
  h.kept (row := none) ⟨hb.os, hb.tape, hb.output, hb.size, fun k hk _ => hb.block k hk⟩ (by rcases v.ownBlock with _ | q <;> simp)
theorem own_farP {w : World} {B size n j : Nat} {e : TypeId} {v u : Value} {xs : List Value} (h : w.ownsRow (B + 1) e size v n xs) : (w.setCell ⟨B, j, none⟩ u).ownsRow (B + 1) e size v n xs :=
  h.kept (row := some B) ((But.refl (· = B) w).setCell rfl u).grownBy (.inr (fun q => by have := (h.lt B q).1; omega))
theorem px_cells_one (p : Px) : ∀ u ∈ p.cells, u.oneCell' = true := fun u h => by
  simp only [Px.cells, List.mem_cons, List.not_mem_nil, or_false] at h
  rcases h with rfl | rfl | rfl | rfl <;> rfl

end Go.Proofs.YtpfobocdbmiagaaDoor
