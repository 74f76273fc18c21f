/- Grids of tiles in memory; how one grows, tile by tile. -/
import Derived.Test.YtcicbafdacfbpaiGreatDoorTi2
namespace Go.Proofs.YtcicbafdacfbpaiGreatDoor
open Go.RowKit

/-- Tiles side by side. -/
def tc (W : Nat) : Nat := (W + 15) / 16
/-- How many tiles. -/
def tn (W H : Nat) : Nat := tc W * tc H
def tx (W k : Nat) : Nat := 16 * (k % tc W)
def ty (W k : Nat) : Nat := 16 * (k / tc W)
def tw (W k : Nat) : Nat := min 16 (W - tx W k)
def th (W H k : Nat) : Nat := min 16 (H - ty W k)

/-- The cells of a tile. -/
def tileC (W H k : Nat) (s : Value) : List Value := [.int .i64 (tx W k : Int), .int .i64 (ty W k : Int), .int .i64 (tw W k : Int), .int .i64 (th W H k : Int), s]
/-- The cells of the first tiles. -/
def tileVals (W H : Nat) (S : Nat → Value) : Nat → List Value
  | 0 => []
  | k + 1 => tileVals W H S k ++ tileC W H k (S k)
theorem tileVals_length (W H : Nat) (S : Nat → Value) (n : Nat) : (tileVals W H S n).length = n * 5 := by
  induction n with
  | zero => rfl
  | succ n ih => simp [tileVals, ih, tileC]; omega
theorem tileVals_at (W H : Nat) (S : Nat → Value) (n i j : Nat) (h : i < n) (hj : j < 5) : (tileVals W H S n)[i * 5 + j]? = (tileC W H i (S i))[j]? := by
  induction n with
  | zero => omega
  | succ n ih =>
    have hl := tileVals_length W H S n
    unfold tileVals
    by_cases e : i = n
    · subst e
      rw [List.getElem?_append_right (by omega), show i * 5 + j - (tileVals W H S i).length = j by omega]
    · rw [List.getElem?_append_left (by omega)]
      exact ih (by omega)
theorem tileVals_congr {W H : Nat} {S T : Nat → Value} (n : Nat) (h : ∀ i, i < n → S i = T i) : tileVals W H S n = tileVals W H T n := by
  induction n with
  | zero => rfl
  | succ n ih => unfold tileVals; rw [ih (fun i hi => h i (by omega)), h n (by omega)]
theorem tile_info : (Tryz.prog.info? 76).map (fun i => (i.zero, i.size, i.bytes)) = some (some (.agg #[.int .i64 0, .int .i64 0, .int .i64 0, .int .i64 0, .slice none 0 0]), 5, 56) := by kernel_rfl

theorem IsPx.blocks {w w' : World} {a : Option Addr} {n : Nat} {p : Nat → Px} (h : IsPx w a n p) (hb : ∀ x, a = some x → w'.heap[x.block]? = w.heap[x.block]?) : IsPx w' a n p := by
  rcases h with h | ⟨b, off, rfl, hl, h⟩
  · exact .inl h
  · have e := hb _ rfl
    exact .inr ⟨b, off, rfl, hl, fun i hi => ⟨(World.cell?_of_block (a := ⟨b, off + i * 4, none⟩) e).trans (h i hi).r, (World.cell?_of_block (a := ⟨b, off + i * 4 + 1, none⟩) e).trans (h i hi).g, (World.cell?_of_block (a := ⟨b, off + i * 4 + 2, none⟩) e).trans (h i hi).b, (World.cell?_of_block (a := ⟨b, off + i * 4 + 3, none⟩) e).trans (h i hi).a⟩⟩

/-- A tile in memory. -/
def TileAt (w : World) (t k X Y W H m : Nat) (q : Nat → Px) : Prop :=
  ∃ a c, w.cell? ⟨t, k * 5, none⟩ = some (.int .i64 (X : Int)) ∧ w.cell? ⟨t, k * 5 + 1, none⟩ = some (.int .i64 (Y : Int)) ∧ w.cell? ⟨t, k * 5 + 2, none⟩ = some (.int .i64 (W : Int)) ∧ w.cell? ⟨t, k * 5 + 3, none⟩ = some (.int .i64 (H : Int)) ∧ w.cell? ⟨t, k * 5 + 4, none⟩ = some (.slice a m c) ∧ IsPx w a m q
theorem TileAt.below {w w' : World} {t k X Y W H m : Nat} {q : Nat → Px} (h : TileAt w t k X Y W H m q) (hb : Below w.heap.size w w') : TileAt w' t k X Y W H m q := by
  obtain ⟨a, c, h0, h1, h2, h3, h4, h5⟩ := h
  have hl : t < w.heap.size := World.block_lt_of_cell? _ _ h0
  exact ⟨a, c, (hb.cell (p := ⟨t, _, none⟩) hl).trans h0, (hb.cell (p := ⟨t, _, none⟩) hl).trans h1, (hb.cell (p := ⟨t, _, none⟩) hl).trans h2, (hb.cell (p := ⟨t, _, none⟩) hl).trans h3, (hb.cell (p := ⟨t, _, none⟩) hl).trans h4, h5.below hb⟩
/-- A grid in memory: the k-th tile has m k pixels, q k. -/
def GridAt (w : World) (g W H : Nat) (m : Nat → Nat) (q : Nat → Nat → Px) : Prop :=
  ∃ t c, w.heap[g]? = some (.cells #[.int .i64 (W : Int), .int .i64 (H : Int), .slice (some ⟨t, 0, none⟩) (tn W H) c] 84) ∧ tn W H ≤ c ∧ c ≤ maxLen ∧ ∀ k, k < tn W H → TileAt w t k (tx W k) (ty W k) (tw W k) (th W H k) (m k) (q k)
theorem GridAt.below {w w' : World} {g W H : Nat} {m : Nat → Nat} {q : Nat → Nat → Px} (h : GridAt w g W H m q) (hb : Below w.heap.size w w') : GridAt w' g W H m q := by
  obtain ⟨t, c, h0, h1, h2, h3⟩ := h
  exact ⟨t, c, blk_below h0 hb (blk_lt h0), h1, h2, fun k hk => (h3 k hk).below hb⟩

theorem tset_cells {w : World} {k j : Nat} {cs : Array Value} {t : TypeId} (h : w.heap[k]? = some (.cells cs t)) (u : Value) : (w.setCell ⟨k, j, none⟩ u).heap[k]? = some (.cells (cs.setIfInBounds j u) t) := by
  simp [World.setCell, Array.getElem?_modify, h]
/-- A grid that grows: it has k tiles. -/
structure GrowG (w : World) (B W H k : Nat) (m : Nat → Nat) (q : Nat → Nat → Px) (va : Option Addr) (vc : Nat) (S : Nat → Value) : Prop where
  grid : w.heap[B + 1]? = some (.cells #[.int .i64 (W : Int), .int .i64 (H : Int), .slice va k vc] 84)
  own : w.ownsRow B 76 5 (.slice va k vc) k (tileVals W H S k)
  ne : (Value.slice va k vc).ownBlock ≠ some (B + 1)
  px : ∀ j, j < k → ∃ a c, S j = .slice a (m j) c ∧ IsPx w a (m j) (q j) ∧ 0 < m j ∧ ∀ x, a = some x → x.block ≠ B + 1 ∧ (Value.slice va k vc).ownBlock ≠ some x.block
theorem GrowG.below {w w' : World} {B W H k : Nat} {m : Nat → Nat} {q : Nat → Nat → Px} {va : Option Addr} {vc : Nat} {S : Nat → Value} (h : GrowG w B W H k m q va vc S) (hb : Below w.heap.size w w') : GrowG w' B W H k m q va vc S :=
  ⟨blk_below h.grid hb (blk_lt h.grid), own_belowP h.own hb, h.ne, fun j hj => by
    obtain ⟨a, c, h1, h2, h3, h4⟩ := h.px j hj
    exact ⟨a, c, h1, h2.below hb, h3, h4⟩⟩
theorem GrowG.step {w w3 : World} {B W H k : Nat} {m : Nat → Nat} {q : Nat → Nat → Px} {va : Option Addr} {vc : Nat} {S : Nat → Value} (h : GrowG w B W H k m q va vc S) {a : Option Addr} {c g cap : Nat}
    (hp : IsPx w a (m k) (q k)) (hm : 0 < m k) (hne : ∀ x, a = some x → x.block ≠ B + 1 ∧ (Value.slice va k vc).ownBlock ≠ some x.block)
    (hown : w3.ownsRow B 76 5 (.slice (some ⟨g, 0, none⟩) (k + 1) cap) (k + 1) (tileVals W H S k ++ tileC W H k (.slice a (m k) c)))
    (hgr : w.grownBy w3 (Value.slice va k vc).ownBlock) (hat : (Value.slice va k vc).ownBlock = some g ∨ g = w.heap.size) :
    GrowG (w3.setCell ⟨B + 1, 2, none⟩ (.slice (some ⟨g, 0, none⟩) (k + 1) cap)) B W H (k + 1) m q (some ⟨g, 0, none⟩) cap (fun j => if j = k then .slice a (m k) c else S j) := by
  have hl := blk_lt h.grid
  have hg1 : g ≠ B + 1 := by
    rcases hat with e | e
    · intro e2; rw [e2] at e; exact h.ne e
    · omega
  have hk1 : w3.heap[B + 1]? = some (.cells #[.int .i64 (W : Int), .int .i64 (H : Int), .slice va k vc] 84) := (hgr.block _ hl (fun e => h.ne e.symm)).trans h.grid
  have hbt := (But.refl (· = B + 1) w3).setCell (p := ⟨B + 1, 2, none⟩) rfl (.slice (some ⟨g, 0, none⟩) (k + 1) cap)
  have keep : ∀ x : Addr, x.block < w.heap.size → x.block ≠ B + 1 → (Value.slice va k vc).ownBlock ≠ some x.block → (w3.setCell ⟨B + 1, 2, none⟩ (.slice (some ⟨g, 0, none⟩) (k + 1) cap)).heap[x.block]? = w.heap[x.block]? := fun x h1 h2 h3 =>
    (hbt.grownBy.block x.block (by have := hgr.size; omega) (fun e => h2 (by injection e))).trans (hgr.block _ h1 (fun e => h3 e.symm))
  refine ⟨?_, ?_, ?_, fun j hj => ?_⟩
  · exact tset_cells hk1 _
  · have := hown.kept (row := some (B + 1)) hbt.grownBy (.inr (fun e => hg1 (by simpa [Value.ownBlock] using e)))
    have e : tileVals W H (fun j => if j = k then .slice a (m k) c else S j) (k + 1) = tileVals W H S k ++ tileC W H k (.slice a (m k) c) := by
      show tileVals W H (fun j => if j = k then .slice a (m k) c else S j) k ++ tileC W H k (if k = k then .slice a (m k) c else S k) = _
      rw [tileVals_congr (T := S) k (fun i hi => if_neg (by omega)), if_pos rfl]
    rw [e]
    exact this
  · intro e; exact hg1 (by simpa [Value.ownBlock] using e)
  · have hsep : ∀ x : Addr, x.block < w.heap.size → (Value.slice va k vc).ownBlock ≠ some x.block → (Value.slice (some ⟨g, 0, none⟩) (k + 1) cap).ownBlock ≠ some x.block := fun x h1 h2 e => by
      have e' : g = x.block := by simpa [Value.ownBlock] using e
      rcases hat with q | q
      · exact h2 (by rw [q, e'])
      · omega
    by_cases e : j = k
    · subst e
      exact ⟨a, c, if_pos rfl, hp.blocks (fun x hx => keep x (hp.lt x hx hm) (hne x hx).1 (hne x hx).2), hm, fun x hx => ⟨(hne x hx).1, hsep x (hp.lt x hx hm) (hne x hx).2⟩⟩
    · obtain ⟨a', c', h1, h2, h3, h4⟩ := h.px j (by omega)
      exact ⟨a', c', by simp [e, h1], h2.blocks (fun x hx => keep x (h2.lt x hx h3) (h4 x hx).1 (h4 x hx).2), h3, fun x hx => ⟨(h4 x hx).1, hsep x (h2.lt x hx h3) (h4 x hx).2⟩⟩
theorem GrowG.done {w : World} {B W H : Nat} {m : Nat → Nat} {q : Nat → Nat → Px} {va : Option Addr} {vc : Nat} {S : Nat → Value} (h : GrowG w B W H (tn W H) m q va vc S) (h0 : 0 < tn W H) : GridAt w (B + 1) W H m q := by
  rcases h.own.2 with ⟨_, e⟩ | ⟨t, cap, cur, hv, hb, hg, hn, hm, _⟩
  · omega
  · injection hv with e1 _ e3
    subst e1 e3
    refine ⟨t, vc, h.grid, hn, hm, fun k hk => ?_⟩
    obtain ⟨a, c, h1, h2, _⟩ := h.px k hk
    have hc' : ∀ j, j < 5 → w.cell? ⟨t, k * 5 + j, none⟩ = (tileC W H k (.slice a (m k) c))[j]? := fun j hj => by
      rw [← h1, ← tileVals_at W H S _ k j hk hj]
      have := h.own.cellAt (k * 5 + j) (by omega)
      exact this
    exact ⟨a, c, hc' 0 (by omega), hc' 1 (by omega), hc' 2 (by omega), hc' 3 (by omega), hc' 4 (by omega), h2⟩
end Go.Proofs.YtcicbafdacfbpaiGreatDoor
