/- Marks on the pixels of a picture: rows of yes and no; quotients rounded down: the program's and the document's. -/
import Derived.Test.YtcicbafdacfbpaiDoorRo3
import Derived.Test.YtcicbafdacfbpaiDoorRt7
namespace Go.Proofs.YtcicbafdacfbpaiDoor
open Go.RowKit

/-- Yes and no in a block of their own, that may be written. -/
structure MR (w : World) (g n : Nat) (f : Nat → Bool) : Prop where
  ex : ∃ cur, w.heap[g]? = some (.cells cur 4)
  at' : ∀ i, i < n → w.cell? ⟨g, i, none⟩ = some (.bool (f i))
theorem MR.lt {w : World} {g n : Nat} {f : Nat → Bool} (h : MR w g n f) : g < w.heap.size := by obtain ⟨c, h⟩ := h.ex; exact blk_lt h
theorem MR.fr {w : World} {g n : Nat} {f : Nat → Bool} (h : MR w g n f) (j : Nat) : w.frozen? ⟨g, j, none⟩ = false := by obtain ⟨c, h⟩ := h.ex; exact blk_frozen h j
theorem MR.block {w w' : World} {g n : Nat} {f : Nat → Bool} (h : MR w g n f) (e : w'.heap[g]? = w.heap[g]?) : MR w' g n f := by
  obtain ⟨c, hc⟩ := h.ex
  exact ⟨⟨c, e.trans hc⟩, fun i hi => (World.cell?_of_block (a := ⟨g, i, none⟩) e).trans (h.at' i hi)⟩
theorem MR.below {w w' : World} {g n B : Nat} {f : Nat → Bool} (h : MR w g n f) (hb : Below B w w') (hB : g < B) : MR w' g n f := h.block (hb.block g hB)
def updB (f : Nat → Bool) (i : Nat) : Nat → Bool := fun j => if j = i then true else f j
theorem MR.put {w : World} {g n i : Nat} {f : Nat → Bool} (h : MR w g n f) (hi : i < n) : MR (w.setCell ⟨g, i, none⟩ (.bool true)) g n (updB f i) := by
  obtain ⟨c, hc⟩ := h.ex
  refine ⟨⟨c.setIfInBounds i (.bool true), by simp [World.setCell, Array.getElem?_modify, hc]⟩, fun j hj => ?_⟩
  unfold updB
  by_cases e : j = i
  · subst e
    rw [if_pos rfl]
    exact World.cell?_setCell_same _ _ _ (h.at' j hj)
  · rw [if_neg e, World.cell?_setCell_other _ _ _ _ (ofs_ne (fun q => e q.symm))]
    exact h.at' j hj

set_option maxHeartbeats 2000000 in
set_option maxRecDepth 100000 in
theorem isMarked_any (W H g n c x y : Nat) (f : Nat → Bool) (w : World) (hM : MR w g n f) (hW : W ≤ 256) (hH : H ≤ 256) (hx : x < W) (hy : y < H) (hn : n = W * H) :
    Calls Tryd.prog 28 #[.agg #[.int .i64 (W : Int), .slice (some ⟨g, 0, none⟩) n c], .int .i64 (x : Int), .int .i64 (y : Int)] w fun e w' => e = .returned (.bool (f (y * W + x))) ∧ Below w.heap.size w w' := by
  have hlt : y * W + x < n := by
    have h2 : (y + 1) * W ≤ H * W := Nat.mul_le_mul_right W hy
    rw [hn, Nat.mul_comm W H]
    rw [Nat.succ_mul] at h2
    omega
  have hyW : y * W ≤ 65536 := Nat.mul_le_mul (show y ≤ 256 by omega) hW
  obtain ⟨t, ht⟩ : ∃ t, t = y * W := ⟨_, rfl⟩
  have zt : (y : Int) * (W : Int) = (t : Int) := by rw [ht]; simp
  rw [← ht] at hlt hyW ⊢
  have wt : IntKind.i64.wrap (t : Int) = (t : Int) := by rw [IntKind.wrap_i64]; omega
  obtain ⟨k, hk⟩ : ∃ k, k = t + x := ⟨_, rfl⟩
  have e0 : (t : Int) + (x : Int) = (k : Int) := by rw [hk]; simp
  rw [← hk] at hlt ⊢
  have wk : IntKind.i64.wrap (k : Int) = (k : Int) := by rw [IntKind.wrap_i64]; omega
  have hkn : (k : Int) < (n : Int) := by omega
  have hb : Below w.heap.size w (w.alloc (.cells #[.int .i64 (W : Int), .slice (some ⟨g, 0, none⟩) n c] 55)) := (Below.refl _ _).alloc (Nat.le_refl _) _
  have c0 := (hM.below hb hM.lt).at' k hlt
  have HB := hide hb
  generalize f k = b at *
  clear hk ht hx hy hn hM hb
  go_enter Tryd.func28, Tryd.ntmps28
  go_wp2
  go_ret
  exact ⟨rfl, unhide HB⟩

set_option maxHeartbeats 2000000 in
set_option maxRecDepth 100000 in
theorem mark_any (W H g n c x y : Nat) (f : Nat → Bool) (w : World) (hM : MR w g n f) (hW : W ≤ 256) (hH : H ≤ 256) (hx : x < W) (hy : y < H) (hn : n = W * H) :
    Calls Tryd.prog 55 #[.agg #[.int .i64 (W : Int), .slice (some ⟨g, 0, none⟩) n c], .int .i64 (x : Int), .int .i64 (y : Int)] w fun e w' => e = .returned (.tuple #[]) ∧ MR w' g n (updB f (y * W + x)) ∧ But (· = g) w w' := by
  have hlt : y * W + x < n := by
    have h2 : (y + 1) * W ≤ H * W := Nat.mul_le_mul_right W hy
    rw [hn, Nat.mul_comm W H]
    rw [Nat.succ_mul] at h2
    omega
  have hyW : y * W ≤ 65536 := Nat.mul_le_mul (show y ≤ 256 by omega) hW
  obtain ⟨t, ht⟩ : ∃ t, t = y * W := ⟨_, rfl⟩
  have zt : (y : Int) * (W : Int) = (t : Int) := by rw [ht]; simp
  rw [← ht] at hlt hyW ⊢
  have wt : IntKind.i64.wrap (t : Int) = (t : Int) := by rw [IntKind.wrap_i64]; omega
  obtain ⟨k, hk⟩ : ∃ k, k = t + x := ⟨_, rfl⟩
  have e0 : (t : Int) + (x : Int) = (k : Int) := by rw [hk]; simp
  rw [← hk] at hlt ⊢
  have wk : IntKind.i64.wrap (k : Int) = (k : Int) := by rw [IntKind.wrap_i64]; omega
  have hkn : (k : Int) < (n : Int) := by omega
  have hb : Below w.heap.size w (w.alloc (.cells #[.int .i64 (W : Int), .slice (some ⟨g, 0, none⟩) n c] 55)) := (Below.refl _ _).alloc (Nat.le_refl _) _
  have hM1 := hM.below hb hM.lt
  have c0 := hM1.at' k hlt
  have f0 := hM1.fr k
  have hgl := hM.lt
  have HP := hide ((hM.put hlt).block (w' := (w.setCell ⟨g, k, none⟩ (.bool true)).alloc (.cells #[.int .i64 (W : Int), .slice (some ⟨g, 0, none⟩) n c] 55)) (Below.heap_alloc _ _ _ (hM.put hlt).lt))
  have HBu := hide (((But.refl (· = g) w).setCell (p := ⟨g, k, none⟩) rfl (.bool true)).alloc (.cells #[.int .i64 (W : Int), .slice (some ⟨g, 0, none⟩) n c] 55))
  clear hk ht hx hy hn hM hb hM1
  go_enter Tryd.func55, Tryd.ntmps55
  go_wp2
  go_end0
  exact ⟨rfl, unhide HP, unhide HBu⟩


/-- After k of n steps from one number to another one. -/
def aft (k n : Int) (a b : Int) : Int := if n = 0 then a else a + (2 * k * (b - a) + n) / (2 * n)
theorem mul_in {a b A B : Int} (ha : -A ≤ a ∧ a ≤ A) (hb : -B ≤ b ∧ b ≤ B) (hA : 0 ≤ A) : -(A * B) ≤ a * b ∧ a * b ≤ A * B := by
  have hB : 0 ≤ B := by omega
  have h1 : (a * b).natAbs ≤ A.natAbs * B.natAbs := by rw [Int.natAbs_mul]; exact Nat.mul_le_mul (by omega) (by omega)
  have h2 : ((A.natAbs * B.natAbs : Nat) : Int) = A * B := by rw [Int.natCast_mul, Int.natAbs_of_nonneg hA, Int.natAbs_of_nonneg hB]
  generalize A * B = m at *
  generalize A.natAbs * B.natAbs = m2 at *
  omega
theorem quo_in (s n2 : Int) (h2 : 1 ≤ n2) (hs : -890000000 ≤ s ∧ s ≤ 890000000) : -900000000 ≤ s / n2 ∧ s / n2 ≤ 900000000 := by
  obtain ⟨q, hq⟩ : ∃ x, x = s / n2 := ⟨_, rfl⟩
  have h1 := Int.ediv_mul_le s (show n2 ≠ 0 by omega)
  have h3 := Int.lt_ediv_add_one_mul_self s (show 0 < n2 by omega)
  rw [← hq] at h1 h3 ⊢
  constructor
  · apply Int.not_lt.1
    intro hlt
    have h4 : (q + 1) * n2 ≤ (q + 1) * 1 := Int.mul_le_mul_of_nonpos_left (by omega) (by omega)
    omega
  · apply Int.not_lt.1
    intro hlt
    have h4 : q * 1 ≤ q * n2 := Int.mul_le_mul_of_nonneg_left (by omega) (by omega)
    omega
end Go.Proofs.YtcicbafdacfbpaiDoor
