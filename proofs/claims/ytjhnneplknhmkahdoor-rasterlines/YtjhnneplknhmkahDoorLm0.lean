/- Marks on the pixels of a picture: rows of yes and no; quotients rounded down: the program's and the document's. -/
import Derived.Test.YtjhnneplknhmkahDoorRo3
import Derived.Test.YtjhnneplknhmkahDoorRt7
namespace Go.Proofs.YtjhnneplknhmkahDoor
open Go.RowKit

/-- Yes and no in a block of their own, that may be written. -/
structure MR (w : World) (g n : Nat) (f : Nat → Bool) : Prop where
  ex : ∃ cur, w.heap[g]? = some (.cells cur 4)
  at' : ∀ i, i < n → w.cell? ⟨g, i, none⟩ = some (.bool (f i))
theorem MR.lt {w : World} {g n : Nat} {f : Nat → Bool} (h : MR w g n f) : g < w.heap.size := by obtain ⟨c, h⟩ := h.ex; exact blk_lt h
theorem MR.fr {w : World} {g n : Nat} {f : Nat → Bool} (h : MR w g n f) (j : Nat) : w.frozen? ⟨g, j, none⟩ = false := by obtain ⟨c, h⟩ := h.ex; exact blk_frozen h j
theorem MR.block {w w' : World} {g n : Nat} {f : Nat → Bool} (h : MR w g n f) (e : w'.heap[g]? = w.heap[g]?) : MR w' g n f := by
  obtain ⟨c, hc⟩ := h.ex
  exact ⟨⟨c, e.trans hc⟩, fun i hi => (World.cell?_of_block (a := ⟨g, i, none⟩) e).trans (h.at' i hi)⟩
theorem MR.below {w w' : World} {g n B : Nat} {f : Nat → Bool} (h : MR w g n f) (hb : Below B w w') (hB : g < B) : MR w' g n f := h.block (hb.block g hB)
def updB (f : Nat → Bool) (i : Nat) : Nat → Bool := fun j => if j = i then true else f j
theorem MR.put {w : World} {g n i : Nat} {f : Nat → Bool} (h : MR w g n f) (hi : i < n) : MR (w.setCell ⟨g, i, none⟩ (.bool true)) g n (updB f i) := by
  obtain ⟨c, hc⟩ := h.ex
  refine ⟨⟨c.setIfInBounds i (.bool true), by simp [World.setCell, Array.getElem?_modify, hc]⟩, fun j hj => ?_⟩
  unfold updB
  by_cases e : j = i
  · subst e
    rw [if_pos rfl]
    exact World.cell?_setCell_same _ _ _ (h.at' j hj)
  · rw [if_neg e, World.cell?_setCell_other _ _ _ _ (ofs_ne (fun q => e q.symm))]
    exact h.at' j hj

set_option maxHeartbeats 2000000 in
set_option maxRecDepth 100000 in
theorem isMarked_any (W H g n c x y : Nat) (f : Nat → Bool) (w : World) (hM : MR w g n f) (hW : W ≤ 256) (hH : H ≤ 256) (hx : x < W) (hy : y < H) (hn : n = W * H) :
    Calls Tryd.prog 70 #[.agg #[.int .i64 (W : Int), .slice (some ⟨g, 0, none⟩) n c], .int .i64 (x : Int), .int .i64 (y : Int)] w fun e w' => e = .returned (.bool (f (y * W + x))) ∧ Below w.heap.size w w' := by
  have hlt : y * W + x < n := by
    have h2 : (y + 1) * W ≤ H * W := Nat.mul_le_mul_right W hy
    rw [hn, Nat.mul_comm W H]
    rw [Nat.succ_mul] at h2
    omega
  have hyW : y * W ≤ 65536 := Nat.mul_le_mul (show y ≤ 256 by omega) hW
  obtain ⟨t, ht⟩ : ∃ t, t = y * W := ⟨_, rfl⟩
  have zt : (y : Int) * (W : Int) = (t : Int) := by rw [ht]; simp
  rw [← ht] at hlt hyW ⊢
  have wt : IntKind.i64.wrap (t : Int) = (t : Int) := by rw [IntKind.wrap_i64]; omega
  obtain ⟨k, hk⟩ : ∃ k, k = t + x := ⟨_, rfl⟩
  have e0 : (t : Int) + (x : Int) = (k : Int) := by rw [hk]; simp
  rw [← hk] at hlt ⊢
  have wk : IntKind.i64.wrap (k : Int) = (k : Int) := by rw [IntKind.wrap_i64]; omega
  have hkn : (k : Int) < (n : Int) := by omega
  have hb : Below w.heap.size w (w.alloc (.cells #[.int .i64 (W : Int), .slice (some ⟨g, 0, none⟩) n c] 81)) := (Below.refl _ _).alloc (Nat.le_refl _) _
  have c0 := (hM.below hb hM.lt).at' k hlt
  have HB := hide hb
  generalize f k = b at *
  clear hk ht hx hy hn hM hb
  go_enter Tryd.func70, Tryd.ntmps70
  go_wp2
  go_ret
  exact ⟨rfl, unhide HB⟩

set_option maxHeartbeats 2000000 in
set_option maxRecDepth 100000 in
theorem mark_any (W H g n c x y : Nat) (f : Nat → Bool) (w : World) (hM : MR w g n f) (hW : W ≤ 256) (hH : H ≤ 256) (hx : x < W) (hy : y < H) (hn : n = W * H) :
    Calls Tryd.prog 69 #[.agg #[.int .i64 (W : Int), .slice (some ⟨g, 0, none⟩) n c], .int .i64 (x : Int), .int .i64 (y : Int)] w fun e w' => e = .returned (.tuple #[]) ∧ MR w' g n (updB f (y * W + x)) ∧ But (· = g) w w' := by
  have hlt : y * W + x < n := by
    have h2 : (y + 1) * W ≤ H * W := Nat.mul_le_mul_right W hy
    rw [hn, Nat.mul_comm W H]
    rw [Nat.succ_mul] at h2
    omega
  have hyW : y * W ≤ 65536 := Nat.mul_le_mul (show y ≤ 256 by omega) hW
  obtain ⟨t, ht⟩ : ∃ t, t = y * W := ⟨_, rfl⟩
  have zt : (y : Int) * (W : Int) = (t : Int) := by rw [ht]; simp
  rw [← ht] at hlt hyW ⊢
  have wt : IntKind.i64.wrap (t : Int) = (t : Int) := by rw [IntKind.wrap_i64]; omega
  obtain ⟨k, hk⟩ : ∃ k, k = t + x := ⟨_, rfl⟩
  have e0 : (t : Int) + (x : Int) = (k : Int) := by rw [hk]; simp
  rw [← hk] at hlt ⊢
  have wk : IntKind.i64.wrap (k : Int) = (k : Int) := by rw [IntKind.wrap_i64]; omega
  have hkn : (k : Int) < (n : Int) := by omega
  have hb : Below w.heap.size w (w.alloc (.cells #[.int .i64 (W : Int), .slice (some ⟨g, 0, none⟩) n c] 81)) := (Below.refl _ _).alloc (Nat.le_refl _) _
  have hM1 := hM.below hb hM.lt
  have c0 := hM1.at' k hlt
  have f0 := hM1.fr k
  have hgl := hM.lt
  have HP := hide ((hM.put hlt).block (w' := (w.setCell ⟨g, k, none⟩ (.bool true)).alloc (.cells #[.int .i64 (W : Int), .slice (some ⟨g, 0, none⟩) n c] 81)) (Below.heap_alloc _ _ _ (hM.put hlt).lt))
  have HBu := hide (((But.refl (· = g) w).setCell (p := ⟨g, k, none⟩) rfl (.bool true)).alloc (.cells #[.int .i64 (W : Int), .slice (some ⟨g, 0, none⟩) n c] 81))
  clear hk ht hx hy hn hM hb hM1
  go_enter Tryd.func69, Tryd.ntmps69
  go_wp2
  go_end0
  exact ⟨rfl, unhide HP, unhide HBu⟩

set_option maxHeartbeats 2000000 in
theorem floor_any (n k : Int) (w : World) (hk : 1 ≤ k) (hk2 : k ≤ 100000) (hn : -1000000000000 ≤ n ∧ n ≤ 1000000000000) :
    Calls Tryd.prog 81 #[.int .i64 n, .int .i64 k] w fun e w' => e = .returned (.int .i64 (n / k)) ∧ w' = w := by
  obtain ⟨q, hq⟩ : ∃ q, q = n.tdiv k := ⟨_, rfl⟩
  obtain ⟨r, hr⟩ : ∃ r, r = n.tmod k := ⟨_, rfl⟩
  have zq : n.tdiv k = q := hq.symm
  have zr : n.tmod k = r := hr.symm
  have hz : ((k : Int) == 0) = false := by simp; omega
  have hz2 : k ≠ 0 := by omega
  have key : n = k * q + r := by rw [hq, hr]; exact (Int.mul_tdiv_add_tmod n k).symm
  have hrb : -k < r ∧ r < k ∧ (0 ≤ n → 0 ≤ r) ∧ (n < 0 → r ≤ 0) := by
    by_cases h : 0 ≤ n
    · rw [hr, Int.tmod_eq_emod_of_nonneg h]
      have := Int.emod_nonneg n hz2
      have := Int.emod_lt_of_pos n (show 0 < k by omega)
      omega
    · obtain ⟨y, rfl⟩ : ∃ y, n = -y := ⟨-n, by omega⟩
      rw [hr, Int.neg_tmod, Int.tmod_eq_emod_of_nonneg (by omega)]
      have := Int.emod_nonneg y hz2
      have := Int.emod_lt_of_pos y (show 0 < k by omega)
      omega
  have hdv : n / k = q + r / k := by rw [key, Int.add_comm, Int.add_mul_ediv_left _ _ hz2, Int.add_comm]
  have hqb : -1000000000001 ≤ q ∧ q ≤ 1000000000001 := by
    have h1 : q.natAbs ≤ n.natAbs := by rw [hq]; exact Int.natAbs_tdiv_le_natAbs n k
    omega
  have wq : IntKind.i64.wrap q = q := by rw [IntKind.wrap_i64]; omega
  have wr : IntKind.i64.wrap r = r := by rw [IntKind.wrap_i64]; omega
  have wq1 : IntKind.i64.wrap (q - 1) = q - 1 := by rw [IntKind.wrap_i64]; omega
  by_cases hneg : r < 0
  · have e : r / k = -1 := by
      have h1 : (r + k * 1) / k = r / k + 1 := Int.add_mul_ediv_left _ _ hz2
      have h2 : (r + k * 1) / k = 0 := Int.ediv_eq_zero_of_lt (by omega) (by omega)
      omega
    rw [hdv, e]
    have d1 : decide (r < 0) = true := decide_eq_true hneg
    have hs : q + -1 = q - 1 := by omega
    rw [hs]
    clear hq hr key hrb hdv e hs
    go_enter Tryd.func81, Tryd.ntmps81
    go_wp2
    go_ret
    exact ⟨rfl, rfl⟩
  · have e : r / k = 0 := Int.ediv_eq_zero_of_lt (by omega) (by omega)
    rw [hdv, e, Int.add_zero]
    have d1 : decide (r < 0) = false := decide_eq_false hneg
    clear hq hr key hrb hdv e
    go_enter Tryd.func81, Tryd.ntmps81
    go_wp2
    go_ret
    exact ⟨rfl, rfl⟩

/-- After k of n steps from one number to another one. -/
def aft (k n : Int) (a b : Int) : Int := if n = 0 then a else a + (2 * k * (b - a) + n) / (2 * n)
theorem mul_in {a b A B : Int} (ha : -A ≤ a ∧ a ≤ A) (hb : -B ≤ b ∧ b ≤ B) (hA : 0 ≤ A) : -(A * B) ≤ a * b ∧ a * b ≤ A * B := by
  have hB : 0 ≤ B := by omega
  have h1 : (a * b).natAbs ≤ A.natAbs * B.natAbs := by rw [Int.natAbs_mul]; exact Nat.mul_le_mul (by omega) (by omega)
  have h2 : ((A.natAbs * B.natAbs : Nat) : Int) = A * B := by rw [Int.natCast_mul, Int.natAbs_of_nonneg hA, Int.natAbs_of_nonneg hB]
  generalize A * B = m at *
  generalize A.natAbs * B.natAbs = m2 at *
  omega
theorem quo_in (s n2 : Int) (h2 : 1 ≤ n2) (hs : -890000000 ≤ s ∧ s ≤ 890000000) : -900000000 ≤ s / n2 ∧ s / n2 ≤ 900000000 := by
  obtain ⟨q, hq⟩ : ∃ x, x = s / n2 := ⟨_, rfl⟩
  have h1 := Int.ediv_mul_le s (show n2 ≠ 0 by omega)
  have h3 := Int.lt_ediv_add_one_mul_self s (show 0 < n2 by omega)
  rw [← hq] at h1 h3 ⊢
  constructor
  · apply Int.not_lt.1
    intro hlt
    have h4 : (q + 1) * n2 ≤ (q + 1) * 1 := Int.mul_le_mul_of_nonpos_left (by omega) (by omega)
    omega
  · apply Int.not_lt.1
    intro hlt
    have h4 : q * 1 ≤ q * n2 := Int.mul_le_mul_of_nonneg_left (by omega) (by omega)
    omega
set_option maxHeartbeats 2000000 in
theorem after_any (k n a b : Int) (w : World) (hk : 0 ≤ k ∧ k ≤ n) (hn : n ≤ 20000) (ha : Nr a) (hb : Nr b) :
    Calls Tryd.prog 68 #[.int .i64 k, .int .i64 n, .int .i64 a, .int .i64 b] w fun e w' => e = .returned (.int .i64 (aft k n a b)) ∧ w' = w := by
  unfold Nr at ha hb
  by_cases h0 : n = 0
  · have d0 : (n == 0) = true := by simp [h0]
    have hA : aft k n a b = a := by unfold aft; rw [if_pos h0]
    rw [hA]
    clear hk hn ha hb h0 hA
    go_enter Tryd.func68, Tryd.ntmps68
    go_wp2
    go_ret
    exact ⟨rfl, rfl⟩
  · have d0 : (n == 0) = false := by simp [h0]
    obtain ⟨k2, hk2⟩ : ∃ x, x = 2 * k := ⟨_, rfl⟩
    obtain ⟨d, hd⟩ : ∃ x, x = b - a := ⟨_, rfl⟩
    obtain ⟨m, hm⟩ : ∃ x, x = k2 * d := ⟨_, rfl⟩
    obtain ⟨s, hs⟩ : ∃ x, x = m + n := ⟨_, rfl⟩
    obtain ⟨n2, hn2⟩ : ∃ x, x = 2 * n := ⟨_, rfl⟩
    obtain ⟨q, hq⟩ : ∃ x, x = s / n2 := ⟨_, rfl⟩
    have hA : aft k n a b = a + q := by unfold aft; rw [if_neg h0, hq, hs, hm, hk2, hd, hn2]
    have hmb : -800000000 ≤ m ∧ m ≤ 800000000 := by
      have h := mul_in (A := 40000) (B := 20000) (show -40000 ≤ k2 ∧ k2 ≤ 40000 by omega) (show -20000 ≤ d ∧ d ≤ 20000 by omega) (by omega)
      rw [← hm] at h
      omega
    have HF := hide (fun w => floor_any s n2 w (by omega) (by omega) (by omega))
    rw [← hq] at HF
    have hqb : -900000000 ≤ q ∧ q ≤ 900000000 := by
      have h1 := Int.ediv_mul_le s (show n2 ≠ 0 by omega)
      have h2 := Int.lt_ediv_add_one_mul_self s (show 0 < n2 by omega)
      rw [← hq] at h1 h2
      constructor
      · apply Int.not_lt.1
        intro hlt
        have h3 : (q + 1) * n2 ≤ (-900000000) * 1 := by
          have h4 : (q + 1) * n2 ≤ (q + 1) * 1 := Int.mul_le_mul_of_nonpos_left (by omega) (by omega)
          omega
        omega
      · apply Int.not_lt.1
        intro hlt
        have h4 : q * 1 ≤ q * n2 := Int.mul_le_mul_of_nonneg_left (by omega) (by omega)
        omega
    have z1 : 2 * k = k2 := hk2.symm
    have z2 : b - a = d := hd.symm
    have z3 : k2 * d = m := hm.symm
    have z4 : m + n = s := hs.symm
    have z5 : 2 * n = n2 := hn2.symm
    have w1 : IntKind.i64.wrap k2 = k2 := by rw [IntKind.wrap_i64]; omega
    have w2 : IntKind.i64.wrap d = d := by rw [IntKind.wrap_i64]; omega
    have w3 : IntKind.i64.wrap m = m := by rw [IntKind.wrap_i64]; omega
    have w4 : IntKind.i64.wrap s = s := by rw [IntKind.wrap_i64]; omega
    have w5 : IntKind.i64.wrap n2 = n2 := by rw [IntKind.wrap_i64]; omega
    have w6 : IntKind.i64.wrap (a + q) = a + q := by rw [IntKind.wrap_i64]; omega
    rw [hA]
    clear hA hk2 hd hm hs hn2 hq hmb hqb hk hn ha hb h0
    go_enter Tryd.func68, Tryd.ntmps68
    go_wp2_with fail
    refine (unhide HF _).mono ?_
    rintro e w1 ⟨rfl, rfl⟩
    go_wp2
    go_ret
    exact ⟨rfl, rfl⟩
end Go.Proofs.YtjhnneplknhmkahDoor
