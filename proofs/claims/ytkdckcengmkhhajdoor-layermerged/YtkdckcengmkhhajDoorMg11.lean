/- Pictures: the document's small tests, a pixel at a place; what the statements tell of a picture or an error. Pictures: what the functions of package raster answer. Written by genrt5.py. Pictures turned: the four ways as one; plain facts on pictures that are flipped and turned. -/
import Derived.Test.YtkdckcengmkhhajDoorRo1
import Derived.Test.YtkdckcengmkhhajDoorMg10
import Derived.Test.YtkdckcengmkhhajDoorMg9
namespace Go.Proofs.YtkdckcengmkhhajDoor
open Go.RowKit

set_option maxHeartbeats 4000000 in
set_option maxRecDepth 100000 in
theorem dat_any (W H : Nat) (x y : Nat) (a : Option Addr) (n c : Nat) (p : Nat → Px) (w : World) (hP : IsPx w a n p) (hW : W ≤ 256) (hH : H ≤ 256) (hx : x < W) (hy : y < H) (hn : n = W * H) :
    Calls Tryd.prog 68 #[.agg #[.int .i64 (W : Int), .int .i64 (H : Int), .slice a n c], .int .i64 (x : Int), .int .i64 (y : Int)] w fun e w' => e = .returned (p (y * W + x)).val ∧ Below w.heap.size w w' := by
  have hlt : y * W + x < n := by
    have h2 : (y + 1) * W ≤ H * W := Nat.mul_le_mul_right W hy
    rw [hn, Nat.mul_comm W H]
    rw [Nat.succ_mul] at h2
    omega
  have hyW : y * W ≤ 65536 := Nat.mul_le_mul (show y ≤ 256 by omega) hW
  obtain ⟨t, ht⟩ : ∃ t, t = y * W := ⟨_, rfl⟩
  have zt : (y : Int) * (W : Int) = (t : Int) := by rw [ht]; simp
  rw [← ht] at hlt hyW ⊢
  have wt : IntKind.i64.wrap (t : Int) = (t : Int) := by rw [IntKind.wrap_i64]; omega
  have e0 : (t : Int) + (x : Int) = ((t + x : Nat) : Int) := by simp
  obtain ⟨b, off, rfl, hm, hc⟩ := hP.resolve_left (by omega)
  have hcc := hc (t + x) hlt
  have hb2 : Below w.heap.size w ((w.alloc (.cells #[.int .i64 (W : Int), .int .i64 (H : Int), .slice (some ⟨b, off, none⟩) n c] 32)).alloc (.cells #[.int .u8 0, .int .u8 0, .int .u8 0, .int .u8 0] 42)) := ((Below.refl _ _).alloc (Nat.le_refl _) _).alloc (by simp) _
  obtain ⟨c0, c1, c2, c3⟩ := hcc.below hb2 hcc.lt
  have HBB := hide (below_two w)
  generalize p (t + x) = q at *
  unfold Px.val
  obtain ⟨k, hk⟩ : ∃ k, k = t + x := ⟨_, rfl⟩
  rw [← hk] at hlt e0 c0 c1 c2 c3
  have wk : IntKind.i64.wrap (k : Int) = (k : Int) := by rw [IntKind.wrap_i64]; omega
  have hkn : (k : Int) < (n : Int) := by omega
  clear hk hc hcc hb2 ht hP hx hy hn
  go_enter Tryd.func68, Tryd.ntmps68
  go_wp2
  refine bodyPost_ret (v := .agg #[.int .u8 (q.r.toNat : Int), .int .u8 (q.g.toNat : Int), .int .u8 (q.b.toNat : Int), .int .u8 (q.a.toNat : Int)]) ?_ rfl ⟨rfl, ?_⟩
  · rw [results_cellP (p := 6) (ty := 42) (by kernel_rfl)]
    go_simp
  · exact unhide HBB _ _

set_option maxHeartbeats 1000000 in
theorem inP_any (W H x y : Int) (a : Option Addr) (n c : Nat) (w : World) :
    Calls Tryd.prog 17 #[.agg #[.int .i64 W, .int .i64 H, .slice a n c], .int .i64 x, .int .i64 y] w fun e w' => e = .returned (.bool (decide (0 ≤ x ∧ 0 ≤ y ∧ x < W ∧ y < H))) ∧ Below w.heap.size w w' := by
  have hb : Below w.heap.size w (w.alloc (.cells #[.int .i64 W, .int .i64 H, .slice a n c] 32)) := (Below.refl _ _).alloc (Nat.le_refl _) _
  have HB := hide hb
  obtain ⟨r, hr⟩ : ∃ r, r = decide (0 ≤ x ∧ 0 ≤ y ∧ x < W ∧ y < H) := ⟨_, rfl⟩
  have d : (decide (x ≥ 0) = false ∧ r = false) ∨ (decide (x ≥ 0) = true ∧ decide (y ≥ 0) = false ∧ r = false) ∨ (decide (x ≥ 0) = true ∧ decide (y ≥ 0) = true ∧ decide (x < W) = false ∧ r = false) ∨ (decide (x ≥ 0) = true ∧ decide (y ≥ 0) = true ∧ decide (x < W) = true ∧ decide (y < H) = r) := by
    subst hr
    simp only [decide_eq_true_eq, decide_eq_false_iff_not, decide_eq_decide]
    omega
  rw [← hr]
  clear hr hb
  rcases d with ⟨d1, rfl⟩ | ⟨d1, d2, rfl⟩ | ⟨d1, d2, d3, rfl⟩ | ⟨d1, d2, d3, d4⟩
  all_goals
    go_enter Tryd.func17, Tryd.ntmps17
    go_wp2
    go_ret
    exact ⟨rfl, unhide HB⟩

theorem nearP_any (z : Int) (w : World) :
    Calls Tryd.prog 33 #[.int .i64 z] w fun e w' => e = .returned (.bool (decide (Nr z))) ∧ w' = w := by
  by_cases h1 : -10000 ≤ z
  · have d1 : decide (z ≥ -10000) = true := decide_eq_true h1
    have d1' : decide (-10000 ≤ z) = true := d1
    have hr : decide (Nr z) = decide (z ≤ 10000) := by unfold Nr; simp [h1]
    rw [hr]
    clear h1 hr
    go_enter Tryd.func33, Tryd.ntmps33
    go_wp2
    go_ret
    exact ⟨rfl, rfl⟩
  · have d1 : decide (z ≥ -10000) = false := decide_eq_false h1
    have d1' : decide (-10000 ≤ z) = false := d1
    rw [decide_eq_false (fun q : Nr z => h1 q.1)]
    clear h1
    go_enter Tryd.func33, Tryd.ntmps33
    go_wp2
    go_ret
    exact ⟨rfl, rfl⟩


end Go.Proofs.YtkdckcengmkhhajDoor
namespace Go.Proofs.YtkdckcengmkhhajDoor
open Go.RowKit











end Go.Proofs.YtkdckcengmkhhajDoor
namespace Go.Proofs.YtkdckcengmkhhajDoor
open Go.RowKit

theorem and_three (z : Int) : bits .and .i64 z 3 = z % 4 := by
  have h1 : (BitVec.ofInt 64 3).toNat = 2 ^ 2 - 1 := by decide
  have key : (BitVec.ofInt 64 z &&& BitVec.ofInt 64 3).toNat = (z % ((2 ^ 64 : Nat) : Int)).toNat % 2 ^ 2 := by
    rw [BitVec.toNat_and, BitVec.toNat_ofInt, h1, Nat.and_two_pow_sub_one_eq_mod]
  show IntKind.i64.wrap ((BitVec.ofInt 64 z &&& BitVec.ofInt 64 3).toNat : Nat) = _
  rw [key, IntKind.wrap_i64]
  omega

/-- The sides and the pixels of a picture that is turned k quarters. -/
def tW (k W H : Nat) : Nat := if k = 1 ∨ k = 3 then H else W
def tG (k W H : Nat) (p : Nat → Px) (x y : Nat) : Px :=
  if k = 1 then p ((H - 1 - x) * W + y) else if k = 2 then p ((H - 1 - y) * W + (W - 1 - x)) else if k = 3 then p (x * W + (W - 1 - y)) else p (y * W + x)
def tP (k W H : Nat) (p : Nat → Px) : Nat → Px := grid (tW k W H) (tG k W H p)

theorem place_lt {x y W H : Nat} (hx : x < W) (hy : y < H) : y * W + x < W * H := by
  have h2 : (y + 1) * W ≤ H * W := Nat.mul_le_mul_right W hy
  rw [Nat.mul_comm W H]
  rw [Nat.succ_mul] at h2
  omega
/-- A fact on all places is one on all of a row. -/
theorem by_places {W H : Nat} {f g : Nat → Px} (hW : 1 ≤ W) (h : ∀ x y, x < W → y < H → f (y * W + x) = g (y * W + x)) : ∀ i, i < W * H → f i = g i := fun i hi => by
  have hx : i % W < W := Nat.mod_lt _ (by omega)
  have hy : i / W < H := Nat.div_lt_of_lt_mul (by rw [Nat.mul_comm] at hi; rw [Nat.mul_comm]; exact hi)
  have e : i / W * W + i % W = i := by rw [Nat.mul_comm]; exact Nat.div_add_mod i W
  have q := h _ _ hx hy
  rw [e] at q
  exact q
theorem tP_at (k W H : Nat) (p : Nat → Px) (x y : Nat) (hx : x < tW k W H) : tP k W H p (y * tW k W H + x) = tG k W H p x y := grid_at _ _ _ _ hx

/-- Turned, and turned back. -/
theorem turned_back (k k' W H : Nat) (p : Nat → Px) (hk : k < 4) (hk' : k' < 4) (h : (k + k') % 4 = 0) (hW : 1 ≤ W) :
    tW k' (tW k W H) (tW k H W) = W ∧ tW k' (tW k H W) (tW k W H) = H ∧ ∀ i, i < W * H → tP k' (tW k W H) (tW k H W) (tP k W H p) i = p i := by
  have hc : (k = 0 ∧ k' = 0) ∨ (k = 1 ∧ k' = 3) ∨ (k = 2 ∧ k' = 2) ∨ (k = 3 ∧ k' = 1) := by omega
  rcases hc with ⟨rfl, rfl⟩ | ⟨rfl, rfl⟩ | ⟨rfl, rfl⟩ | ⟨rfl, rfl⟩
  · refine ⟨rfl, rfl, by_places hW fun x y hx hy => ?_⟩
    refine (grid_at W _ x y hx).trans ?_
    show grid W (tG 0 W H p) (y * W + x) = _
    exact grid_at W _ x y hx
  · refine ⟨rfl, rfl, by_places hW fun x y hx hy => ?_⟩
    refine (grid_at W _ x y hx).trans ?_
    show grid H (tG 1 W H p) (x * H + (H - 1 - y)) = _
    refine (grid_at H _ (H - 1 - y) x (by omega)).trans ?_
    show p ((H - 1 - (H - 1 - y)) * W + x) = _
    rw [show H - 1 - (H - 1 - y) = y by omega]
  · refine ⟨rfl, rfl, by_places hW fun x y hx hy => ?_⟩
    refine (grid_at W _ x y hx).trans ?_
    show grid W (tG 2 W H p) ((H - 1 - y) * W + (W - 1 - x)) = _
    refine (grid_at W _ (W - 1 - x) (H - 1 - y) (by omega)).trans ?_
    show p ((H - 1 - (H - 1 - y)) * W + (W - 1 - (W - 1 - x))) = _
    rw [show H - 1 - (H - 1 - y) = y by omega, show W - 1 - (W - 1 - x) = x by omega]
  · refine ⟨rfl, rfl, by_places hW fun x y hx hy => ?_⟩
    refine (grid_at W _ x y hx).trans ?_
    show grid H (tG 3 W H p) ((W - 1 - x) * H + y) = _
    refine (grid_at H _ y (W - 1 - x) (by omega)).trans ?_
    show p (y * W + (W - 1 - (W - 1 - x))) = _
    rw [show W - 1 - (W - 1 - x) = x by omega]

/-- Flipped both ways it is turned twice. -/
def fD (W H : Nat) (p : Nat → Px) : Nat → Px := grid W fun x y => p ((H - 1 - y) * W + x)
def fL (W : Nat) (p : Nat → Px) : Nat → Px := grid W fun x y => p (y * W + (W - 1 - x))
theorem flipped_back (W H : Nat) (p : Nat → Px) (hW : 1 ≤ W) : ∀ i, i < W * H → fD W H (fD W H p) i = p i := by_places hW fun x y hx hy => by
  unfold fD
  rw [grid_at _ _ _ _ hx, grid_at _ _ _ _ hx, show H - 1 - (H - 1 - y) = y by omega]
theorem flipped_both (W H : Nat) (p : Nat → Px) (hW : 1 ≤ W) : ∀ i, i < W * H → fL W (fD W H p) i = tP 2 W H p i := by_places hW fun x y hx hy => by
  have e : tW 2 W H = W := rfl
  have q := tP_at 2 W H p x y hx
  rw [e] at q
  rw [q]
  unfold fL fD
  rw [grid_at _ _ _ _ hx, grid_at _ _ _ _ (by omega)]
  rfl


end Go.Proofs.YtkdckcengmkhhajDoor
