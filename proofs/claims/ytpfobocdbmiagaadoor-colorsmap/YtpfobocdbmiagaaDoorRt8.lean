/- Pictures turned: the four ways as one; plain facts on pictures that are flipped and turned. -/
import Derived.Test.YtpfobocdbmiagaaDoorMg5
import Derived.Test.YtpfobocdbmiagaaDoorRo0
namespace Go.Proofs.YtpfobocdbmiagaaDoor
open Go.RowKit

theorem and_three (z : Int) : bits .and .i64 z 3 = z % 4 := by
  have h1 : (BitVec.ofInt 64 3).toNat = 2 ^ 2 - 1 := by decide
  have key : (BitVec.ofInt 64 z &&& BitVec.ofInt 64 3).toNat = (z % ((2 ^ 64 : Nat) : Int)).toNat % 2 ^ 2 := by
    rw [BitVec.toNat_and, BitVec.toNat_ofInt, h1, Nat.and_two_pow_sub_one_eq_mod]
  show IntKind.i64.wrap ((BitVec.ofInt 64 z &&& BitVec.ofInt 64 3).toNat : Nat) = _
  rw [key, IntKind.wrap_i64]
  omega

/-- The sides and the pixels of a picture that is turned k quarters. -/
def tW (k W H : Nat) : Nat := if k = 1 ∨ k = 3 then H else W
def tG (k W H : Nat) (p : Nat → Px) (x y : Nat) : Px :=
  if k = 1 then p ((H - 1 - x) * W + y) else if k = 2 then p ((H - 1 - y) * W + (W - 1 - x)) else if k = 3 then p (x * W + (W - 1 - y)) else p (y * W + x)
def tP (k W H : Nat) (p : Nat → Px) : Nat → Px := grid (tW k W H) (tG k W H p)

theorem place_lt {x y W H : Nat} (hx : x < W) (hy : y < H) : y * W + x < W * H := by
  have h2 : (y + 1) * W ≤ H * W := Nat.mul_le_mul_right W hy
  rw [Nat.mul_comm W H]
  rw [Nat.succ_mul] at h2
  omega
/-- A fact on all places is one on all of a row. -/
theorem by_places {W H : Nat} {f g : Nat → Px} (hW : 1 ≤ W) (h : ∀ x y, x < W → y < H → f (y * W + x) = g (y * W + x)) : ∀ i, i < W * H → f i = g i := fun i hi => by
  have hx : i % W < W := Nat.mod_lt _ (by omega)
  have hy : i / W < H := Nat.div_lt_of_lt_mul (by rw [Nat.mul_comm] at hi; rw [Nat.mul_comm]; exact hi)
  have e : i / W * W + i % W = i := by rw [Nat.mul_comm]; exact Nat.div_add_mod i W
  have q := h _ _ hx hy
  rw [e] at q
  exact q
theorem tP_at (k W H : Nat) (p : Nat → Px) (x y : Nat) (hx : x < tW k W H) : tP k W H p (y * tW k W H + x) = tG k W H p x y := grid_at _ _ _ _ hx

/-- Turned, and turned back. -/
theorem turned_back (k k' W H : Nat) (p : Nat → Px) (hk : k < 4) (hk' : k' < 4) (h : (k + k') % 4 = 0) (hW : 1 ≤ W) :
    tW k' (tW k W H) (tW k H W) = W ∧ tW k' (tW k H W) (tW k W H) = H ∧ ∀ i, i < W * H → tP k' (tW k W H) (tW k H W) (tP k W H p) i = p i := by
  have hc : (k = 0 ∧ k' = 0) ∨ (k = 1 ∧ k' = 3) ∨ (k = 2 ∧ k' = 2) ∨ (k = 3 ∧ k' = 1) := by omega
  rcases hc with ⟨rfl, rfl⟩ | ⟨rfl, rfl⟩ | ⟨rfl, rfl⟩ | ⟨rfl, rfl⟩
  · refine ⟨rfl, rfl, by_places hW fun x y hx hy => ?_⟩
    refine (grid_at W _ x y hx).trans ?_
    show grid W (tG 0 W H p) (y * W + x) = _
    exact grid_at W _ x y hx
  · refine ⟨rfl, rfl, by_places hW fun x y hx hy => ?_⟩
    refine (grid_at W _ x y hx).trans ?_
    show grid H (tG 1 W H p) (x * H + (H - 1 - y)) = _
    refine (grid_at H _ (H - 1 - y) x (by omega)).trans ?_
    show p ((H - 1 - (H - 1 - y)) * W + x) = _
    rw [show H - 1 - (H - 1 - y) = y by omega]
  · refine ⟨rfl, rfl, by_places hW fun x y hx hy => ?_⟩
    refine (grid_at W _ x y hx).trans ?_
    show grid W (tG 2 W H p) ((H - 1 - y) * W + (W - 1 - x)) = _
    refine (grid_at W _ (W - 1 - x) (H - 1 - y) (by omega)).trans ?_
    show p ((H - 1 - (H - 1 - y)) * W + (W - 1 - (W - 1 - x))) = _
    rw [show H - 1 - (H - 1 - y) = y by omega, show W - 1 - (W - 1 - x) = x by omega]
  · refine ⟨rfl, rfl, by_places hW fun x y hx hy => ?_⟩
    refine (grid_at W _ x y hx).trans ?_
    show grid H (tG 3 W H p) ((W - 1 - x) * H + y) = _
    refine (grid_at H _ y (W - 1 - x) (by omega)).trans ?_
    show p (y * W + (W - 1 - (W - 1 - x))) = _
    rw [show W - 1 - (W - 1 - x) = x by omega]

/-- Flipped both ways it is turned twice. -/
def fD (W H : Nat) (p : Nat → Px) : Nat → Px := grid W fun x y => p ((H - 1 - y) * W + x)
def fL (W : Nat) (p : Nat → Px) : Nat → Px := grid W fun x y => p (y * W + (W - 1 - x))
theorem flipped_back (W H : Nat) (p : Nat → Px) (hW : 1 ≤ W) : ∀ i, i < W * H → fD W H (fD W H p) i = p i := by_places hW fun x y hx hy => by
  unfold fD
  rw [grid_at _ _ _ _ hx, grid_at _ _ _ _ hx, show H - 1 - (H - 1 - y) = y by omega]
theorem flipped_both (W H : Nat) (p : Nat → Px) (hW : 1 ≤ W) : ∀ i, i < W * H → fL W (fD W H p) i = tP 2 W H p i := by_places hW fun x y hx hy => by
  have e : tW 2 W H = W := rfl
  have q := tP_at 2 W H p x y hx
  rw [e] at q
  rw [q]
  unfold fL fD
  rw [grid_at _ _ _ _ hx, grid_at _ _ _ _ (by omega)]
  rfl


end Go.Proofs.YtpfobocdbmiagaaDoor
