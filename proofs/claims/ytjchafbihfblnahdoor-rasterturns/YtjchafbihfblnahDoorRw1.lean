/- Pictures flipped, turned on and on: contracts as the statement on turns uses them. -/
import Derived.Test.YtjchafbihfblnahDoorRo7
import Derived.Test.YtjchafbihfblnahDoorRo8
import Derived.Test.YtjchafbihfblnahDoorRo9
import Derived.Test.YtjchafbihfblnahDoorRw0
namespace Go.Proofs.YtjchafbihfblnahDoor
open Go.RowKit

theorem tmod4 (z : Int) : -3 ≤ z.tmod 4 ∧ z.tmod 4 ≤ 3 ∧ (z - z.tmod 4) % 4 = 0 := by
  rcases Int.le_total 0 z with h | h
  · rw [Int.tmod_eq_emod_of_nonneg h]; omega
  · obtain ⟨y, rfl⟩ : ∃ y, z = -y := ⟨-z, by omega⟩
    rw [Int.neg_tmod, Int.tmod_eq_emod_of_nonneg (by omega)]
    omega
/-- How many rounds are left. -/
def kMs (k : Int) : Nat := if k ≤ 0 then (-k).toNat else (4 - k).toNat
theorem kMs_pos (k : Int) (h : k > 0) (h3 : k ≤ 3) : kMs (k - 4 + 1) < kMs k := by
  unfold kMs
  rw [if_pos (by omega), if_neg (by omega)]
  omega
theorem kMs_neg (k : Int) (h : k < 0) : kMs (k + 1) < kMs k := by
  unfold kMs
  rw [if_pos (by omega), if_pos (by omega)]
  omega
theorem turn_area (s W H : Nat) : tW s W H * tW s H W = W * H := by
  rcases turn_sides s W H with ⟨h1, h2⟩ | ⟨h1, h2⟩
  · rw [h1, h2]
  · rw [h1, h2, Nat.mul_comm]

/-- A quarter more. -/
theorem turned_more (s W H : Nat) (p : Nat → Px) (hs : s < 4) (hW : 1 ≤ W) (hH : 1 ≤ H) : tW s H W = tW ((s + 1) % 4) W H ∧ tW s W H = tW ((s + 1) % 4) H W ∧ ∀ i, i < W * H → tP 1 (tW s W H) (tW s H W) (tP s W H p) i = tP ((s + 1) % 4) W H p i := by
  have hc : s = 0 ∨ s = 1 ∨ s = 2 ∨ s = 3 := by omega
  rcases hc with rfl | rfl | rfl | rfl
  · refine ⟨rfl, rfl, ?_⟩
    rw [Nat.mul_comm]
    refine by_places hH fun x y hx hy => ?_
    refine (grid_at H _ x y hx).trans ?_
    show grid W (tG 0 W H p) ((H - 1 - x) * W + y) = _
    refine (grid_at W _ y (H - 1 - x) hy).trans ?_
    exact (grid_at H (tG 1 W H p) x y hx).symm
  · refine ⟨rfl, rfl, by_places hW fun x y hx hy => ?_⟩
    refine (grid_at W _ x y hx).trans ?_
    show grid H (tG 1 W H p) ((W - 1 - x) * H + y) = _
    refine (grid_at H _ y (W - 1 - x) hy).trans ?_
    exact (grid_at W (tG 2 W H p) x y hx).symm
  · refine ⟨rfl, rfl, ?_⟩
    rw [Nat.mul_comm]
    refine by_places hH fun x y hx hy => ?_
    refine (grid_at H _ x y hx).trans ?_
    show grid W (tG 2 W H p) ((H - 1 - x) * W + y) = _
    refine (grid_at W _ y (H - 1 - x) hy).trans ?_
    refine Eq.trans ?_ (grid_at H (tG 3 W H p) x y hx).symm
    show p ((H - 1 - (H - 1 - x)) * W + (W - 1 - y)) = p (x * W + (W - 1 - y))
    rw [show H - 1 - (H - 1 - x) = x by omega]
  · refine ⟨rfl, rfl, by_places hW fun x y hx hy => ?_⟩
    refine (grid_at W _ x y hx).trans ?_
    show grid H (tG 3 W H p) ((W - 1 - x) * H + y) = _
    refine (grid_at H _ y (W - 1 - x) hy).trans ?_
    refine Eq.trans ?_ (grid_at W (tG 0 W H p) x y hx).symm
    show p (y * W + (W - 1 - (W - 1 - x))) = p (y * W + x)
    rw [show W - 1 - (W - 1 - x) = x by omega]
theorem turned_not (W H : Nat) (p : Nat → Px) (hW : 1 ≤ W) : ∀ i, i < W * H → p i = tP 0 W H p i := by_places hW fun x y hx _ => (grid_at W (tG 0 W H p) x y hx).symm

theorem turnOf_step (s W H : Nat) (a : Option Addr) (c : Nat) (p : Nat → Px) (w : World) (hs : s < 4) (hW0 : 1 ≤ W) (hW : W ≤ 256) (hH0 : 1 ≤ H) (hH : H ≤ 256) (hP : IsPx w a (W * H) (tP s W H p)) :
    Calls Tryd.prog 33 #[.agg #[.int .i64 (tW s W H : Int), .int .i64 (tW s H W : Int), .slice a (W * H) c]] w fun e w' => ∃ a2 c2, e = .returned (.agg #[.int .i64 (tW ((s + 1) % 4) W H : Int), .int .i64 (tW ((s + 1) % 4) H W : Int), .slice a2 (W * H) c2]) ∧ IsPx w' a2 (W * H) (tP ((s + 1) % 4) W H p) ∧ Below w.heap.size w w' := by
  have hsd := turn_sides s W H
  obtain ⟨e1, e2, e3⟩ := turned_more s W H p hs hW0 hH0
  have ha := turn_area s W H
  refine (turnOf_any (tW s W H) (tW s H W) a (W * H) c (tP s W H p) w (by omega) (by omega) (by omega) ha.symm hP).mono ?_
  rintro e w' ⟨g, c2, rfl, hpr, hb⟩
  have hM : tW s H W * tW s W H = W * H := by rw [Nat.mul_comm]; exact ha
  rw [hM] at hpr ⊢
  have hb2 : W * H ≤ 100000 := Nat.le_trans (Nat.mul_le_mul hW hH) (by omega)
  refine ⟨some ⟨g, 0, none⟩, c2, ?_, (hpr.isPx hb2).congr e3, hb⟩
  rw [e1, e2]

/-- A picture flipped, one way or the other. -/
def fP (d : Bool) (W H : Nat) (p : Nat → Px) : Nat → Px := if d then fD W H p else fL W p
theorem flip_any (d : Bool) (W H : Nat) (a : Option Addr) (n c : Nat) (p : Nat → Px) (w : World) (hW0 : 1 ≤ W) (hW : W ≤ 256) (hH0 : 1 ≤ H) (hH : H ≤ 256) (hn : n = W * H) (hP : IsPx w a n p) :
    Calls Tryd.prog 29 #[.agg #[.int .i64 (W : Int), .int .i64 (H : Int), .slice a n c], .bool d] w fun e w' => ∃ a2 c2, e = .returned (.tuple #[.agg #[.int .i64 (W : Int), .int .i64 (H : Int), .slice a2 (W * H) c2], .nilIface]) ∧ IsPx w' a2 (W * H) (fP d W H p) ∧ Below w.heap.size w w' := by
  cases d
  · exact flip_false W H a n c p w hW0 hW hH0 hH hn hP
  · exact flip_true W H a n c p w hW0 hW hH0 hH hn hP
theorem flipOf_any (d : Bool) (W H : Nat) (a : Option Addr) (n c : Nat) (p : Nat → Px) (w : World) (hW0 : 1 ≤ W) (hW : W ≤ 256) (hH0 : 1 ≤ H) (hH : H ≤ 256) (hn : n = W * H) (hP : IsPx w a n p) :
    Calls Tryd.prog 34 #[.agg #[.int .i64 (W : Int), .int .i64 (H : Int), .slice a n c], .bool d] w fun e w' => ∃ g c2, e = .returned (.agg #[.int .i64 (W : Int), .int .i64 (H : Int), .slice (some ⟨g, 0, none⟩) (W * H) c2]) ∧ PR w' g (W * H) (fP d W H p) ∧ Below w.heap.size w w' := by
  cases d
  · exact flipOf_false W H a n c p w hW0 hW hH0 hH hn hP
  · exact flipOf_true W H a n c p w hW0 hW hH0 hH hn hP
end Go.Proofs.YtjchafbihfblnahDoor
