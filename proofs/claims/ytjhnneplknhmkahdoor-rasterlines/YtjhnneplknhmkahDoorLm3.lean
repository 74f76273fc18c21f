/- Quotients rounded down: the document's. Written by genrl.py. -/
import Derived.Test.YtjhnneplknhmkahDoorLm2
import Derived.Test.YtjhnneplknhmkahDoorRo3
namespace Go.Proofs.YtjhnneplknhmkahDoor
open Go.RowKit

set_option maxHeartbeats 2000000 in
theorem downPart_any (n k : Int) (w : World) (hk : 1 ≤ k) (hk2 : k ≤ 100000) (hn : -1000000000000 ≤ n ∧ n ≤ 1000000000000) :
    Calls Tryd.prog 71 #[.int .i64 n, .int .i64 k] w fun e w' => e = .returned (.int .i64 (n / k)) ∧ w' = w := by
  obtain ⟨q, hq⟩ : ∃ q, q = n.tdiv k := ⟨_, rfl⟩
  obtain ⟨r, hr⟩ : ∃ r, r = n.tmod k := ⟨_, rfl⟩
  have zq : n.tdiv k = q := hq.symm
  have zr : n.tmod k = r := hr.symm
  have hz : ((k : Int) == 0) = false := by simp; omega
  have hz2 : k ≠ 0 := by omega
  have key : n = k * q + r := by rw [hq, hr]; exact (Int.mul_tdiv_add_tmod n k).symm
  have hrb : -k < r ∧ r < k ∧ (0 ≤ n → 0 ≤ r) ∧ (n < 0 → r ≤ 0) := by
    by_cases h : 0 ≤ n
    · rw [hr, Int.tmod_eq_emod_of_nonneg h]
      have := Int.emod_nonneg n hz2
      have := Int.emod_lt_of_pos n (show 0 < k by omega)
      omega
    · obtain ⟨y, rfl⟩ : ∃ y, n = -y := ⟨-n, by omega⟩
      rw [hr, Int.neg_tmod, Int.tmod_eq_emod_of_nonneg (by omega)]
      have := Int.emod_nonneg y hz2
      have := Int.emod_lt_of_pos y (show 0 < k by omega)
      omega
  have hdv : n / k = q + r / k := by rw [key, Int.add_comm, Int.add_mul_ediv_left _ _ hz2, Int.add_comm]
  have hqb : -1000000000001 ≤ q ∧ q ≤ 1000000000001 := by
    have h1 : q.natAbs ≤ n.natAbs := by rw [hq]; exact Int.natAbs_tdiv_le_natAbs n k
    omega
  have wq : IntKind.i64.wrap q = q := by rw [IntKind.wrap_i64]; omega
  have wr : IntKind.i64.wrap r = r := by rw [IntKind.wrap_i64]; omega
  have wq1 : IntKind.i64.wrap (q - 1) = q - 1 := by rw [IntKind.wrap_i64]; omega
  obtain ⟨m, hm⟩ : ∃ m, m = q * k := ⟨_, rfl⟩
  have zm : q * k = m := hm.symm
  have hmr : m = n - r := by rw [hm, Int.mul_comm]; omega
  have wm : IntKind.i64.wrap m = m := by rw [IntKind.wrap_i64]; omega
  by_cases hneg : r < 0
  · have e : r / k = -1 := by
      have h1 : (r + k * 1) / k = r / k + 1 := Int.add_mul_ediv_left _ _ hz2
      have h2 : (r + k * 1) / k = 0 := Int.ediv_eq_zero_of_lt (by omega) (by omega)
      omega
    rw [hdv, e]
    have d1 : decide (m > n) = true := decide_eq_true (by omega)
    have hs : q + -1 = q - 1 := by omega
    rw [hs]
    clear hq hr key hrb hdv e hs hm hmr hneg zr wr
    go_enter Tryd.func71, Tryd.ntmps71
    go_wp2
    go_ret
    exact ⟨rfl, rfl⟩
  · have e : r / k = 0 := Int.ediv_eq_zero_of_lt (by omega) (by omega)
    rw [hdv, e, Int.add_zero]
    have d1 : decide (m > n) = false := decide_eq_false (by omega)
    clear hq hr key hrb hdv e hm hmr hneg zr wr
    go_enter Tryd.func71, Tryd.ntmps71
    go_wp2
    go_ret
    exact ⟨rfl, rfl⟩

/-- A line's pixels. -/
def lnP (W H : Nat) (X Y : Nat → Int) (q : Px) (p : Nat → Px) (k : Nat) : Nat → Px := fun i => if lnM W H X Y k i then q else p i
theorem lnP_zero (W H : Nat) (X Y : Nat → Int) (q : Px) (p : Nat → Px) : lnP W H X Y q p 0 = p := by funext i; simp [lnP, lnM]
theorem lnP_in (W H : Nat) (X Y : Nat → Int) (q : Px) (p : Nat → Px) (k x y : Nat) (hX : X k = (x : Int)) (hY : Y k = (y : Int)) (hx : x < W) (hy : y < H) : lnP W H X Y q p (k + 1) = updP (lnP W H X Y q p k) (y * W + x) q := by
  funext i
  have h : lnM W H X Y (k + 1) = updB (lnM W H X Y k) (y * W + x) := by
    show (if 0 ≤ X k ∧ X k < (W : Int) ∧ 0 ≤ Y k ∧ Y k < (H : Int) then _ else _) = _
    rw [if_pos (by omega), hX, hY, Int.toNat_natCast, Int.toNat_natCast]
  unfold lnP updP
  rw [h]
  unfold updB
  by_cases e : i = y * W + x
  · rw [if_pos e, if_pos e]; rfl
  · rw [if_neg e, if_neg e]
theorem lnP_out (W H : Nat) (X Y : Nat → Int) (q : Px) (p : Nat → Px) (k : Nat) (h : ¬ (0 ≤ X k ∧ 0 ≤ Y k ∧ X k < (W : Int) ∧ Y k < (H : Int))) : lnP W H X Y q p (k + 1) = lnP W H X Y q p k := by
  funext i
  have h2 : lnM W H X Y (k + 1) = lnM W H X Y k := by
    show (if 0 ≤ X k ∧ X k < (W : Int) ∧ 0 ≤ Y k ∧ Y k < (H : Int) then _ else _) = _
    rw [if_neg (by omega)]
  unfold lnP
  rw [h2]
end Go.Proofs.YtjhnneplknhmkahDoor
