/- What a grid of a picture holds, plainly. -/
import Derived.Test.YtcicbafdacfbpaiDoorTi9
namespace Go.Proofs.YtcicbafdacfbpaiDoor
open Go.RowKit

theorem keepN_one {q : Nat → Px} {n : Nat} : keepN q n = 1 ↔ Alk q n := by
  unfold keepN
  split
  · rename_i h; exact ⟨fun _ => h, fun _ => rfl⟩
  · rename_i h
    refine ⟨fun e => ?_, fun e => absurd e h⟩
    intro j hj
    obtain rfl : j = 0 := by omega
    rfl
theorem keepN_or (q : Nat → Px) (n : Nat) : keepN q n = 1 ∨ keepN q n = n := by
  unfold keepN
  split
  · exact .inl rfl
  · exact .inr rfl
theorem keepN_pos {q : Nat → Px} {n : Nat} (h0 : 0 < n) : 0 < keepN q n := by
  rcases keepN_or q n with e | e <;> omega

/-- A pixel of a tile of a picture is the picture's. -/
theorem tval_of {W H k dx dy : Nat} (p : Nat → Px) (hx : dx < tw W k) (hy : dy < th W H k) :
    tval (keepN (tpx W p k) (tpn W H k)) (tw W k) (tpx W p k) dx dy = p ((ty W k + dy) * W + (tx W k + dx)) := by
  have hi : dy * tw W k + dx < tpn W H k := by
    unfold tpn
    have := Nat.mul_le_mul_right (tw W k) (show dy + 1 ≤ th W H k by omega)
    rw [Nat.succ_mul, Nat.mul_comm (th W H k)] at this
    omega
  have e : tpx W p k (dy * tw W k + dx) = p ((ty W k + dy) * W + (tx W k + dx)) := by
    unfold tpx
    rw [Nat.add_comm (dy * tw W k), Nat.add_mul_div_right _ _ (by omega), Nat.div_eq_of_lt hx, Nat.zero_add, Nat.add_mul_mod_self_right, Nat.mod_eq_of_lt hx]
  unfold tval
  split
  · rename_i h
    rw [← keepN_one.1 h _ hi, e]
  · exact e

/-- The number of the tile in which a place lies. -/
def tix (W i : Nat) : Nat := i / W / 16 * tc W + i % W / 16
theorem tix_lt {W H i : Nat} (hW : 1 ≤ W) (hi : i < W * H) : tix W i < tn W H := by
  have h1 : i % W < W := Nat.mod_lt _ (by omega)
  have h2 : i / W < H := Nat.div_lt_of_lt_mul hi
  exact place_tn (by unfold tc; omega) (by unfold tc; omega)
theorem tix_iff {W H i k : Nat} (hW : 1 ≤ W) (hi : i < W * H) (hk : k < tn W H) : (tx W k ≤ i % W ∧ i % W < tx W k + tw W k ∧ ty W k ≤ i / W ∧ i / W < ty W k + th W H k) ↔ tix W i = k := by
  have h1 : i % W < W := Nat.mod_lt _ (by omega)
  have h2 : i / W < H := Nat.div_lt_of_lt_mul hi
  have hc : i % W / 16 < tc W := by unfold tc; omega
  have hp := tile_place hW hk
  have e := Nat.div_add_mod k (tc W)
  have e1 : tix W i / tc W = i / W / 16 := by
    unfold tix
    rw [Nat.add_comm, Nat.add_mul_div_right _ _ (by omega), Nat.div_eq_of_lt hc, Nat.zero_add]
  have e2 : tix W i % tc W = i % W / 16 := by
    unfold tix
    rw [Nat.add_comm, Nat.add_mul_mod_self_right, Nat.mod_eq_of_lt hc]
  have key : (tx W k ≤ i % W ∧ i % W < tx W k + tw W k ∧ ty W k ≤ i / W ∧ i / W < ty W k + th W H k) ↔ (i % W / 16 = k % tc W ∧ i / W / 16 = k / tc W) := by
    have h3 := tc_lt.2 hp.1
    have h4 := tc_lt.2 hp.2
    unfold tx ty tw th tx ty
    omega
  rw [key]
  constructor
  · rintro ⟨a, b⟩
    rw [← e, ← a, ← b]
    unfold tix
    rw [Nat.mul_comm]
  · intro h
    rw [← h, e1, e2]
    exact ⟨rfl, rfl⟩
theorem picT_at {W H : Nat} (p : Nat → Px) (hW : 1 ≤ W) {i : Nat} (hi : i < W * H) : ∀ k, k ≤ tn W H → picT W H (fun k => keepN (tpx W p k) (tpn W H k)) (tpx W p) k i = if tix W i < k then p i else px0
  | 0, _ => by rw [if_neg (Nat.not_lt_zero _)]; rfl
  | k + 1, hk => by
    have ih := picT_at p hW hi k (by omega)
    have iff := tix_iff hW hi (show k < tn W H by omega)
    show putT W _ _ _ _ _ _ 0 i = _
    unfold putT
    by_cases h : tix W i = k
    · have hc := iff.2 h
      rw [if_pos (by omega), if_pos (by omega), tval_of p (by omega) (by omega)]
      congr 1
      rw [show ty W k + (i / W - ty W k) = i / W by omega, show tx W k + (i % W - tx W k) = i % W by omega, Nat.mul_comm]
      exact Nat.div_add_mod i W
    · have hc := fun q => h (iff.1 q)
      rw [if_neg (fun q => hc (by omega)), ih]
      by_cases h2 : tix W i < k
      · rw [if_pos h2, if_pos (by omega)]
      · rw [if_neg h2, if_neg (by omega)]
/-- The picture of the grid of a picture. -/
theorem picT_of {W H : Nat} (p : Nat → Px) (hW : 1 ≤ W) (i : Nat) (hi : i < W * H) : picT W H (fun k => keepN (tpx W p k) (tpn W H k)) (tpx W p) (tn W H) i = p i := by
  rw [picT_at p hW hi _ (Nat.le_refl _), if_pos (tix_lt hW hi)]

theorem picture_of (gr W H : Nat) (p : Nat → Px) (w : World) (hG : GridOf w gr W H p) (hW0 : 1 ≤ W) (hW : W ≤ 256) (hH0 : 1 ≤ H) (hH : H ≤ 256) :
    Calls Tryd.prog 18 #[.pointer (some ⟨gr, 0, none⟩)] w fun e w' => ∃ g, e = .returned (.agg #[.int .i64 (W : Int), .int .i64 (H : Int), .slice (some ⟨g, 0, none⟩) (W * H) (W * H)]) ∧ w.heap.size ≤ g ∧ PR w' g (W * H) p ∧ Below w.heap.size w w' := by
  refine (picture_some gr W H _ _ w hG hW0 hW hH0 hH (fun k _ => keepN_or _ _)).mono ?_
  rintro e w' ⟨g, rfl, hg, hr, hb⟩
  exact ⟨g, rfl, hg, hr.congr (fun i hi => picT_of p hW0 i hi), hb⟩
end Go.Proofs.YtcicbafdacfbpaiDoor
