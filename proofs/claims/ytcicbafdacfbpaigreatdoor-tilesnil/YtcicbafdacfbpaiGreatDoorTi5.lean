/- Grids: of a picture; is it none? Its size; a search for tiles; how many are plain: the program's. -/
import Derived.Test.YtcicbafdacfbpaiGreatDoorTi4
import Derived.Test.YtcicbafdacfbpaiGreatDoorMg4
namespace Go.Proofs.YtcicbafdacfbpaiGreatDoor
open Go.RowKit

/-- The pixels of the k-th tile of a picture. -/
def tpx (W : Nat) (p : Nat → Px) (k j : Nat) : Px := p ((ty W k + j / tw W k) * W + (tx W k + j % tw W k))
/-- How many pixels the k-th tile has. -/
def tpn (W H k : Nat) : Nat := tw W k * th W H k
/-- The grid of a picture. -/
def GridOf (w : World) (g W H : Nat) (p : Nat → Px) : Prop := GridAt w g W H (fun k => keepN (tpx W p k) (tpn W H k)) (tpx W p)
theorem GridOf.below {w w' : World} {g W H : Nat} {p : Nat → Px} (h : GridOf w g W H p) (hb : Below w.heap.size w w') : GridOf w' g W H p := GridAt.below h hb

theorem tc_pos {W : Nat} (h : 1 ≤ W) : 0 < tc W := by unfold tc; omega
theorem tile_place {W H k : Nat} (hW : 1 ≤ W) (h : k < tn W H) : k % tc W < tc W ∧ k / tc W < tc H :=
  ⟨Nat.mod_lt _ (tc_pos hW), Nat.div_lt_of_lt_mul (by unfold tn at h; exact h)⟩
theorem tile_in {W H k : Nat} (hW : 1 ≤ W) (h : k < tn W H) : tx W k + tw W k ≤ W ∧ ty W k + th W H k ≤ H ∧ 0 < tw W k ∧ 0 < th W H k ∧ tw W k ≤ 16 ∧ th W H k ≤ 16 := by
  obtain ⟨h1, h2⟩ := tile_place hW h
  have h3 := tc_lt.2 h1
  have h4 := tc_lt.2 h2
  unfold tw th tx ty
  omega
theorem tpn_in {W H k : Nat} (hW : 1 ≤ W) (h : k < tn W H) : 0 < tpn W H k ∧ tpn W H k ≤ 256 := by
  obtain ⟨_, _, h1, h2, h3, h4⟩ := tile_in hW h
  exact ⟨Nat.mul_pos h1 h2, Nat.mul_le_mul h3 h4⟩

set_option maxHeartbeats 1000000 in
theorem of_right (W H : Nat) (a : Option Addr) (n c : Nat) (p : Nat → Px) (w : World) (hP : IsPx w a n p) (hW0 : 1 ≤ W) (hW : W ≤ 256) (hH0 : 1 ≤ H) (hH : H ≤ 256) (hn : n = W * H) (hnc : n ≤ c) :
    Calls Tryz.prog 9 #[.agg #[.int .i64 (W : Int), .int .i64 (H : Int), .slice a n c]] w fun e w' => ∃ g, e = .returned (.tuple #[.pointer (some ⟨g, 0, none⟩), .nilIface]) ∧ w.heap.size ≤ g ∧ GridOf w' g W H p ∧ Below w.heap.size w w' := by
  have HA := hide (al1 w (.cells #[.int .i64 (W : Int), .int .i64 (H : Int), .slice a n c] 24))
  have HR := hide (fun w => isRight_any (W : Int) (H : Int) a n c w)
  rw [decide_eq_true (show RightP (W : Int) (H : Int) n by unfold RightP; rw [hn]; exact ⟨⟨by omega, by omega⟩, ⟨by omega, by omega⟩, by simp⟩)] at HR
  have HT : Hid (∀ w1 kp, Below w.heap.size w w1 → w1.heap[kp]? = some (.cells #[.int .i64 (W : Int), .int .i64 (H : Int), .slice a n c] 24) → Calls Tryz.prog 32 #[.int .i64 (W : Int), .int .i64 (H : Int), .func (.func 33) #[] #[.pointer (some ⟨kp, 0, none⟩)]] w1 fun e w' => ∃ g, e = .returned (.pointer (some ⟨g, 0, none⟩)) ∧ w1.heap.size ≤ g ∧ GridOf w' g W H p ∧ Below w1.heap.size w1 w') := fun w1 kp h hk => by
    refine tmade_any W H 33 _ (tpn W H) (tpx W p) w1 hW0 hW hH0 hH (fun args w => by kernel_rfl) (fun k hk => ⟨(tpn_in hW0 hk).1, by have := (tpn_in hW0 hk).2; omega⟩) (fun k wr hkl hb => ?_)
    obtain ⟨h1, h2, h3, _⟩ := tile_in hW0 hkl
    exact ofC_any kp W H (tx W k) (ty W k) (tw W k) (th W H k) a n c p wr (blk_below hk hb (blk_lt hk)) ((hP.below h).below hb) hW hH hn h1 h2 h3 hnc
  clear hP hn
  go_enter Tryz.func9, Tryz.ntmps9
  go_wp2_with fail
  generalize w.alloc (.cells #[.int .i64 (W : Int), .int .i64 (H : Int), .slice a n c] 24) = w1 at *
  obtain ⟨B, hB⟩ : ∃ B, B = w.heap.size := ⟨_, rfl⟩
  rw [← hB] at HA HT ⊢
  obtain ⟨hs1, k0, hb1⟩ := unhide HA
  refine (unhide HR w1).mono ?_
  rintro e w2 ⟨rfl, hb2⟩
  have k2 := blk_below k0 hb2 (blk_lt k0)
  have hb12 := hb1.trans (hb2.mono (by omega))
  have HT2 := hide (unhide HT w2 B hb12 k2)
  have hs2 := hb2.size
  have c0 : w2.cell? ⟨B, 0, none⟩ = some (.int .i64 (W : Int)) := blk_cell k2 0
  have c1 : w2.cell? ⟨B, 1, none⟩ = some (.int .i64 (H : Int)) := blk_cell k2 1
  have HB2 := hide hb12
  have HBE := hide hB
  clear HT HA k0 hb1 hb2 hb12 k2 HR hB
  go_wp2_with fail
  refine (unhide HT2).mono ?_
  rintro e w3 ⟨g, rfl, hg, hgr, hb3⟩
  have HF := hide (show B ≤ g ∧ GridOf w3 g W H p ∧ Below B w w3 from ⟨by omega, hgr, (unhide HB2).trans (hb3.mono (by omega))⟩)
  clear hgr hb3 HT2 HB2 c0 c1
  go_wp2
  go_ret2
  rw [← unhide HBE]
  exact ⟨g, rfl, (unhide HF).1, (unhide HF).2.1, (unhide HF).2.2⟩

theorem isNone_nil (w : World) :
    Calls Tryz.prog 35 #[.pointer none] w fun e w' => e = .returned (.bool true) ∧ w' = w := by
  go_enter Tryz.func35, Tryz.ntmps35
  go_wp2
  go_ret
  exact ⟨rfl, rfl⟩
theorem isNone_some (g W H : Nat) (m : Nat → Nat) (q : Nat → Nat → Px) (w : World) (h : GridAt w g W H m q) (h0 : 0 < tn W H) :
    Calls Tryz.prog 35 #[.pointer (some ⟨g, 0, none⟩)] w fun e w' => e = .returned (.bool false) ∧ w' = w := by
  obtain ⟨t, c, h1, _⟩ := h
  have c2 : w.cell? ⟨g, 2, none⟩ = some (.slice (some ⟨t, 0, none⟩) (tn W H) c) := blk_cell h1 2
  have hz : ¬ tn W H = 0 := by omega
  have hz' : decide ((tn W H : Int) = 0) = false := decide_eq_false (by omega)
  have hl := blk_lt h1
  clear h1
  generalize tn W H = N at *
  go_enter Tryz.func35, Tryz.ntmps35
  go_wp2
  go_ret
  exact ⟨by first | rfl | simp [hz], rfl⟩
theorem size_some (g W H : Nat) (m : Nat → Nat) (q : Nat → Nat → Px) (w : World) (h : GridAt w g W H m q) (h0 : 0 < tn W H) :
    Calls Tryz.prog 29 #[.pointer (some ⟨g, 0, none⟩)] w fun e w' => e = .returned (.tuple #[.int .i64 (W : Int), .int .i64 (H : Int)]) ∧ Below w.heap.size w w' := by
  have HN := hide (isNone_some g W H m q w h h0)
  have HB := hide (fun n => belowD (n := n) (Below.refl w.heap.size w))
  obtain ⟨t, c, h1, _⟩ := h
  have c0 : w.cell? ⟨g, 0, none⟩ = some (.int .i64 (W : Int)) := blk_cell h1 0
  have c1 : w.cell? ⟨g, 1, none⟩ = some (.int .i64 (H : Int)) := blk_cell h1 1
  have hl := blk_lt h1
  clear h1
  go_enter Tryz.func29, Tryz.ntmps29
  go_wp2_with fail
  refine (unhide HN).mono ?_
  rintro e w1 ⟨rfl, hw⟩
  have hw := hw.symm
  subst hw
  clear HN
  go_wp2
  go_quiet (fail)
  go_wp2
  go_ret2
  exact ⟨rfl, unhide HB _⟩
theorem size_nil (w : World) :
    Calls Tryz.prog 29 #[.pointer none] w fun e w' => e = .returned (.tuple #[.int .i64 0, .int .i64 0]) ∧ w' = w := by
  have HN := hide (isNone_nil w)
  go_enter Tryz.func29, Tryz.ntmps29
  go_wp2_with fail
  refine (unhide HN).mono ?_
  rintro e w1 ⟨rfl, hw⟩
  have hw := hw.symm
  subst hw
  clear HN
  go_wp2
  go_ret2
  exact ⟨rfl, rfl⟩
end Go.Proofs.YtcicbafdacfbpaiGreatDoor
