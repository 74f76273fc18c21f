/- plain.Code of one of the errors. layercakelaw2.coded by its contracts. Pictures: the document's small tests, a pixel at a place; what the statements tell of a picture or an error. -/
import Derived.Test.YtcicbafdacfbpaiGreatDoorCode
import Derived.Test.YtcicbafdacfbpaiGreatDoorRo1
import Derived.Test.YtcicbafdacfbpaiGreatDoorRt6
namespace Go.Proofs.YtcicbafdacfbpaiGreatDoor
open Go.RowKit

theorem code_sent (i : Nat) (w : World) (a : Nat → Addr) (hS : Sent w a) (hi : i < 9) :
    Calls Tryz.prog 42 #[sentV a i] w fun e w' => e = .returned (.tuple #[.int .i64 ((i : Int) + 1), .int .i64 (-1)]) ∧ Below w.heap.size w w' := by
  refine (code_bare (a i) i w a hS (by omega) (hS.row i hi) (fun k hk => ⟨fun h => ?_, fun h => by rw [h]⟩)).mono ?_
  · rcases Nat.decEq k i with h' | h'
    · exact absurd h (hS.apart i k hi hk (fun e => h' e.symm))
    · exact h'
  · rintro e w' ⟨rfl, hb⟩
    refine ⟨?_, hb⟩
    unfold codeOf
    rw [if_pos hi]
end Go.Proofs.YtcicbafdacfbpaiGreatDoor
namespace Go.Proofs.YtcicbafdacfbpaiGreatDoor
open Go.RowKit

end Go.Proofs.YtcicbafdacfbpaiGreatDoor
namespace Go.Proofs.YtcicbafdacfbpaiGreatDoor
open Go.RowKit

set_option maxHeartbeats 4000000 in
set_option maxRecDepth 100000 in
theorem dat_any (W H : Nat) (x y : Nat) (a : Option Addr) (n c : Nat) (p : Nat → Px) (w : World) (hP : IsPx w a n p) (hW : W ≤ 256) (hH : H ≤ 256) (hx : x < W) (hy : y < H) (hn : n = W * H) :
    Calls Tryz.prog 45 #[.agg #[.int .i64 (W : Int), .int .i64 (H : Int), .slice a n c], .int .i64 (x : Int), .int .i64 (y : Int)] w fun e w' => e = .returned (p (y * W + x)).val ∧ Below w.heap.size w w' := by
  have hlt : y * W + x < n := by
    have h2 : (y + 1) * W ≤ H * W := Nat.mul_le_mul_right W hy
    rw [hn, Nat.mul_comm W H]
    rw [Nat.succ_mul] at h2
    omega
  have hyW : y * W ≤ 65536 := Nat.mul_le_mul (show y ≤ 256 by omega) hW
  obtain ⟨t, ht⟩ : ∃ t, t = y * W := ⟨_, rfl⟩
  have zt : (y : Int) * (W : Int) = (t : Int) := by rw [ht]; simp
  rw [← ht] at hlt hyW ⊢
  have wt : IntKind.i64.wrap (t : Int) = (t : Int) := by rw [IntKind.wrap_i64]; omega
  have e0 : (t : Int) + (x : Int) = ((t + x : Nat) : Int) := by simp
  obtain ⟨b, off, rfl, hm, hc⟩ := hP.resolve_left (by omega)
  have hcc := hc (t + x) hlt
  have hb2 : Below w.heap.size w ((w.alloc (.cells #[.int .i64 (W : Int), .int .i64 (H : Int), .slice (some ⟨b, off, none⟩) n c] 24)).alloc (.cells #[.int .u8 0, .int .u8 0, .int .u8 0, .int .u8 0] 39)) := ((Below.refl _ _).alloc (Nat.le_refl _) _).alloc (by simp) _
  obtain ⟨c0, c1, c2, c3⟩ := hcc.below hb2 hcc.lt
  have HBB := hide (below_two w)
  generalize p (t + x) = q at *
  unfold Px.val
  obtain ⟨k, hk⟩ : ∃ k, k = t + x := ⟨_, rfl⟩
  rw [← hk] at hlt e0 c0 c1 c2 c3
  have wk : IntKind.i64.wrap (k : Int) = (k : Int) := by rw [IntKind.wrap_i64]; omega
  have hkn : (k : Int) < (n : Int) := by omega
  clear hk hc hcc hb2 ht hP hx hy hn
  go_enter Tryz.func45, Tryz.ntmps45
  go_wp2
  refine bodyPost_ret (v := .agg #[.int .u8 (q.r.toNat : Int), .int .u8 (q.g.toNat : Int), .int .u8 (q.b.toNat : Int), .int .u8 (q.a.toNat : Int)]) ?_ rfl ⟨rfl, ?_⟩
  · rw [results_cellP (p := 6) (ty := 39) (by kernel_rfl)]
    go_simp
  · exact unhide HBB _ _

set_option maxHeartbeats 1000000 in
theorem inP_any (W H x y : Int) (a : Option Addr) (n c : Nat) (w : World) :
    Calls Tryz.prog 43 #[.agg #[.int .i64 W, .int .i64 H, .slice a n c], .int .i64 x, .int .i64 y] w fun e w' => e = .returned (.bool (decide (0 ≤ x ∧ 0 ≤ y ∧ x < W ∧ y < H))) ∧ Below w.heap.size w w' := by
  have hb : Below w.heap.size w (w.alloc (.cells #[.int .i64 W, .int .i64 H, .slice a n c] 24)) := (Below.refl _ _).alloc (Nat.le_refl _) _
  have HB := hide hb
  obtain ⟨r, hr⟩ : ∃ r, r = decide (0 ≤ x ∧ 0 ≤ y ∧ x < W ∧ y < H) := ⟨_, rfl⟩
  have d : (decide (x ≥ 0) = false ∧ r = false) ∨ (decide (x ≥ 0) = true ∧ decide (y ≥ 0) = false ∧ r = false) ∨ (decide (x ≥ 0) = true ∧ decide (y ≥ 0) = true ∧ decide (x < W) = false ∧ r = false) ∨ (decide (x ≥ 0) = true ∧ decide (y ≥ 0) = true ∧ decide (x < W) = true ∧ decide (y < H) = r) := by
    subst hr
    simp only [decide_eq_true_eq, decide_eq_false_iff_not, decide_eq_decide]
    omega
  rw [← hr]
  clear hr hb
  rcases d with ⟨d1, rfl⟩ | ⟨d1, d2, rfl⟩ | ⟨d1, d2, d3, rfl⟩ | ⟨d1, d2, d3, d4⟩
  all_goals
    go_enter Tryz.func43, Tryz.ntmps43
    go_wp2
    go_ret
    exact ⟨rfl, unhide HB⟩

theorem nearP_any (z : Int) (w : World) :
    Calls Tryz.prog 12 #[.int .i64 z] w fun e w' => e = .returned (.bool (decide (Nr z))) ∧ w' = w := by
  by_cases h1 : -10000 ≤ z
  · have d1 : decide (z ≥ -10000) = true := decide_eq_true h1
    have d1' : decide (-10000 ≤ z) = true := d1
    have hr : decide (Nr z) = decide (z ≤ 10000) := by unfold Nr; simp [h1]
    rw [hr]
    clear h1 hr
    go_enter Tryz.func12, Tryz.ntmps12
    go_wp2
    go_ret
    exact ⟨rfl, rfl⟩
  · have d1 : decide (z ≥ -10000) = false := decide_eq_false h1
    have d1' : decide (-10000 ≤ z) = false := d1
    rw [decide_eq_false (fun q : Nr z => h1 q.1)]
    clear h1
    go_enter Tryz.func12, Tryz.ntmps12
    go_wp2
    go_ret
    exact ⟨rfl, rfl⟩


end Go.Proofs.YtcicbafdacfbpaiGreatDoor
