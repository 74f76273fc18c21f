/- Pictures: the program's small tests, and a pixel at a place. -/
import Derived.Test.YtjhnneplknhmkahDoorSh
import Derived.Test.YtjhnneplknhmkahDoorRt0
import Derived.Test.YtjhnneplknhmkahDoorQf
import Derived.Test.YtjhnneplknhmkahDoorRs
namespace Go.Proofs.YtjhnneplknhmkahDoor
open Go.RowKit

theorem areSides_any (a b : Int) (w : World) :
    Calls Tryd.prog 40 #[.int .i64 a, .int .i64 b] w fun e w' => e = .returned (.bool (decide ((1 ≤ a ∧ a ≤ 256) ∧ (1 ≤ b ∧ b ≤ 256)))) ∧ w' = w := by
  have e1 := fun w => isSide_any a w
  have e2 := fun w => isSide_any b w
  by_cases h1 : 1 ≤ a ∧ a ≤ 256
  · rw [decide_eq_true h1] at e1
    have hr : decide ((1 ≤ a ∧ a ≤ 256) ∧ (1 ≤ b ∧ b ≤ 256)) = decide (1 ≤ b ∧ b ≤ 256) := by simp [h1]
    rw [hr]
    generalize decide (1 ≤ b ∧ b ≤ 256) = r at *
    have E1 := hide e1
    have E2 := hide e2
    clear hr h1 e1 e2
    go_enter Tryd.func40, Tryd.ntmps40
    go_wp2_with fail
    refine (unhide E1 _).mono ?_; rintro e w1 ⟨rfl, rfl⟩
    go_wp2_with fail
    refine (unhide E2 _).mono ?_; rintro e w1 ⟨rfl, rfl⟩
    go_wp2
    go_ret
    exact ⟨rfl, rfl⟩
  · rw [decide_eq_false h1] at e1
    rw [decide_eq_false (fun q : (1 ≤ a ∧ a ≤ 256) ∧ (1 ≤ b ∧ b ≤ 256) => h1 q.1)]
    have E1 := hide e1
    clear h1 e1 e2
    go_enter Tryd.func40, Tryd.ntmps40
    go_wp2_with fail
    refine (unhide E1 _).mono ?_; rintro e w1 ⟨rfl, rfl⟩
    go_wp2
    go_ret
    exact ⟨rfl, rfl⟩

set_option maxHeartbeats 1000000 in
theorem holds_any (W H x y : Int) (a : Option Addr) (n c : Nat) (w : World) :
    Calls Tryd.prog 44 #[.agg #[.int .i64 W, .int .i64 H, .slice a n c], .int .i64 x, .int .i64 y] w fun e w' => e = .returned (.bool (decide (0 ≤ x ∧ x < W ∧ 0 ≤ y ∧ y < H))) ∧ Below w.heap.size w w' := by
  have hb : Below w.heap.size w (w.alloc (.cells #[.int .i64 W, .int .i64 H, .slice a n c] 26)) := (Below.refl _ _).alloc (Nat.le_refl _) _
  have HB := hide hb
  obtain ⟨r, hr⟩ : ∃ r, r = decide (0 ≤ x ∧ x < W ∧ 0 ≤ y ∧ y < H) := ⟨_, rfl⟩
  have d : (decide (x ≥ 0) = false ∧ r = false) ∨ (decide (x ≥ 0) = true ∧ decide (x < W) = false ∧ r = false) ∨ (decide (x ≥ 0) = true ∧ decide (x < W) = true ∧ decide (y ≥ 0) = false ∧ r = false) ∨ (decide (x ≥ 0) = true ∧ decide (x < W) = true ∧ decide (y ≥ 0) = true ∧ decide (y < H) = r) := by
    subst hr
    simp only [decide_eq_true_eq, decide_eq_false_iff_not, decide_eq_decide]
    omega
  rw [← hr]
  clear hr hb
  rcases d with ⟨d1, rfl⟩ | ⟨d1, d2, rfl⟩ | ⟨d1, d2, d3, rfl⟩ | ⟨d1, d2, d3, d4⟩
  all_goals
    go_enter Tryd.func44, Tryd.ntmps44
    go_wp2
    go_ret
    exact ⟨rfl, unhide HB⟩

theorem below_two (w : World) (o o2 : Obj) : Below w.heap.size w ((w.alloc o).alloc o2) := ((Below.refl _ _).alloc (Nat.le_refl _) _).alloc (by simp) _

set_option maxHeartbeats 4000000 in
set_option maxRecDepth 100000 in
theorem rat_any (W H : Nat) (x y : Nat) (a : Option Addr) (n c : Nat) (p : Nat → Px) (w : World) (hP : IsPx w a n p) (hW : W ≤ 256) (hH : H ≤ 256) (hx : x < W) (hy : y < H) (hn : n = W * H) :
    Calls Tryd.prog 45 #[.agg #[.int .i64 (W : Int), .int .i64 (H : Int), .slice a n c], .int .i64 (x : Int), .int .i64 (y : Int)] w fun e w' => e = .returned (p (y * W + x)).val ∧ Below w.heap.size w w' := by
  have hlt : y * W + x < n := by
    have h2 : (y + 1) * W ≤ H * W := Nat.mul_le_mul_right W hy
    rw [hn, Nat.mul_comm W H]
    rw [Nat.succ_mul] at h2
    omega
  have hyW : y * W ≤ 65536 := Nat.mul_le_mul (show y ≤ 256 by omega) hW
  obtain ⟨t, ht⟩ : ∃ t, t = y * W := ⟨_, rfl⟩
  have zt : (y : Int) * (W : Int) = (t : Int) := by rw [ht]; simp
  rw [← ht] at hlt hyW ⊢
  have wt : IntKind.i64.wrap (t : Int) = (t : Int) := by rw [IntKind.wrap_i64]; omega
  have e0 : (t : Int) + (x : Int) = ((t + x : Nat) : Int) := by simp
  obtain ⟨b, off, rfl, hm, hc⟩ := hP.resolve_left (by omega)
  have hcc := hc (t + x) hlt
  have hb2 : Below w.heap.size w ((w.alloc (.cells #[.int .i64 (W : Int), .int .i64 (H : Int), .slice (some ⟨b, off, none⟩) n c] 26)).alloc (.cells #[.int .u8 0, .int .u8 0, .int .u8 0, .int .u8 0] 23)) := ((Below.refl _ _).alloc (Nat.le_refl _) _).alloc (by simp) _
  obtain ⟨c0, c1, c2, c3⟩ := hcc.below hb2 hcc.lt
  have HBB := hide (below_two w)
  generalize p (t + x) = q at *
  unfold Px.val
  obtain ⟨k, hk⟩ : ∃ k, k = t + x := ⟨_, rfl⟩
  rw [← hk] at hlt e0 c0 c1 c2 c3
  have wk : IntKind.i64.wrap (k : Int) = (k : Int) := by rw [IntKind.wrap_i64]; omega
  have hkn : (k : Int) < (n : Int) := by omega
  clear hk hc hcc hb2 ht hP hx hy hn
  go_enter Tryd.func45, Tryd.ntmps45
  go_wp2
  refine bodyPost_ret (v := .agg #[.int .u8 (q.r.toNat : Int), .int .u8 (q.g.toNat : Int), .int .u8 (q.b.toNat : Int), .int .u8 (q.a.toNat : Int)]) ?_ rfl ⟨rfl, ?_⟩
  · rw [results_cellP (p := 6) (ty := 23) (by kernel_rfl)]
    go_simp
  · exact unhide HBB _ _
end Go.Proofs.YtjhnneplknhmkahDoor
