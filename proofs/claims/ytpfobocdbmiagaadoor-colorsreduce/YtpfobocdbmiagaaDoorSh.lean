/- Which pictures are right: the program's. -/
import Derived.Test.YtpfobocdbmiagaaDoorPx1
namespace Go.Proofs.YtpfobocdbmiagaaDoor
open Go.RowKit

theorem isSide_any (z : Int) (w : World) :
    Calls Tryd.prog 39 #[.int .i64 z] w fun e w' => e = .returned (.bool (decide (1 ≤ z ∧ z ≤ 256))) ∧ w' = w := by
  by_cases h1 : 1 ≤ z
  · have d1 : decide (z ≥ 1) = true := decide_eq_true h1
    have d1' : decide (1 ≤ z) = true := d1
    by_cases h2 : z ≤ 256
    · have d2 : decide (z ≤ 256) = true := decide_eq_true h2
      rw [decide_eq_true (⟨h1, h2⟩ : 1 ≤ z ∧ z ≤ 256)]
      clear h1 h2
      go_enter Tryd.func39, Tryd.ntmps39
      go_wp2
      go_ret
      exact ⟨rfl, rfl⟩
    · have d2 : decide (z ≤ 256) = false := decide_eq_false h2
      rw [decide_eq_false (fun q : 1 ≤ z ∧ z ≤ 256 => h2 q.2)]
      clear h1 h2
      go_enter Tryd.func39, Tryd.ntmps39
      go_wp2
      go_ret
      exact ⟨rfl, rfl⟩
  · have d1 : decide (z ≥ 1) = false := decide_eq_false h1
    have d1' : decide (1 ≤ z) = false := d1
    rw [decide_eq_false (fun q : 1 ≤ z ∧ z ≤ 256 => h1 q.1)]
    clear h1
    go_enter Tryd.func39, Tryd.ntmps39
    go_wp2
    go_ret
    exact ⟨rfl, rfl⟩

theorem isRight_any (W H : Int) (a : Option Addr) (n c : Nat) (w : World) :
    Calls Tryd.prog 27 #[.agg #[.int .i64 W, .int .i64 H, .slice a n c]] w fun e w' => e = .returned (.bool (decide (RightP W H n))) ∧ Below w.heap.size w w' := by
  have hb : Below w.heap.size w (w.alloc (.cells #[.int .i64 W, .int .i64 H, .slice a n c] 24)) := (Below.refl _ _).alloc (Nat.le_refl _) _
  have HS := hide isSide_any
  by_cases h1 : 1 ≤ W ∧ W ≤ 256
  · by_cases h2 : 1 ≤ H ∧ H ≤ 256
    · have hz : 0 ≤ W * H ∧ W * H ≤ 65536 := by
        have q1 := Int.mul_nonneg (show 0 ≤ W by omega) (show 0 ≤ H by omega)
        have q2 : W * H ≤ 256 * 256 := Int.mul_le_mul h1.2 h2.2 (by omega) (by omega)
        omega
      obtain ⟨m, hm⟩ : ∃ m, m = W * H := ⟨_, rfl⟩
      have hm' : W * H = m := hm.symm
      have hR : decide (RightP W H n) = decide ((n : Int) = m) := by
        unfold RightP
        rw [hm]
        congr 1
        simp [h1, h2]
      rw [hR]
      rw [← hm] at hz
      have e1 := fun w => isSide_any W w
      have e2 := fun w => isSide_any H w
      rw [decide_eq_true h1] at e1
      rw [decide_eq_true h2] at e2
      have E1 := hide e1
      have E2 := hide e2
      have hbq : ((n : Int) == m) = decide ((n : Int) = m) := by
        by_cases q : (n : Int) = m
        · rw [decide_eq_true q]; simpa using q
        · rw [decide_eq_false q]; simpa using q
      clear hm hR e1 e2 HS h1 h2
      go_enter Tryd.func27, Tryd.ntmps27
      go_wp2_with fail
      refine (unhide E1 _).mono ?_; rintro e w1 ⟨rfl, rfl⟩
      go_wp2_with fail
      refine (unhide E2 _).mono ?_; rintro e w1 ⟨rfl, rfl⟩
      go_wp2
      go_ret
      exact ⟨by first | rfl | rw [hbq], hb⟩
    · have e1 := fun w => isSide_any W w
      have e2 := fun w => isSide_any H w
      rw [decide_eq_true h1] at e1
      rw [decide_eq_false h2] at e2
      have E1 := hide e1
      have E2 := hide e2
      rw [decide_eq_false (fun q : RightP W H n => h2 q.2.1)]
      clear e1 e2 HS h1 h2
      go_enter Tryd.func27, Tryd.ntmps27
      go_wp2_with fail
      refine (unhide E1 _).mono ?_; rintro e w1 ⟨rfl, rfl⟩
      go_wp2_with fail
      refine (unhide E2 _).mono ?_; rintro e w1 ⟨rfl, rfl⟩
      go_wp2
      go_ret
      exact ⟨rfl, hb⟩
  · have e1 := fun w => isSide_any W w
    rw [decide_eq_false h1] at e1
    have E1 := hide e1
    rw [decide_eq_false (fun q : RightP W H n => h1 q.1)]
    clear e1 HS h1
    go_enter Tryd.func27, Tryd.ntmps27
    go_wp2_with fail
    refine (unhide E1 _).mono ?_; rintro e w1 ⟨rfl, rfl⟩
    go_wp2
    go_ret
    exact ⟨rfl, hb⟩
end Go.Proofs.YtpfobocdbmiagaaDoor
