/- Does a part lie in a picture? The document's. -/
import Derived.Test.YtjhnneplknhmkahDoorRo2
namespace Go.Proofs.YtjhnneplknhmkahDoor
open Go.RowKit

set_option maxHeartbeats 4000000 in
set_option maxRecDepth 100000 in
theorem cropIs_any (PW PH : Nat) (a : Option Addr) (n c : Nat) (X Y W H : Int) (w : World) (hW : PW ≤ 256) (hH : PH ≤ 256) :
    Calls Tryd.prog 24 #[.agg #[.int .i64 (PW : Int), .int .i64 (PH : Int), .slice a n c], .agg #[.int .i64 X, .int .i64 Y, .int .i64 W, .int .i64 H]] w fun e w' => e = .returned (.bool (decide ((0 ≤ X ∧ X < PW ∧ 0 ≤ Y ∧ Y < PH) ∧ 1 ≤ W ∧ 1 ≤ H ∧ W ≤ PW - X ∧ H ≤ PH - Y))) ∧ Below w.heap.size w w' := by
  have hbt := hide (below_two w)
  obtain ⟨r, hr⟩ : ∃ r, r = decide ((0 ≤ X ∧ X < PW ∧ 0 ≤ Y ∧ Y < PH) ∧ 1 ≤ W ∧ 1 ≤ H ∧ W ≤ PW - X ∧ H ≤ PH - Y) := ⟨_, rfl⟩
  rw [← hr]
  by_cases hin : 0 ≤ X ∧ 0 ≤ Y ∧ 1 ≤ W ∧ 1 ≤ H ∧ X < PW ∧ Y < PH
  · have w1 : IntKind.i64.wrap ((PW : Int) - X) = PW - X := by rw [IntKind.wrap_i64]; omega
    have w2 : IntKind.i64.wrap ((PH : Int) - Y) = PH - Y := by rw [IntKind.wrap_i64]; omega
    have q1 : decide (X < 0) = false := decide_eq_false (by omega)
    have q2 : decide (Y < 0) = false := decide_eq_false (by omega)
    have q3 : decide (W < 1) = false := decide_eq_false (by omega)
    have q4 : decide (H < 1) = false := decide_eq_false (by omega)
    have q5 : decide (X ≥ (PW : Int)) = false := decide_eq_false (by omega)
    have q6 : decide (Y ≥ (PH : Int)) = false := decide_eq_false (by omega)
    have d : (decide (W ≤ PW - X) = false ∧ r = false) ∨ (decide (W ≤ PW - X) = true ∧ decide (H ≤ PH - Y) = r) := by
      subst hr
      simp only [decide_eq_true_eq, decide_eq_false_iff_not, decide_eq_decide]
      omega
    clear hr hin
    rcases d with ⟨d1, rfl⟩ | ⟨d1, d2⟩
    all_goals
      go_enter Tryd.func24, Tryd.ntmps24
      go_wp2
      go_ret
      exact ⟨rfl, unhide hbt _ _⟩
  · have hrf : r = false := by rw [hr]; exact decide_eq_false (fun q => hin (by omega))
    have d : decide (X < 0) = true ∨ (decide (X < 0) = false ∧ decide (Y < 0) = true) ∨ (decide (X < 0) = false ∧ decide (Y < 0) = false ∧ decide (W < 1) = true) ∨ (decide (X < 0) = false ∧ decide (Y < 0) = false ∧ decide (W < 1) = false ∧ decide (H < 1) = true) ∨ (decide (X < 0) = false ∧ decide (Y < 0) = false ∧ decide (W < 1) = false ∧ decide (H < 1) = false ∧ decide (X ≥ (PW : Int)) = true) ∨ (decide (X < 0) = false ∧ decide (Y < 0) = false ∧ decide (W < 1) = false ∧ decide (H < 1) = false ∧ decide (X ≥ (PW : Int)) = false ∧ decide (Y ≥ (PH : Int)) = true) := by
      simp only [decide_eq_true_eq, decide_eq_false_iff_not]
      omega
    rw [hrf]
    clear hr hin hrf
    rcases d with q1 | ⟨q1, q2⟩ | ⟨q1, q2, q3⟩ | ⟨q1, q2, q3, q4⟩ | ⟨q1, q2, q3, q4, q5⟩ | ⟨q1, q2, q3, q4, q5, q6⟩
    all_goals
      go_enter Tryd.func24, Tryd.ntmps24
      go_wp2
      go_ret
      exact ⟨rfl, unhide hbt _ _⟩
end Go.Proofs.YtjhnneplknhmkahDoor
