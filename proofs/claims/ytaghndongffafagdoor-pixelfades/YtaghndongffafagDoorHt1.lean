/- Pixels as texts: one digit, the program's look and the document's. -/
import Derived.Test.YtaghndongffafagDoorHt0
import Derived.Test.YtaghndongffafagDoorRs
import Derived.Laws.Externs
import Derived.Deep.QuietTactic
import Derived.BigQuiet
namespace Go.Proofs.YtaghndongffafagDoor
open Go.RowKit

theorem indexByteString_runs (s : ByteArray) (c : UInt8) (w : World) : Sem.run Tryd.prog (callFunc 44 #[.string s, .int .u8 (c.toNat : Int)]) w = .ok (.value (.int .i64 (firstIdx s c))) w := by
  rw [run_callFunc_extern (e := Extern.BytealgIndexByte.indexByte) Tryd.func44 (by kernel_rfl) (by kernel_rfl) (by kernel_rfl) (by kernel_rfl), run_indexByte_string]
  simp [Result.andThen]

theorem indexByte_lite (c : UInt8) (w : World) :
    Calls Tryd.prog 37 #[.string hexS, .int .u8 (c.toNat : Int)] w fun e w' => e = .returned (.int .i64 (digI c)) ∧ w' = w := by
  have hc := indexByteString_runs hexS c
  rw [find_is] at hc
  generalize hexS = S at *
  generalize digI c = D at *
  generalize (c.toNat : Int) = C at *
  go_enter Tryd.func37, Tryd.ntmps37
  go_wp2
  go_ret
  exact ⟨rfl, rfl⟩
theorem indexByte_any (c : UInt8) (w : World) :
    Calls Tryd.prog 27 #[.string hexS, .int .u8 (c.toNat : Int)] w fun e w' => e = .returned (.int .i64 (digI c)) ∧ w' = w := by
  have HC := hide (indexByte_lite c)
  generalize hexS = S at *
  generalize digI c = D at *
  generalize (c.toNat : Int) = C at *
  go_enter Tryd.func27, Tryd.ntmps27
  go_wp2_with (go_at_call 37; refine (unhide HC _).mono ?_; rintro e w1 ⟨rfl, rfl⟩)
  go_ret
  exact ⟨rfl, rfl⟩

set_option maxHeartbeats 1000000 in
theorem digitOf_any (c : UInt8) (w : World) :
    Calls Tryd.prog 28 #[.int .u8 (c.toNat : Int)] w fun e w' => e = .returned (.int .i64 (digI c)) ∧ w' = w := by
  have hl := c.toNat_lt
  unfold digI
  generalize c.toNat = n at *
  by_cases h1 : 48 ≤ n ∧ n ≤ 57
  · rw [if_pos h1]
    have d1 : decide ((n : Int) ≥ 48) = true := decide_eq_true (by omega)
    have d1' : decide ((48 : Int) ≤ (n : Int)) = true := d1
    have d2 : decide ((n : Int) ≤ 57) = true := decide_eq_true (by omega)
    go_enter Tryd.func28, Tryd.ntmps28
    go_wp2
    go_ret
    exact ⟨ret_int (by omega), rfl⟩
  · rw [if_neg h1]
    have d : (decide ((n : Int) ≥ 48) = false) ∨ (decide ((n : Int) ≥ 48) = true ∧ decide ((n : Int) ≤ 57) = false) := by
      simp only [decide_eq_true_eq, decide_eq_false_iff_not]; omega
    by_cases h2 : 97 ≤ n ∧ n ≤ 102
    · rw [if_pos h2]
      have d0 : decide ((n : Int) ≥ 48) = true := decide_eq_true (by omega)
      have d0' : decide ((48 : Int) ≤ (n : Int)) = true := d0
      have d00 : decide ((n : Int) ≤ 57) = false := decide_eq_false (by omega)
      have d1 : decide ((n : Int) ≥ 97) = true := decide_eq_true (by omega)
      have d1' : decide ((97 : Int) ≤ (n : Int)) = true := d1
      have d2 : decide ((n : Int) ≤ 102) = true := decide_eq_true (by omega)
      clear d
      go_enter Tryd.func28, Tryd.ntmps28
      go_wp2
      go_ret
      exact ⟨ret_int (by omega), rfl⟩
    · rw [if_neg h2]
      have e : (decide ((n : Int) ≥ 97) = false) ∨ (decide ((n : Int) ≥ 97) = true ∧ decide ((n : Int) ≤ 102) = false) := by
        simp only [decide_eq_true_eq, decide_eq_false_iff_not]; omega
      clear h1 h2
      rcases d with d1 | ⟨d1, d2⟩ <;> rcases e with e1 | ⟨e1, e2⟩
      all_goals
        go_enter Tryd.func28, Tryd.ntmps28
        go_wp2
        go_ret
        exact ⟨rfl, rfl⟩
end Go.Proofs.YtaghndongffafagDoor
