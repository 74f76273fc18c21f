/- Walk: are chunks the same? -/
import Derived.Test.YtlnglpphlcebdafDoorCk4
import Derived.BigQuiet
namespace Go.Proofs.YtlnglpphlcebdafDoor
open Go.RowKit

set_option maxHeartbeats 2000000 in
theorem sameChunks_any (a1 a2 : Option Addr) (n c1 c2 : Nat) (c : Nat → ByteArray × ByteArray) (w : World) (h1 : IsC w a1 n c) (h2 : IsC w a2 n c) (hn : n ≤ 1000000) :
    Calls Tryd.prog 24 #[.slice a1 n c1, .slice a2 n c2] w fun e w' => e = .returned (.bool true) ∧ ∃ nn, w' = w.drewN nn := by
  go_enter Tryd.func24, Tryd.ntmps24
  go_wp2
  go_loopw [5] (fun iv wr => ∃ i : Nat, i ≤ n ∧ iv = .int .i64 (i : Int) ∧ ∃ nn, wr = w.drewN nn) (fun iv _ => n - (intOf iv).toNat)
  case atStart => exact ⟨0, Nat.zero_le _, rfl, 0, rfl⟩
  case round =>
    obtain ⟨i, hi, rfl, nn, rfl⟩ := hrel
    by_cases hlt : i < n
    · have d1 : decide ((i : Int) < (n : Int)) = true := decide_eq_true (by omega)
      have d1n : decide (i < n) = true := decide_eq_true hlt
      have hii : (i : Int) < (n : Int) := by omega
      rcases h1 with h0 | ⟨b1, o1, rfl, _, k1⟩
      · omega
      rcases h2 with h0 | ⟨b2, o2, rfl, _, k2⟩
      · omega
      obtain ⟨p1, p2, _⟩ := k1 i hlt
      obtain ⟨q1, q2, _⟩ := k2 i hlt
      generalize (c i).1 = k at *
      generalize (c i).2 = d at *
      clear k1 k2
      go_wp2
      go_quiet (fail)
      go_wp2
      go_roundw
      case rel => exact ⟨i + 1, by omega, by go_num, _, rfl⟩
      case measure => simp [intOf]; omega
    · obtain rfl : i = n := by omega
      have d1 : decide ((i : Int) < (i : Int)) = false := by simp
      go_wp2
      go_ret
      exact ⟨rfl, _, rfl⟩
end Go.Proofs.YtlnglpphlcebdafDoor
