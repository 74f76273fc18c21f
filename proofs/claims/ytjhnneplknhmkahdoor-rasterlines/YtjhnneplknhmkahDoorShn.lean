/- Places that are near: the program's. -/
import Derived.Test.YtjhnneplknhmkahDoorSh
namespace Go.Proofs.YtjhnneplknhmkahDoor
open Go.RowKit

theorem ret_boolR {a b : Bool} (h : a = b) : Ending.returned (.bool a) = .returned (.bool b) := by rw [h]

set_option maxHeartbeats 2000000 in
theorem areNear_any (k n c : Nat) (z : Nat → Int) (w : World) (hn : n ≤ 8) (hc : ∀ i, i < n → w.cell? ⟨k, i, none⟩ = some (.int .i64 (z i))) (b : Bool) (hb : b = true ↔ ∀ i, i < n → -10000 ≤ z i ∧ z i ≤ 10000) :
    Calls Tryd.prog 47 #[.slice (some ⟨k, 0, none⟩) n c] w fun e w' => e = .returned (.bool b) ∧ w' = w := by
  have HC := hide hc
  have HB := hide hb
  clear hc hb
  go_enter Tryd.func47, Tryd.ntmps47
  go_wp2
  go_loopw [7] (fun iv wr => ∃ i : Nat, i ≤ n ∧ iv = .int .i64 (i : Int) ∧ Hid (∀ j, j < i → -10000 ≤ z j ∧ z j ≤ 10000) ∧ wr = w) (fun iv _ => n - (intOf iv).toNat)
  case atStart => exact ⟨0, by omega, rfl, fun j hj => by omega, rfl⟩
  case round =>
    obtain ⟨i, hi, rfl, HI, rfl⟩ := hrel
    by_cases hlt : i < n
    · have d1 : decide ((i : Int) < (n : Int)) = true := by simp; omega
      have d1n : decide (i < n) = true := decide_eq_true hlt
      have hii : (i : Int) < (n : Int) := by omega
      have c0 := unhide HC i hlt
      have d : (decide (z i < -10000) = true ∧ Hid (¬ (-10000 ≤ z i ∧ z i ≤ 10000))) ∨ (decide (z i < -10000) = false ∧ decide (z i > 10000) = true ∧ Hid (¬ (-10000 ≤ z i ∧ z i ≤ 10000))) ∨ (decide (z i < -10000) = false ∧ decide (z i > 10000) = false ∧ Hid (-10000 ≤ z i ∧ z i ≤ 10000)) := by
        by_cases h1 : z i < -10000
        · exact .inl ⟨decide_eq_true h1, fun h => by omega⟩
        · by_cases h2 : z i > 10000
          · exact .inr (.inl ⟨decide_eq_false h1, decide_eq_true h2, fun h => by omega⟩)
          · exact .inr (.inr ⟨decide_eq_false h1, decide_eq_false h2, by show _ ∧ _; omega⟩)
      rcases d with ⟨d2, HN⟩ | ⟨d2, d3, HN⟩ | ⟨d2, d3, HN⟩
      · have HR : Hid (b = false) := by
          show b = false
          rcases b with _ | _
          · rfl
          · exact absurd ((unhide HB).1 rfl i hlt) (unhide HN)
        clear HB HI HN
        go_wp2
        go_ret
        exact ⟨ret_boolR (unhide HR).symm, rfl⟩
      · have HR : Hid (b = false) := by
          show b = false
          rcases b with _ | _
          · rfl
          · exact absurd ((unhide HB).1 rfl i hlt) (unhide HN)
        clear HB HI HN
        go_wp2
        go_ret
        exact ⟨ret_boolR (unhide HR).symm, rfl⟩
      · have HJ : Hid (∀ j, j < i + 1 → -10000 ≤ z j ∧ z j ≤ 10000) := fun j hj => by
          rcases Nat.lt_or_ge j i with q | q
          · exact unhide HI j q
          · obtain rfl : j = i := by omega
            exact unhide HN
        clear HI HN
        go_wp2
        go_roundw
        case rel => exact ⟨i + 1, by omega, by go_num, HJ, trivial⟩
        case measure => simp [intOf]; omega
    · obtain rfl : i = n := by omega
      have d1 : decide ((i : Int) < (i : Int)) = false := by simp
      have HR : Hid (b = true) := (unhide HB).2 (unhide HI)
      go_wp2
      go_ret
      exact ⟨ret_boolR (unhide HR).symm, rfl⟩
end Go.Proofs.YtjhnneplknhmkahDoor
