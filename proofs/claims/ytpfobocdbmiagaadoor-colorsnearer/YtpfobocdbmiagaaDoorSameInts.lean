/- layercakeref1.SameInts by its contract, at two lists that hold the same numbers. -/
import Derived.Test.YtpfobocdbmiagaaDoorChecked
import Derived.WalkKit
import Derived.WalkLawsBesides
import Derived.WalkSpells
import Derived.WalkSmall
import Derived.Deep.QuietTactic
import Derived.BigQuiet
namespace Go.Proofs.YtpfobocdbmiagaaDoor
open Go.RowKit

set_option maxHeartbeats 400000 in
theorem sameInts_yes (g1 g2 : Nat) (c1 c2 : Nat) (xs : List Int) (w : World) (hm : xs.length ≤ maxLen) (h1 : ∀ j, j < xs.length → w.cell? ⟨g1, j, none⟩ = some (.int .i64 (xs.getD j 0))) (h2 : ∀ j, j < xs.length → w.cell? ⟨g2, j, none⟩ = some (.int .i64 (xs.getD j 0))) :
    Calls Tryd.prog 17 #[.slice (some ⟨g1, 0, none⟩) xs.length c1, .slice (some ⟨g2, 0, none⟩) xs.length c2] w fun e w' => e = .returned (.bool true) ∧ Below w.heap.size w w' := by
  unfold maxLen at hm
  have H1 : Hid (∀ j, j < xs.length → w.cell? ⟨g1, j, none⟩ = some (.int .i64 (xs.getD j 0))) := h1
  have H2 : Hid (∀ j, j < xs.length → w.cell? ⟨g2, j, none⟩ = some (.int .i64 (xs.getD j 0))) := h2
  clear h1 h2
  generalize hn : xs.length = n at *
  have Hn : Hid (xs.length = n) := hn
  clear hn
  go_enter Tryd.func17, Tryd.ntmps17
  go_wp2
  go_loopw [5] (fun i wx => ∃ k : Nat, k ≤ n ∧ i = .int .i64 k ∧ Below w.heap.size w wx) (fun i _ => n - (intOf i).toNat)
  case atStart => exact ⟨0, by omega, rfl, Below.refl _ _⟩
  case round =>
    obtain ⟨k, hk, rfl, hb⟩ := hrel
    by_cases hlt : k < n
    · have hd : decide ((k : Int) < (n : Int)) = true := by simp; omega
      have hki : (k : Int) < (n : Int) := by omega
      have h1 := H1.out k hlt
      have h2 := H2.out k hlt
      have c1 : wr.cell? ⟨g1, k, none⟩ = some (.int .i64 (xs.getD k 0)) := by
        rw [hb.cell (show (⟨g1, k, none⟩ : Addr).block < w.heap.size by rcases Nat.lt_or_ge g1 w.heap.size with h | h; exact h; simp [World.cell?, Array.getElem?_eq_none h] at h1)]; exact h1
      have c2 : wr.cell? ⟨g2, k, none⟩ = some (.int .i64 (xs.getD k 0)) := by
        rw [hb.cell (show (⟨g2, k, none⟩ : Addr).block < w.heap.size by rcases Nat.lt_or_ge g2 w.heap.size with h | h; exact h; simp [World.cell?, Array.getElem?_eq_none h] at h2)]; exact h2
      clear h1 h2
      generalize xs.getD k 0 = x at *
      go_wp2
      go_quiet (fail)
      go_wp2
      go_roundw
      case rel => exact ⟨k + 1, by omega, by go_num, below_drewN hb _⟩
      case measure => simp [intOf]; omega
    · have : k = n := by omega
      subst this
      have hd : decide ((k : Int) < (k : Int)) = false := by simp
      go_wp2
      go_ret
      exact ⟨rfl, hb⟩
end Go.Proofs.YtpfobocdbmiagaaDoor
