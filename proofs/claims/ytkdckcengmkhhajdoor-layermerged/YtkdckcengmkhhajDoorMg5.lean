/- Which pictures are right: the program's. Places that are near: the program's. -/
import Derived.Test.YtkdckcengmkhhajDoorPx1
namespace Go.Proofs.YtkdckcengmkhhajDoor
open Go.RowKit

theorem isSide_any (z : Int) (w : World) :
    Calls Tryd.prog 41 #[.int .i64 z] w fun e w' => e = .returned (.bool (decide (1 ≤ z ∧ z ≤ 256))) ∧ w' = w := by
  by_cases h1 : 1 ≤ z
  · have d1 : decide (z ≥ 1) = true := decide_eq_true h1
    have d1' : decide (1 ≤ z) = true := d1
    by_cases h2 : z ≤ 256
    · have d2 : decide (z ≤ 256) = true := decide_eq_true h2
      rw [decide_eq_true (⟨h1, h2⟩ : 1 ≤ z ∧ z ≤ 256)]
      clear h1 h2
      go_enter Tryd.func41, Tryd.ntmps41
      go_wp2
      go_ret
      exact ⟨rfl, rfl⟩
    · have d2 : decide (z ≤ 256) = false := decide_eq_false h2
      rw [decide_eq_false (fun q : 1 ≤ z ∧ z ≤ 256 => h2 q.2)]
      clear h1 h2
      go_enter Tryd.func41, Tryd.ntmps41
      go_wp2
      go_ret
      exact ⟨rfl, rfl⟩
  · have d1 : decide (z ≥ 1) = false := decide_eq_false h1
    have d1' : decide (1 ≤ z) = false := d1
    rw [decide_eq_false (fun q : 1 ≤ z ∧ z ≤ 256 => h1 q.1)]
    clear h1
    go_enter Tryd.func41, Tryd.ntmps41
    go_wp2
    go_ret
    exact ⟨rfl, rfl⟩

theorem isRight_any (W H : Int) (a : Option Addr) (n c : Nat) (w : World) :
    Calls Tryd.prog 65 #[.agg #[.int .i64 W, .int .i64 H, .slice a n c]] w fun e w' => e = .returned (.bool (decide (RightP W H n))) ∧ Below w.heap.size w w' := by
  have hb : Below w.heap.size w (w.alloc (.cells #[.int .i64 W, .int .i64 H, .slice a n c] 32)) := (Below.refl _ _).alloc (Nat.le_refl _) _
  have HS := hide isSide_any
  by_cases h1 : 1 ≤ W ∧ W ≤ 256
  · by_cases h2 : 1 ≤ H ∧ H ≤ 256
    · have hz : 0 ≤ W * H ∧ W * H ≤ 65536 := by
        have q1 := Int.mul_nonneg (show 0 ≤ W by omega) (show 0 ≤ H by omega)
        have q2 : W * H ≤ 256 * 256 := Int.mul_le_mul h1.2 h2.2 (by omega) (by omega)
        omega
      obtain ⟨m, hm⟩ : ∃ m, m = W * H := ⟨_, rfl⟩
      have hm' : W * H = m := hm.symm
      have hR : decide (RightP W H n) = decide ((n : Int) = m) := by
        unfold RightP
        rw [hm]
        congr 1
        simp [h1, h2]
      rw [hR]
      rw [← hm] at hz
      have e1 := fun w => isSide_any W w
      have e2 := fun w => isSide_any H w
      rw [decide_eq_true h1] at e1
      rw [decide_eq_true h2] at e2
      have E1 := hide e1
      have E2 := hide e2
      have hbq : ((n : Int) == m) = decide ((n : Int) = m) := by
        by_cases q : (n : Int) = m
        · rw [decide_eq_true q]; simpa using q
        · rw [decide_eq_false q]; simpa using q
      clear hm hR e1 e2 HS h1 h2
      go_enter Tryd.func65, Tryd.ntmps65
      go_wp2_with fail
      refine (unhide E1 _).mono ?_; rintro e w1 ⟨rfl, rfl⟩
      go_wp2_with fail
      refine (unhide E2 _).mono ?_; rintro e w1 ⟨rfl, rfl⟩
      go_wp2
      go_ret
      exact ⟨by first | rfl | rw [hbq], hb⟩
    · have e1 := fun w => isSide_any W w
      have e2 := fun w => isSide_any H w
      rw [decide_eq_true h1] at e1
      rw [decide_eq_false h2] at e2
      have E1 := hide e1
      have E2 := hide e2
      rw [decide_eq_false (fun q : RightP W H n => h2 q.2.1)]
      clear e1 e2 HS h1 h2
      go_enter Tryd.func65, Tryd.ntmps65
      go_wp2_with fail
      refine (unhide E1 _).mono ?_; rintro e w1 ⟨rfl, rfl⟩
      go_wp2_with fail
      refine (unhide E2 _).mono ?_; rintro e w1 ⟨rfl, rfl⟩
      go_wp2
      go_ret
      exact ⟨rfl, hb⟩
  · have e1 := fun w => isSide_any W w
    rw [decide_eq_false h1] at e1
    have E1 := hide e1
    rw [decide_eq_false (fun q : RightP W H n => h1 q.1)]
    clear e1 HS h1
    go_enter Tryd.func65, Tryd.ntmps65
    go_wp2_with fail
    refine (unhide E1 _).mono ?_; rintro e w1 ⟨rfl, rfl⟩
    go_wp2
    go_ret
    exact ⟨rfl, hb⟩
end Go.Proofs.YtkdckcengmkhhajDoor
namespace Go.Proofs.YtkdckcengmkhhajDoor
open Go.RowKit

theorem ret_boolR {a b : Bool} (h : a = b) : Ending.returned (.bool a) = .returned (.bool b) := by rw [h]

set_option maxHeartbeats 2000000 in
theorem areNear_any (k n c : Nat) (z : Nat → Int) (w : World) (hn : n ≤ 8) (hc : ∀ i, i < n → w.cell? ⟨k, i, none⟩ = some (.int .i64 (z i))) (b : Bool) (hb : b = true ↔ ∀ i, i < n → -10000 ≤ z i ∧ z i ≤ 10000) :
    Calls Tryd.prog 62 #[.slice (some ⟨k, 0, none⟩) n c] w fun e w' => e = .returned (.bool b) ∧ w' = w := by
  have HC := hide hc
  have HB := hide hb
  clear hc hb
  go_enter Tryd.func62, Tryd.ntmps62
  go_wp2
  go_loopw [7] (fun iv wr => ∃ i : Nat, i ≤ n ∧ iv = .int .i64 (i : Int) ∧ Hid (∀ j, j < i → -10000 ≤ z j ∧ z j ≤ 10000) ∧ wr = w) (fun iv _ => n - (intOf iv).toNat)
  case atStart => exact ⟨0, by omega, rfl, fun j hj => by omega, rfl⟩
  case round =>
    obtain ⟨i, hi, rfl, HI, rfl⟩ := hrel
    by_cases hlt : i < n
    · have d1 : decide ((i : Int) < (n : Int)) = true := by simp; omega
      have d1n : decide (i < n) = true := decide_eq_true hlt
      have hii : (i : Int) < (n : Int) := by omega
      have c0 := unhide HC i hlt
      have d : (decide (z i < -10000) = true ∧ Hid (¬ (-10000 ≤ z i ∧ z i ≤ 10000))) ∨ (decide (z i < -10000) = false ∧ decide (z i > 10000) = true ∧ Hid (¬ (-10000 ≤ z i ∧ z i ≤ 10000))) ∨ (decide (z i < -10000) = false ∧ decide (z i > 10000) = false ∧ Hid (-10000 ≤ z i ∧ z i ≤ 10000)) := by
        by_cases h1 : z i < -10000
        · exact .inl ⟨decide_eq_true h1, fun h => by omega⟩
        · by_cases h2 : z i > 10000
          · exact .inr (.inl ⟨decide_eq_false h1, decide_eq_true h2, fun h => by omega⟩)
          · exact .inr (.inr ⟨decide_eq_false h1, decide_eq_false h2, by show _ ∧ _; omega⟩)
      rcases d with ⟨d2, HN⟩ | ⟨d2, d3, HN⟩ | ⟨d2, d3, HN⟩
      · have HR : Hid (b = false) := by
          show b = false
          rcases b with _ | _
          · rfl
          · exact absurd ((unhide HB).1 rfl i hlt) (unhide HN)
        clear HB HI HN
        go_wp2
        go_ret
        exact ⟨ret_boolR (unhide HR).symm, rfl⟩
      · have HR : Hid (b = false) := by
          show b = false
          rcases b with _ | _
          · rfl
          · exact absurd ((unhide HB).1 rfl i hlt) (unhide HN)
        clear HB HI HN
        go_wp2
        go_ret
        exact ⟨ret_boolR (unhide HR).symm, rfl⟩
      · have HJ : Hid (∀ j, j < i + 1 → -10000 ≤ z j ∧ z j ≤ 10000) := fun j hj => by
          rcases Nat.lt_or_ge j i with q | q
          · exact unhide HI j q
          · obtain rfl : j = i := by omega
            exact unhide HN
        clear HI HN
        go_wp2
        go_roundw
        case rel => exact ⟨i + 1, by omega, by go_num, HJ, trivial⟩
        case measure => simp [intOf]; omega
    · obtain rfl : i = n := by omega
      have d1 : decide ((i : Int) < (i : Int)) = false := by simp
      have HR : Hid (b = true) := (unhide HB).2 (unhide HI)
      go_wp2
      go_ret
      exact ⟨ret_boolR (unhide HR).symm, rfl⟩
end Go.Proofs.YtkdckcengmkhhajDoor
