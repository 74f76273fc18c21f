/- A past of numbers: New, Now, Undo, Redo, Kept. -/
import Derived.Test.YtkdckcengmkhhajDoorPa0
import Derived.Test.YtkdckcengmkhhajDoorQf
namespace Go.Proofs.YtkdckcengmkhhajDoor
open Go.RowKit

set_option maxHeartbeats 1000000 in
set_option maxRecDepth 100000 in
theorem pnew_yes (s : Int) (m : Nat) (w : World) (hm : m ≤ 20) :
    Calls Tryd.prog 23 #[.int .i64 s, .int .i64 (m : Int)] w fun e w' => e = .returned (.tuple #[.pointer (some ⟨w.heap.size + 1, 0, none⟩), .nilIface]) ∧
      PastAt w' w.heap.size (w.heap.size + 1) w.heap.size 1 [s] 0 m ∧ Below w.heap.size w w' := by
  have d0 : decide ((m : Int) < 0) = false := by simp
  have d1 : decide ((m : Int) > 20) = false := by simp; omega
  have d2 : decide ((20 : Int) < (m : Int)) = false := by simp; omega
  have HA := hide (al2 w (.cells #[.int .i64 s] 3) (.cells #[.slice (some ⟨w.heap.size, 0, none⟩) 1 1, .int .i64 0, .int .i64 (m : Int)] 97))
  go_enter Tryd.func23, Tryd.ntmps23
  go_wp2
  go_ret2
  have hA := unhide HA
  refine ⟨rfl, ⟨hA.k1, ⟨_, hA.k0, fun j hj => ?_⟩, Nat.le_succ _, Nat.le_refl _, by omega, Nat.le_refl _, by simp⟩, hA.below⟩
  have : j = 0 := by simp at hj; exact hj
  subst this
  rfl

set_option maxHeartbeats 1000000 in
set_option maxRecDepth 100000 in
theorem pnew_no (s m : Int) (w : World) (tE : TypeId) (vE : Value) (hm : m < 0 ∨ 20 < m) (hE : w.cell? ⟨0, 0, none⟩ = some (.iface tE vE)) :
    Calls Tryd.prog 23 #[.int .i64 s, .int .i64 m] w fun e w' => e = .returned (.tuple #[.pointer none, .iface tE vE]) ∧ Below w.heap.size w w' := by
  have d : (decide (m < 0) = true ∧ True) ∨ (decide (m < 0) = false ∧ decide (m > 20) = true ∧ decide (20 < m) = true) := by
    by_cases h : m < 0
    · exact .inl ⟨decide_eq_true h, trivial⟩
    · exact .inr ⟨decide_eq_false h, decide_eq_true (by omega), decide_eq_true (by omega)⟩
  clear hm
  go_enter Tryd.func23, Tryd.ntmps23
  rcases d with ⟨d0, _⟩ | ⟨d0, d1, d2⟩
  all_goals
    go_wp2_with fail
    go_region
    go_wp2
    go_ret2
    exact ⟨rfl, belowD (Below.refl _ _)⟩

set_option maxHeartbeats 1000000 in
set_option maxRecDepth 100000 in
theorem pnow_any (base q g c at_ most : Nat) (Z : List Int) (x : Int) (w : World) (h : PastAt w base q g c Z at_ most) (hx : Z[at_]? = some x) :
    Calls Tryd.prog 28 #[.pointer (some ⟨q, 0, none⟩)] w fun e w' => e = .returned (.int .i64 x) ∧ Below w.heap.size w w' := by
  obtain ⟨c0, c1, c2, _, _⟩ := h.cells
  have c3 := h.now x hx
  have l1 := h.lt
  have l2 := h.le
  clear hx h
  generalize Z.length = n at *
  go_enter Tryd.func28, Tryd.ntmps28
  go_wp2_with fail
  go_region
  go_wp2
  go_ret
  exact ⟨rfl, belowD (Below.refl _ _)⟩

set_option maxHeartbeats 1000000 in
set_option maxRecDepth 100000 in
theorem pkept_any (base q g c at_ most : Nat) (Z : List Int) (w : World) (h : PastAt w base q g c Z at_ most) (hZ : Z.length ≤ 1000) :
    Calls Tryd.prog 27 #[.pointer (some ⟨q, 0, none⟩)] w fun e w' => e = .returned (.tuple #[.int .i64 (at_ : Int), .int .i64 ((Z.length - 1 - at_ : Nat) : Int)]) ∧ Below w.heap.size w w' := by
  obtain ⟨c0, c1, c2, _, _⟩ := h.cells
  have l1 := h.lt
  have e1 : (Z.length : Int) - 1 - (at_ : Int) = ((Z.length - 1 - at_ : Nat) : Int) := by omega
  clear h
  generalize Z.length = n at *
  go_enter Tryd.func27, Tryd.ntmps27
  go_wp2_with fail
  go_region
  go_wp2
  go_ret2
  exact ⟨rfl, belowD (Below.refl _ _)⟩

set_option maxHeartbeats 1000000 in
set_option maxRecDepth 100000 in
theorem pmove_yes (base q g c at_ most n : Nat) (b : Int) (Z : List Int) (w : World) (h : PastAt w base q g c Z at_ most) (hb : (at_ : Int) + b = (n : Int)) (hn : n < Z.length) (hZ : Z.length ≤ 1000) :
    Calls Tryd.prog 55 #[.pointer (some ⟨q, 0, none⟩), .int .i64 b] w fun e w' => e = .returned (.bool true) ∧ PastAt w' base q g c Z n most ∧ But (· = q) w w' := by
  obtain ⟨c0, c1, c2, cf, _⟩ := h.cells
  have f1 := cf 1
  have HP := hide (h.setAt n hn)
  have d0 : decide ((n : Int) < 0) = false := by simp
  have d1 : decide ((n : Int) ≥ (Z.length : Int)) = false := by simp; omega
  have d2 : decide ((Z.length : Int) ≤ (n : Int)) = false := by simp; omega
  clear h cf
  generalize Z.length = k at *
  go_enter Tryd.func55, Tryd.ntmps55
  go_wp2
  go_ret
  exact ⟨rfl, unhide HP, (But.refl (· = q) w).setCell (p := ⟨q, 1, none⟩) rfl _⟩

set_option maxHeartbeats 1000000 in
set_option maxRecDepth 100000 in
theorem pmove_no (base q g c at_ most : Nat) (b : Int) (Z : List Int) (w : World) (h : PastAt w base q g c Z at_ most) (hb : (at_ : Int) + b < 0 ∨ (Z.length : Int) ≤ (at_ : Int) + b) (hb2 : -1 ≤ b ∧ b ≤ 1) (hZ : Z.length ≤ 1000) :
    Calls Tryd.prog 55 #[.pointer (some ⟨q, 0, none⟩), .int .i64 b] w fun e w' => e = .returned (.bool false) ∧ w' = w := by
  obtain ⟨c0, c1, c2, cf, _⟩ := h.cells
  have l1 := h.lt
  obtain ⟨t, ht⟩ : ∃ t, t = (at_ : Int) + b := ⟨_, rfl⟩
  have d : (decide (t < 0) = true ∧ True) ∨ (decide (t < 0) = false ∧ decide (t ≥ (Z.length : Int)) = true ∧ decide ((Z.length : Int) ≤ t) = true) := by
    by_cases h : t < 0
    · exact .inl ⟨decide_eq_true h, trivial⟩
    · exact .inr ⟨decide_eq_false h, decide_eq_true (by omega), decide_eq_true (by omega)⟩
  have ht2 : (at_ : Int) + b = t := ht.symm
  have hr : -9223372036854775808 ≤ t ∧ t ≤ 9223372036854775807 := by omega
  clear h cf hb ht
  generalize Z.length = k at *
  go_enter Tryd.func55, Tryd.ntmps55
  rcases d with ⟨d0, _⟩ | ⟨d0, d1, d2⟩
  all_goals
    go_wp2
    go_ret
    exact ⟨rfl, rfl⟩

theorem pundo_any (base q g c at_ most : Nat) (Z : List Int) (w : World) (h : PastAt w base q g c Z at_ most) (hZ : Z.length ≤ 1000) :
    Calls Tryd.prog 25 #[.pointer (some ⟨q, 0, none⟩)] w fun e w' => e = .returned (.bool (decide (0 < at_))) ∧ PastAt w' base q g c Z (at_ - 1) most ∧ But (· = q) w w' := by
  have H := hide h
  have l1 := h.lt
  clear h
  by_cases h0 : 0 < at_
  · rw [decide_eq_true h0]
    go_enter Tryd.func25, Tryd.ntmps25
    go_wp2_with fail
    refine (pmove_yes base q g c at_ most (at_ - 1) (-1) Z _ (unhide H) (by omega) (by omega) hZ).mono ?_
    rintro e w1 ⟨rfl, h1, h2⟩
    have H1 := hide h1
    have H2 := hide h2
    clear h1 h2
    go_wp2
    go_ret
    exact ⟨rfl, unhide H1, unhide H2⟩
  · rw [decide_eq_false h0]
    have h00 : at_ = 0 := by omega
    subst h00
    go_enter Tryd.func25, Tryd.ntmps25
    go_wp2_with fail
    refine (pmove_no base q g c 0 most (-1) Z _ (unhide H) (.inl (by omega)) (by omega) hZ).mono ?_
    rintro e w1 ⟨rfl, rfl⟩
    go_wp2
    go_ret
    exact ⟨rfl, unhide H, But.refl _ _⟩

theorem predo_any (base q g c at_ most : Nat) (Z : List Int) (w : World) (h : PastAt w base q g c Z at_ most) (hZ : Z.length ≤ 1000) :
    Calls Tryd.prog 26 #[.pointer (some ⟨q, 0, none⟩)] w fun e w' => e = .returned (.bool (decide (at_ + 1 < Z.length))) ∧ PastAt w' base q g c Z (if at_ + 1 < Z.length then at_ + 1 else at_) most ∧ But (· = q) w w' := by
  have H := hide h
  have l1 := h.lt
  clear h
  by_cases h0 : at_ + 1 < Z.length
  · rw [decide_eq_true h0, if_pos h0]
    go_enter Tryd.func26, Tryd.ntmps26
    go_wp2_with fail
    refine (pmove_yes base q g c at_ most (at_ + 1) 1 Z _ (unhide H) (by omega) (by omega) hZ).mono ?_
    rintro e w1 ⟨rfl, h1, h2⟩
    have H1 := hide h1
    have H2 := hide h2
    clear h1 h2
    go_wp2
    go_ret
    exact ⟨rfl, unhide H1, unhide H2⟩
  · rw [decide_eq_false h0, if_neg h0]
    go_enter Tryd.func26, Tryd.ntmps26
    go_wp2_with fail
    refine (pmove_no base q g c at_ most 1 Z _ (unhide H) (.inr (by omega)) (by omega) hZ).mono ?_
    rintro e w1 ⟨rfl, rfl⟩
    go_wp2
    go_ret
    exact ⟨rfl, unhide H, But.refl _ _⟩
end Go.Proofs.YtkdckcengmkhhajDoor
