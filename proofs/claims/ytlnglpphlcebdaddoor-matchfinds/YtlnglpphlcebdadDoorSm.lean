/- The closed fact of the laws on matches. -/
import Derived.Test.YtlnglpphlcebdadDoorMx3
namespace Go.Proofs.YtlnglpphlcebdadDoor
open Go.RowKit

/-- A byte and a match that reaches into itself. -/
def selfT : Tks := ⟨fun i => if i = 0 then 97 else 0, fun i => if i = 0 then 0 else 5, fun i => if i = 0 then 0 else 1⟩
theorem selfT_good (j : Nat) (hj : j < 2) : selfT.good j := by
  rcases (show j = 0 ∨ j = 1 by omega) with rfl | rfl
  · exact ⟨by simp [Tks.shaped, selfT], by simp [Tks.out, selfT]⟩
  · exact ⟨by simp [Tks.shaped, selfT], by simp [Tks.out, selfT]⟩
theorem selfT_out : selfT.out 2 = [97, 97, 97, 97, 97, 97] := by decide
theorem selfT_small (i : Nat) (hi : i ≤ 2) : (selfT.out i).length ≤ 300000 := by
  rcases (show i = 0 ∨ i = 1 ∨ i = 2 by omega) with rfl | rfl | rfl
  · simp [Tks.out]
  · simp [Tks.out, selfT]
  · rw [selfT_out]; simp

set_option maxRecDepth 100000 in
theorem same_any (w : World) (uT : TypeId) (uV : Value) (hS : w.cell? ⟨2, 0, none⟩ = some (.iface uT uV)) :
    Calls Tryd.prog 6 #[] w fun e w' => e = .returned (.bool true) ∧ Below w.heap.size w w' := by
  have hb0 : Below w.heap.size w (w.alloc (.cells #[.int .u8 97, .int .i64 0, .int .i64 0, .int .u8 0, .int .i64 5, .int .i64 1] 36)) := (Below.refl _ _).alloc (Nat.le_refl _) _
  have hT : IsTokens (w.alloc (.cells #[.int .u8 97, .int .i64 0, .int .i64 0, .int .u8 0, .int .i64 5, .int .i64 1] 36)) (some ⟨w.heap.size, 0, none⟩) 2 selfT := .inr ⟨w.heap.size, 0, rfl, by unfold maxLen; omega, fun i hi => by
    rcases (show i = 0 ∨ i = 1 by omega) with rfl | rfl
    · exact ⟨by simp [selfT], by simp [selfT], by simp [selfT], by simp [selfT], by simp [selfT], by simp [selfT]⟩
    · exact ⟨by simp [selfT], by simp [selfT], by simp [selfT], by simp [selfT], by simp [selfT], by simp [selfT]⟩⟩
  have HE := hide (expand_any _ 2 2 selfT _ uT uV ((hb0.cell (p := ⟨2, 0, none⟩) (by rcases Nat.lt_or_ge (2 : Nat) w.heap.size with h' | h'; exact h'; simp [World.cell?, Array.getElem?_eq_none h'] at hS)).trans hS) hT (by omega) (fun i hi _ => selfT_small i hi))
  clear hS hT
  go_enter Tryd.func6, Tryd.ntmps6
  go_wp2_with fail
  refine (unhide HE).mono ?_
  generalize w.alloc (.cells #[.int .u8 97, .int .i64 0, .int .i64 0, .int .u8 0, .int .i64 5, .int .i64 1] 36) = w0 at *
  rintro e w1 (⟨_, rfl, hb1⟩ | ⟨i, q, hw, rfl, hb1⟩)
  · have hbw : Below w.heap.size w w1 := hb0.trans (hb1.mono hb0.size)
    rw [selfT_out]
    clear HE hb0 hb1
    go_wp2
    go_ret
    exact ⟨rfl, hbw⟩
  · exact absurd (selfT_good i hw.lt) hw.bad
end Go.Proofs.YtlnglpphlcebdadDoor
