/- The statements on rows: what they share. -/
import Derived.Test.YtmmilamaahmaoafDoorFf
import Derived.Test.YtmmilamaahmaoafDoorFh
import Derived.Test.YtmmilamaahmaoafDoorCoded1
namespace Go.Proofs.YtmmilamaahmaoafDoor
open Go.RowKit

theorem refl_text (u : ByteArray) : (u.toList == u.toList) = true := by simp

theorem Do_sent (z st : Int) (row ahead : ByteArray) (w : World) (a : Nat → Addr) (hS : Sent w a) (hr : row.size ≤ 300000) :
    Calls Tryd.prog 6 #[.int .i64 z, .string row, .string ahead, .int .i64 st] w fun e w' => e = .returned (doV (sentV a 1) (sentV a 2) (Fil.row z.toNat row.data.toList ahead.data.toList st.toNat row.size) (chk z row ahead st)) ∧ Below w.heap.size w w' :=
  Do_any z st row ahead _ _ _ _ w (hS.cell 1 (by omega)) (hS.cell 2 (by omega)) hr
theorem Undo_sent (z st : Int) (row ahead : ByteArray) (w : World) (a : Nat → Addr) (hS : Sent w a) (hr : row.size ≤ 300000) :
    Calls Tryd.prog 7 #[.int .i64 z, .string row, .string ahead, .int .i64 st] w fun e w' => e = .returned (doV (sentV a 1) (sentV a 2) (Fil.un z.toNat row.data.toList ahead.data.toList st.toNat row.size) (chk z row ahead st)) ∧ Below w.heap.size w w' :=
  Undo_any z st row ahead _ _ _ _ w (hS.cell 1 (by omega)) (hS.cell 2 (by omega)) hr

theorem less_any (w : World) (a : Nat → Addr) (hS : Sent w a) :
    Calls Tryd.prog 5 #[] w fun e w' => e = .returned (.bool true) ∧ Below w.heap.size w w' := by
  have HD := hide (Do_sent 1 1 ⟨#[3, 5]⟩ ⟨#[]⟩ w a hS (by decide))
  have e1 : chk 1 ⟨#[3, 5]⟩ ⟨#[]⟩ 1 = .fine := rfl
  have e2 : tx (Fil.row (1 : Int).toNat (⟨#[3, 5]⟩ : ByteArray).data.toList (⟨#[]⟩ : ByteArray).data.toList (1 : Int).toNat (⟨#[3, 5]⟩ : ByteArray).size) = ⟨#[3, 2]⟩ := by rfl
  rw [e1] at HD
  unfold doV at HD
  dsimp only at HD
  rw [e2] at HD
  have r1 := refl_text ⟨#[3, 2]⟩
  clear e1 e2 hS
  go_enter Tryd.func5, Tryd.ntmps5
  go_wp2_with fail
  refine (unhide HD).mono ?_; rintro e w1 ⟨rfl, hb1⟩
  go_wp2
  go_ret
  exact ⟨rfl, hb1⟩
end Go.Proofs.YtmmilamaahmaoafDoor
