/- The statement on numbers packed: the walk. -/
import Derived.Test.YtmmilamaahmaoaeDoorLk3a
import Derived.Test.YtmmilamaahmaoaeDoorLzr
import Derived.Test.YtmmilamaahmaoaeDoorFlt
import Derived.Deep.QuietTactic
namespace Go.Proofs.YtmmilamaahmaoaeDoor
open Go.RowKit Lz

theorem results_cellL {fn : Func} {p : Tmp} {ty : TypeId} (h : fn.results = #[.cell p ty]) (tmps : Array Value) (P : Program) (w : World) :
    (results fn tmps).run P w = ((asAddr (tmps.getD p undef)).run P w).andThen fun a w₁ => (loadVar ty a).run P w₁ := by
  simp only [results, h]
  simp [Sem.run_bind, Result.andThen]
theorem fineL_any (w : World) :
    Calls Tryd.prog 10 #[] w fun e w' => e = .returned (.agg #[.int .i64 0, .int .i64 (-1)]) ∧ Below w.heap.size w w' := by
  have HB := hide (show Below w.heap.size w (w.alloc (.cells #[.int .i64 0, .int .i64 (-1)] 28)) from (Below.refl _ _).alloc (Nat.le_refl _) _)
  go_enter Tryd.func10, Tryd.ntmps10
  go_wp2
  refine bodyPost_ret (v := .agg #[.int .i64 0, .int .i64 (-1)]) ?_ rfl ⟨rfl, unhide HB⟩
  rw [results_cellL (p := 0) (ty := 28) (by kernel_rfl)]
  go_simp
theorem bareL_any (w : World) :
    Calls Tryd.prog 11 #[.int .i64 2] w fun e w' => e = .returned (.agg #[.int .i64 2, .int .i64 (-1)]) ∧ Below w.heap.size w w' := by
  have HB := hide (show Below w.heap.size w (w.alloc (.cells #[.int .i64 2, .int .i64 (-1)] 28)) from (Below.refl _ _).alloc (Nat.le_refl _) _)
  go_enter Tryd.func11, Tryd.ntmps11
  go_wp2
  refine bodyPost_ret (v := .agg #[.int .i64 2, .int .i64 (-1)]) ?_ rfl ⟨rfl, unhide HB⟩
  rw [results_cellL (p := 2) (ty := 28) (by kernel_rfl)]
  go_simp
theorem refl_textL (u : ByteArray) : (u.toList == u.toList) = true := by simp
end Go.Proofs.YtmmilamaahmaoaeDoor
