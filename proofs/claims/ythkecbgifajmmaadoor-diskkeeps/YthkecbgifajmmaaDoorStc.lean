/- A call as one step of a statement that draws its order. -/
import Derived.Test.YthkecbgifajmmaaDoorBase
import Derived.Deep.RegionHeld
import Derived.OwnWalk
import Derived.Shelf.Abstract
namespace Go.Proofs.YthkecbgifajmmaaDoor
open Go.RowKit

set_option maxRecDepth 100000 in
/-- A call of a Go function, as one step of a statement that draws its order. -/
theorem step_calls {ops : Array Oper} {o : Oper} {a : Act} {w : World} {K : Act → World → Prop} {Q : Exit → Act → World → Prop} {E : Prop} (hgd : o.guard = none) (f : Nat) (xs : List Operand) (ts : Array TypeId)
    (ho : o.op = .call { callee := .value (.func f), args := xs.toArray, argTypes := ts }) (us : List Value) (hx : xs.map a.eval = us) (ent : ∀ args w, (callFunc f args).run Tryd.prog w = .ok (.enter f args) w)
    (h : Calls Tryd.prog f us.toArray w fun e w' => (∃ v, e = .returned v ∧ K (a.put o.dst v) w') ∨ ∃ ch, e = .panicked ch ∧ Q (.panic ch) a w') : if Region.wanted o (yielded ops a.tmps) = true then Oper.wp Tryd.prog o a w K Q else E := by
  have hw : Region.wanted o (yielded ops a.tmps) = true := by simp [Region.wanted, hgd]
  rw [if_pos hw]
  unfold Oper.wp execOp
  have e1 : a.eval (.func f) = Value.func (.func f) #[] #[] := rfl
  have e2 : ∀ ar : Array Value, ar ++ #[] = ar := fun ar => by simp
  have e3 : ∀ ar : Array Value, #[] ++ ar = ar := fun ar => by simp
  simp only [ho, resolve, invoke, Deferred.ofValue, e1, e2, e3, Sem.run_bind, Sem.run_pure, Result.andThen_ok, List.map_toArray, hx, ent]
  rw [Oper.upon_enter]
  refine h.mono ?_
  rintro e w' (⟨v, rfl, hk⟩ | ⟨ch, rfl, hq⟩)
  · exact hk
  · exact hq

end Go.Proofs.YthkecbgifajmmaaDoor
