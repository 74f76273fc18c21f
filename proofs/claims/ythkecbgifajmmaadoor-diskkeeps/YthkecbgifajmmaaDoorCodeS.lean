/- plain.Code of one of the errors. -/
import Derived.Test.YthkecbgifajmmaaDoorCode
namespace Go.Proofs.YthkecbgifajmmaaDoor
open Go.RowKit

theorem code_sent (i : Nat) (w : World) (a : Nat → Addr) (hS : Sent w a) (hi : i < 9) :
    Calls Tryd.prog 21 #[sentV a i] w fun e w' => e = .returned (.tuple #[.int .i64 ((i : Int) + 1), .int .i64 (-1)]) ∧ Below w.heap.size w w' := by
  refine (code_bare (a i) i w a hS (by omega) (hS.row i hi) (fun k hk => ⟨fun h => ?_, fun h => by rw [h]⟩)).mono ?_
  · rcases Nat.decEq k i with h' | h'
    · exact absurd h (hS.apart i k hi hk (fun e => h' e.symm))
    · exact h'
  · rintro e w' ⟨rfl, hb⟩
    refine ⟨?_, hb⟩
    unfold codeOf
    rw [if_pos hi]
end Go.Proofs.YthkecbgifajmmaaDoor
