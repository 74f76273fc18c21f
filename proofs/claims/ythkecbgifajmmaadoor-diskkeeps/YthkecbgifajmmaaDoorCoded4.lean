/- layercakelaw4.coded by its contracts. -/
import Derived.Test.YthkecbgifajmmaaDoorCodeS
namespace Go.Proofs.YthkecbgifajmmaaDoor
open Go.RowKit

theorem coded4_sent (i : Nat) (c : Int) (w : World) (a : Nat → Addr) (hS : Sent w a) (hi : i < 9) (hc : ((i : Int) + 1 == c) = true) :
    Calls Tryd.prog 9 #[sentV a i, .int .i64 c] w fun e w' => e = .returned (.bool true) ∧ Below w.heap.size w w' := by
  have Hcs := code_sent i w a hS hi
  generalize sentV a i = v at *
  have Hc : Go.RowKit.Hid (Calls _ _ _ _ _) := Hcs
  clear Hcs hS
  go_enter Tryd.func9, Tryd.ntmps9
  go_wp2_with fail
  refine Hc.out.mono ?_
  rintro e w1 ⟨rfl, hb⟩
  go_wp2
  go_ret
  exact ⟨rfl, hb⟩

theorem coded4_nil (w : World) :
    Calls Tryd.prog 9 #[.nilIface, .int .i64 0] w fun e w' => e = .returned (.bool true) ∧ w' = w := by
  go_enter Tryd.func9, Tryd.ntmps9
  go_wp2_with fail
  refine (code_nil _).mono ?_
  rintro e w1 ⟨rfl, rfl⟩
  go_wp2
  go_ret
  exact ⟨rfl, rfl⟩
end Go.Proofs.YthkecbgifajmmaaDoor
