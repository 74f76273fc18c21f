/- plain.Code of one of the errors. layercakelaw2.coded by its contracts. -/
import Derived.Test.YtcicbafdacfbpaiDoorCode
namespace Go.Proofs.YtcicbafdacfbpaiDoor
open Go.RowKit

theorem code_sent (i : Nat) (w : World) (a : Nat → Addr) (hS : Sent w a) (hi : i < 9) :
    Calls Tryd.prog 36 #[sentV a i] w fun e w' => e = .returned (.tuple #[.int .i64 ((i : Int) + 1), .int .i64 (-1)]) ∧ Below w.heap.size w w' := by
  refine (code_bare (a i) i w a hS (by omega) (hS.row i hi) (fun k hk => ⟨fun h => ?_, fun h => by rw [h]⟩)).mono ?_
  · rcases Nat.decEq k i with h' | h'
    · exact absurd h (hS.apart i k hi hk (fun e => h' e.symm))
    · exact h'
  · rintro e w' ⟨rfl, hb⟩
    refine ⟨?_, hb⟩
    unfold codeOf
    rw [if_pos hi]
end Go.Proofs.YtcicbafdacfbpaiDoor
namespace Go.Proofs.YtcicbafdacfbpaiDoor
open Go.RowKit

theorem coded2_sent (i : Nat) (c : Int) (w : World) (a : Nat → Addr) (hS : Sent w a) (hi : i < 9) (hc : ((i : Int) + 1 == c) = true) :
    Calls Tryd.prog 30 #[sentV a i, .int .i64 c] w fun e w' => e = .returned (.bool true) ∧ Below w.heap.size w w' := by
  have Hcs := code_sent i w a hS hi
  generalize sentV a i = v at *
  have Hc : Go.RowKit.Hid (Calls _ _ _ _ _) := Hcs
  clear Hcs hS
  go_enter Tryd.func30, Tryd.ntmps30
  go_wp2_with fail
  refine Hc.out.mono ?_
  rintro e w1 ⟨rfl, hb⟩
  go_wp2
  go_ret
  exact ⟨rfl, hb⟩

theorem coded2_nil (w : World) :
    Calls Tryd.prog 30 #[.nilIface, .int .i64 0] w fun e w' => e = .returned (.bool true) ∧ w' = w := by
  go_enter Tryd.func30, Tryd.ntmps30
  go_wp2_with fail
  refine (code_nil _).mono ?_
  rintro e w1 ⟨rfl, rfl⟩
  go_wp2
  go_ret
  exact ⟨rfl, rfl⟩
end Go.Proofs.YtcicbafdacfbpaiDoor
