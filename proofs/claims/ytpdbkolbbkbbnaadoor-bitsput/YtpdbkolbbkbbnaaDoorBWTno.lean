/- Walk of the writer of bits, the highest first, where it refuses. -/
import Derived.Test.YtpdbkolbbkbbnaaDoorBWno
import Derived.Test.YtpdbkolbbkbbnaaDoorBWT
namespace Go.Proofs.YtpdbkolbbkbbnaaDoor
open Go.RowKit

theorem turned_no (p n : Nat) (d : Int) (w : World) (a : Nat → Addr) (hS : Sent w a) (h : NoFit n d) :
    Calls Tryd.prog 22 #[.pointer (some ⟨p, 0, none⟩), .int .u32 (n : Int), .int .i64 d] w fun e w' => e = .returned (sentV a 1) ∧ w' = w := by
  have c1 := hS.cell 1 (by decide)
  simp only [sentAt, sentV, List.getD_cons_zero, List.getD_cons_succ] at c1
  clear hS
  go_enter Tryd.func22, Tryd.ntmps22
  go_wp2_with fail
  refine (fits_no n d _ h).mono ?_; rintro e w1 ⟨rfl, rfl⟩
  go_wp2
  go_ret
  exact ⟨rfl, rfl⟩
end Go.Proofs.YtpdbkolbbkbbnaaDoor
