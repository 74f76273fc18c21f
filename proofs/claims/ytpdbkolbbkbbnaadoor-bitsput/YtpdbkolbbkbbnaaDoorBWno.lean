/- Walks of the writer of bits where it refuses. -/
import Derived.Test.YtpdbkolbbkbbnaaDoorBW2
import Derived.Test.YtpdbkolbbkbbnaaDoorCode
namespace Go.Proofs.YtpdbkolbbkbbnaaDoor
open Go.RowKit

/-- A number that doesn't fit. -/
def NoFit (n : Nat) (d : Int) : Prop := d < 0 ∨ 32 < d ∨ ∃ k : Nat, d = k ∧ k ≤ 32 ∧ n / 2 ^ k ≠ 0

theorem fits_no (n : Nat) (d : Int) (w : World) (h : NoFit n d) :
    Calls Tryd.prog 37 #[.int .u32 (n : Int), .int .i64 d] w fun e w' => e = .returned (.bool false) ∧ w' = w := by
  rcases h with h | h | ⟨k, rfl, hk, h⟩
  · exact fits_out n d w (.inl h)
  · exact fits_out n d w (.inr h)
  · exact fits_in n k false w hk (by simpa using h)

theorem put_no (p n : Nat) (d : Int) (w : World) (a : Nat → Addr) (hS : Sent w a) (h : NoFit n d) :
    Calls Tryd.prog 24 #[.pointer (some ⟨p, 0, none⟩), .int .u32 (n : Int), .int .i64 d] w fun e w' => e = .returned (sentV a 1) ∧ w' = w := by
  have c1 := hS.cell 1 (by decide)
  simp only [sentAt, sentV, List.getD_cons_zero, List.getD_cons_succ] at c1
  clear hS
  go_enter Tryd.func24, Tryd.ntmps24
  go_wp2_with fail
  refine (fits_no n d _ h).mono ?_; rintro e w1 ⟨rfl, rfl⟩
  go_wp2
  go_ret
  exact ⟨rfl, rfl⟩
end Go.Proofs.YtpdbkolbbkbbnaaDoor
