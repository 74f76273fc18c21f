/- Walks of the writer of bits where it refuses, whatever the error is. -/
import Derived.Test.YtpdbkolbbkbbnabDoorBW2
namespace Go.Proofs.YtpdbkolbbkbbnabDoor
open Go.RowKit

/-- A number that doesn't fit. -/
def NoFit (n : Nat) (d : Int) : Prop := d < 0 ∨ 32 < d ∨ ∃ k : Nat, d = k ∧ k ≤ 32 ∧ n / 2 ^ k ≠ 0

theorem fit_or_not (n : Nat) (d : Int) : NoFit n d ∨ ∃ j : Nat, d = j ∧ j ≤ 32 ∧ n < 2 ^ j := by
  by_cases h0 : d < 0
  · exact .inl (.inl h0)
  by_cases h1 : 32 < d
  · exact .inl (.inr (.inl h1))
  obtain ⟨j, rfl⟩ := Int.eq_ofNat_of_zero_le (show 0 ≤ d by omega)
  by_cases h2 : n / 2 ^ j = 0
  · refine .inr ⟨j, rfl, by omega, ?_⟩
    rcases Nat.lt_or_ge n (2 ^ j) with h | h
    · exact h
    · have := Nat.div_pos h (Nat.two_pow_pos j); omega
  · exact .inl (.inr (.inr ⟨j, rfl, by omega, h2⟩))

theorem fits_no (n : Nat) (d : Int) (w : World) (h : NoFit n d) :
    Calls Tryd.prog 18 #[.int .u32 (n : Int), .int .i64 d] w fun e w' => e = .returned (.bool false) ∧ w' = w := by
  rcases h with h | h | ⟨k, rfl, hk, h⟩
  · exact fits_out n d w (.inl h)
  · exact fits_out n d w (.inr h)
  · exact fits_in n k false w hk (by simpa using h)

theorem put_bad (p n : Nat) (d : Int) (v : Value) (w : World) (hc : w.cell? ⟨0, 0, none⟩ = some v) (h : NoFit n d) :
    Calls Tryd.prog 7 #[.pointer (some ⟨p, 0, none⟩), .int .u32 (n : Int), .int .i64 d] w fun e w' => e = .returned v ∧ w' = w := by
  go_enter Tryd.func7, Tryd.ntmps7
  go_wp2_with fail
  refine (fits_no n d _ h).mono ?_; rintro e w1 ⟨rfl, rfl⟩
  go_wp2
  go_ret
  exact ⟨rfl, rfl⟩
end Go.Proofs.YtpdbkolbbkbbnabDoor
