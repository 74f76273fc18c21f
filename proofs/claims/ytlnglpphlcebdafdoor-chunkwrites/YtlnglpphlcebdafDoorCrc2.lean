/- Plain facts on bits that are turned in a text. -/
import Derived.Test.YtlnglpphlcebdafDoorCrc
namespace Go.Proofs.YtlnglpphlcebdafDoor.Crc

theorem xor_shift (n a b : Nat) : 2 ^ n * (a ^^^ b) = (2 ^ n * a) ^^^ (2 ^ n * b) := by
  rw [Nat.mul_comm, Nat.mul_comm (2 ^ n) a, Nat.mul_comm (2 ^ n) b, ← Nat.shiftLeft_eq, ← Nat.shiftLeft_eq, ← Nat.shiftLeft_eq, Nat.shiftLeft_xor_distrib]

theorem turned_lt (x r : Nat) (hx : x < 256) (hr : r < 8) : x ^^^ 2 ^ r < 256 :=
  Nat.xor_lt_two_pow (n := 8) hx (Nat.pow_lt_pow_right (by omega) hr)

/-- One bit of one byte turned is one bit of the number turned. -/
theorem num_set (l : List UInt8) (q r : Nat) (hq : q < l.length) (hr : r < 8) :
    num (l.set q (UInt8.ofNat ((l.getD q 0).toNat ^^^ 2 ^ r))) = num l ^^^ 2 ^ (8 * q + r) := by
  induction l generalizing q with
  | nil => simp at hq
  | cons b l ih =>
    cases q with
    | zero =>
      have h := turned_lt b.toNat r b.toNat_lt hr
      simp only [List.set_cons_zero, List.getD_cons_zero]
      rw [num_cons, num_cons, UInt8.toNat_ofNat', Nat.mod_eq_of_lt h, Nat.xor_assoc]
      simp
    | succ q =>
      simp only [List.set_cons_succ, List.getD_cons_succ]
      rw [num_cons, num_cons, ih q (by simpa using hq), show 256 * (num l ^^^ 2 ^ (8 * q + r)) = (256 * num l) ^^^ (256 * 2 ^ (8 * q + r)) from xor_shift 8 _ _]
      rw [show 256 * 2 ^ (8 * q + r) = 2 ^ (8 * (q + 1) + r) from by rw [show 8 * (q + 1) + r = 8 + (8 * q + r) from by omega, Nat.pow_add 2 8]]
      rw [Nat.xor_assoc, Nat.xor_assoc, Nat.xor_comm b.toNat]

/-- One bit more of what turns. -/
theorem turn_step (a turn k t M : Nat) (hs : turn % 2 ^ (k + 1) = turn % 2 ^ k + 2 ^ k * (t % 2)) :
    2 ^ a * (turn % 2 ^ (k + 1)) % 2 ^ M = (2 ^ a * (turn % 2 ^ k) % 2 ^ M) ^^^ (2 ^ (a + k) * (t % 2) % 2 ^ M) := by
  rw [← Nat.xor_mod_two_pow]
  congr 1
  rw [hs, Nat.add_comm, join_xor k _ _ (Nat.mod_lt _ (Nat.two_pow_pos k)), xor_shift, Nat.xor_comm, ← Nat.mul_assoc, ← Nat.pow_add]

/-- What is turned in the end is a burst. -/
theorem turn_end (a turn M : Nat) (h : a ≤ M) : 2 ^ a * turn % 2 ^ M = 2 ^ a * (turn % 2 ^ (M - a)) := by
  rw [← Nat.mul_mod_mul_left, ← Nat.pow_add, Nat.add_sub_cancel' h]

end Go.Proofs.YtlnglpphlcebdafDoor.Crc
