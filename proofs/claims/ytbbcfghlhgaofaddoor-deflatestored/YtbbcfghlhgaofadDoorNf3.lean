/- Plain facts on words as texts of bits, on the fixed code, on stored lengths. -/
import Derived.Test.YtbbcfghlhgaofadDoorNf
import Derived.Test.YtbbcfghlhgaofadDoorMg1
namespace Go.Proofs.YtbbcfghlhgaofadDoor.Nf
open Pm Cn

theorem hv_front (V k n : Nat) : hv V k (n + 1) = 2 ^ n * (V / 2 ^ k % 2) + hv V (k + 1) n := by
  induction n with
  | zero => simp [hv]
  | succ n ih =>
    show 2 * hv V k (n + 1) + V / 2 ^ (k + (n + 1)) % 2 = _
    rw [ih, Nat.pow_succ]
    show _ = _ + (2 * hv V (k + 1) n + V / 2 ^ (k + 1 + n) % 2)
    rw [show k + 1 + n = k + (n + 1) by omega, Nat.mul_add, ← Nat.mul_assoc, Nat.mul_comm 2 (2 ^ n)]
    omega

theorem rev_mod (c n : Nat) : Bt.rev c n = Bt.rev (c % 2 ^ n) n := by
  have key : ∀ m, m ≤ n → Bt.rev c m = Bt.rev (c % 2 ^ n) m := by
    intro m
    induction m with
    | zero => intro _; rfl
    | succ m ih =>
      intro h
      show Bt.bit c m + 2 * Bt.rev c m = Bt.bit (c % 2 ^ n) m + 2 * Bt.rev (c % 2 ^ n) m
      rw [ih (by omega), Bt.bit_mod c n m (by omega)]
  exact key n (Nat.le_refl _)

theorem front_mod (V k n : Nat) : V / 2 ^ k % 2 ^ (n + 1) = V / 2 ^ k % 2 + 2 * (V / 2 ^ (k + 1) % 2 ^ n) := by
  rw [Nat.pow_succ', Nat.mod_mul, Nat.pow_succ, Nat.div_div_eq_div_mul]

theorem rev_hv (V : Nat) : ∀ (n k c : Nat), c < 2 ^ n → (Bt.rev c n = V / 2 ^ k % 2 ^ n ↔ c = hv V k n) := by
  intro n
  induction n with
  | zero => intro k c h; simp at h; subst h; simp [Bt.rev, hv, Nat.mod_one]
  | succ n ih =>
    intro k c h
    have ih' := ih (k + 1) (c % 2 ^ n) (Nat.mod_lt _ (Nat.two_pow_pos n))
    rw [front_mod, hv_front]
    show Bt.bit c n + 2 * Bt.rev c n = _ ↔ _
    rw [rev_mod]
    have hb : Bt.bit c n = c / 2 ^ n := by
      unfold Bt.bit
      refine Nat.mod_eq_of_lt ?_
      rw [Nat.div_lt_iff_lt_mul (Nat.two_pow_pos n)]
      rw [Nat.pow_succ] at h; omega
    have hc := Nat.div_add_mod c (2 ^ n)
    have h2 : c / 2 ^ n < 2 := by
      rw [Nat.div_lt_iff_lt_mul (Nat.two_pow_pos n)]
      rw [Nat.pow_succ] at h; omega
    have h3 : V / 2 ^ k % 2 < 2 := Nat.mod_lt _ (by omega)
    have h4 := hv_lt V (k + 1) n
    have h5 : c % 2 ^ n < 2 ^ n := Nat.mod_lt _ (Nat.two_pow_pos n)
    rw [hb]
    generalize c / 2 ^ n = b at *
    generalize V / 2 ^ k % 2 = b' at *
    constructor
    · intro e
      have e1 : b = b' := by omega
      have e2 : Bt.rev (c % 2 ^ n) n = V / 2 ^ (k + 1) % 2 ^ n := by omega
      rw [← ih'.1 e2, ← e1]
      exact hc.symm
    · intro e
      have key : b = b' ∧ c % 2 ^ n = hv V (k + 1) n := by
        rw [← hc] at e
        have hp := Nat.two_pow_pos n
        generalize 2 ^ n = p at *
        generalize c % p = r at *
        generalize hv V (k + 1) n = r' at *
        match b, b', h2, h3 with
        | 0, 0, _, _ => omega
        | 1, 1, _, _ => omega
        | 0, 1, _, _ => omega
        | 1, 0, _, _ => omega
      rw [ih'.2 key.2, key.1]

theorem bl_ext (n X Y : Nat) : Bt.bl n X = Bt.bl n Y ↔ X % 2 ^ n = Y % 2 ^ n := by
  constructor
  · intro h
    have hb : ∀ i, i < n → Bt.bit X i = Bt.bit Y i := fun i hi => by
      have h1 := Bt.bl_at n X i hi
      have h2 := Bt.bl_at n Y i hi
      rw [h, h2] at h1
      injection h1 with h1
      have := congrArg UInt8.toNat h1
      have a := Bt.bit_lt X i
      have b := Bt.bit_lt Y i
      simp only [UInt8.toNat_ofNat'] at this
      omega
    have key : ∀ m, m ≤ n → X % 2 ^ m = Y % 2 ^ m := by
      intro m
      induction m with
      | zero => intro _; simp [Nat.mod_one]
      | succ m ih => intro hm; rw [Bt.mod_succ, Bt.mod_succ, ih (by omega), hb m (by omega)]
    exact key n (Nat.le_refl _)
  · intro h
    unfold Bt.bl
    refine List.map_congr_left (fun i hi => ?_)
    have hi := List.mem_range.1 hi
    rw [← Bt.bit_mod X n i hi, ← Bt.bit_mod Y n i hi, h]

/-- The word as a text stands there. -/
theorem word_iff (V k n c : Nat) (h : c < 2 ^ n) : Bt.bl n (Bt.rev c n) = Bt.bl n (V / 2 ^ k) ↔ hv V k n = c := by
  rw [bl_ext, Nat.mod_eq_of_lt (Bt.rev_lt c n), rev_hv V n k c h]
  exact eq_comm

theorem xor16 (n m : Nat) (hn : n < 65536) : n ^^^ m = 65535 ↔ n + m = 65535 := by
  have key : n ^^^ 65535 = 65535 - n := by
    have h := BitVec.toNat_not (x := BitVec.ofNat 16 n)
    have h2 : (~~~ BitVec.ofNat 16 n) = BitVec.ofNat 16 n ^^^ BitVec.allOnes 16 := (BitVec.xor_allOnes).symm
    rw [h2] at h
    simp only [BitVec.toNat_xor, BitVec.toNat_ofNat, BitVec.toNat_allOnes] at h
    rw [Nat.mod_eq_of_lt (by omega)] at h
    exact h
  constructor
  · intro h
    have : m = n ^^^ 65535 := by rw [← h, ← Nat.xor_assoc, Nat.xor_self, Nat.zero_xor]
    omega
  · intro h
    have : m = 65535 - n := by omega
    rw [this, ← key, ← Nat.xor_assoc, Nat.xor_self, Nat.zero_xor]

set_option maxRecDepth 100000 in
theorem all_fixL : all fixL 288 = 32768 := by decide +kernel
set_option maxRecDepth 100000 in
theorem all_fixD : all fixD 32 = 32768 := by decide +kernel
set_option maxRecDepth 100000 in
theorem code_fixD : ∀ i, i < 32 → code fixD 32 i = i := by decide +kernel
theorem fixL_le (i : Nat) : fixL i ≤ 15 ∧ 0 < fixL i := by
  unfold fixL
  split
  · omega
  · split
    · omega
    · split <;> omega

theorem small_lt (V k c x : Nat) : small V k c x < 8 := by
  induction c with
  | zero => unfold small; omega
  | succ c ih =>
    unfold small
    split
    · exact Nat.mod_lt _ (by omega)
    · exact ih
end Go.Proofs.YtbbcfghlhgaofadDoor.Nf
