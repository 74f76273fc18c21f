/- Plain facts on the one-bit step of CRC over natural numbers: it is linear over exclusive or, and it loses nothing of 32 bits. -/
namespace Go.Proofs.YtpfobocdbmiagaaDoor.Crc

/-- One bit to the right; a bit that falls out is joined in. -/
def step (c : Nat) : Nat := if c % 2 = 1 then (c / 2) ^^^ 3988292384 else c / 2

def steps : Nat → Nat → Nat
  | 0, c => c
  | n + 1, c => steps n (step c)

theorem xor_four (a b c d : Nat) : (a ^^^ b) ^^^ (c ^^^ d) = (a ^^^ c) ^^^ (b ^^^ d) := by
  rw [Nat.xor_assoc, Nat.xor_assoc]
  congr 1
  rw [← Nat.xor_assoc, ← Nat.xor_assoc, Nat.xor_comm b c]

theorem eq_of_xor {a b : Nat} (h : a ^^^ b = 0) : a = b := by
  have := congrArg (fun x => x ^^^ b) h
  simpa [Nat.xor_assoc] using this

theorem step_xor (a b : Nat) : step (a ^^^ b) = step a ^^^ step b := by
  unfold step
  rw [Nat.xor_div_two]
  have hm : (a ^^^ b) % 2 = (a % 2) ^^^ (b % 2) := Nat.xor_mod_two_pow (n := 1)
  rcases Nat.mod_two_eq_zero_or_one a with ha | ha <;> rcases Nat.mod_two_eq_zero_or_one b with hb | hb
  · have : (a ^^^ b) % 2 = 0 := by rw [hm, ha, hb]; decide
    simp [ha, hb, this]
  · have : (a ^^^ b) % 2 = 1 := by rw [hm, ha, hb]; decide
    simp [ha, hb, this, Nat.xor_assoc]
  · have : (a ^^^ b) % 2 = 1 := by rw [hm, ha, hb]; decide
    simp only [ha, hb, this, if_true]
    rw [if_neg (by omega), Nat.xor_assoc, Nat.xor_assoc, Nat.xor_comm (b / 2)]
  · have : (a ^^^ b) % 2 = 0 := by rw [hm, ha, hb]; decide
    simp only [ha, hb, this, if_true]
    rw [if_neg (by omega), xor_four, Nat.xor_self, Nat.xor_zero]

theorem step_two_mul (a : Nat) : step (2 * a) = a := by
  unfold step
  rw [if_neg (by omega)]
  omega

theorem step_zero : step 0 = 0 := rfl

theorem step_lt {c : Nat} (h : c < 4294967296) : step c < 4294967296 := by
  unfold step
  split
  · exact Nat.xor_lt_two_pow (n := 32) (by omega) (by omega)
  · omega

theorem step_eq_zero {c : Nat} (h : c < 4294967296) (h0 : step c = 0) : c = 0 := by
  unfold step at h0
  split at h0
  · have : c / 2 = 3988292384 := eq_of_xor h0
    omega
  · omega

theorem steps_add (m n c : Nat) : steps (m + n) c = steps n (steps m c) := by
  induction m generalizing c with
  | zero => simp [steps]
  | succ m ih => rw [show m + 1 + n = (m + n) + 1 from by omega]; simp only [steps]; exact ih _

theorem steps_succ' (n c : Nat) : steps (n + 1) c = step (steps n c) := by
  rw [steps_add]; rfl

theorem steps_xor (n a b : Nat) : steps n (a ^^^ b) = steps n a ^^^ steps n b := by
  induction n generalizing a b with
  | zero => rfl
  | succ n ih => simp only [steps]; rw [step_xor, ih]

theorem steps_zero (n : Nat) : steps n 0 = 0 := by
  induction n with
  | zero => rfl
  | succ n ih => simp only [steps]; rw [step_zero, ih]

theorem steps_lt (n : Nat) {c : Nat} (h : c < 4294967296) : steps n c < 4294967296 := by
  induction n generalizing c with
  | zero => exact h
  | succ n ih => exact ih (step_lt h)

theorem steps_eq_zero (n : Nat) {c : Nat} (h : c < 4294967296) (h0 : steps n c = 0) : c = 0 := by
  induction n generalizing c with
  | zero => exact h0
  | succ n ih => exact step_eq_zero h (ih (step_lt h) h0)

theorem steps_pow (n a : Nat) : steps n (2 ^ n * a) = a := by
  induction n generalizing a with
  | zero => simp [steps]
  | succ n ih =>
    rw [show 2 ^ (n + 1) * a = 2 * (2 ^ n * a) from by rw [Nat.pow_succ, Nat.mul_comm (2 ^ n) 2, Nat.mul_assoc]]
    simp only [steps]
    rw [step_two_mul, ih]

theorem join_xor (n h l : Nat) (hl : l < 2 ^ n) : 2 ^ n * h + l = (2 ^ n * h) ^^^ l := by
  have e1 : ((2 ^ n * h) ^^^ l) / 2 ^ n = h := by
    rw [Nat.xor_div_two_pow, Nat.mul_div_cancel_left _ (Nat.two_pow_pos n), Nat.div_eq_of_lt hl, Nat.xor_zero]
  have e2 : ((2 ^ n * h) ^^^ l) % 2 ^ n = l := by
    rw [Nat.xor_mod_two_pow, Nat.mul_mod_right, Nat.mod_eq_of_lt hl, Nat.zero_xor]
  have := Nat.div_add_mod ((2 ^ n * h) ^^^ l) (2 ^ n)
  rw [e1, e2] at this
  exact this

/-- A table's step is eight bits' step. -/
theorem byte_step (c s : Nat) : (c / 256) ^^^ steps 8 ((c % 256) ^^^ s) = steps 8 (c ^^^ s) := by
  have e : c = (2 ^ 8 * (c / 256)) ^^^ (c % 256) := by
    rw [← join_xor 8 _ _ (by omega)]
    omega
  rw [show c ^^^ s = (2 ^ 8 * (c / 256)) ^^^ ((c % 256) ^^^ s) from by rw [← Nat.xor_assoc, ← e]]
  rw [steps_xor 8 (2 ^ 8 * (c / 256)), steps_pow]

/-- The bytes as one number, the first the lowest. -/
def num : List UInt8 → Nat
  | [] => 0
  | b :: l => b.toNat + 256 * num l

theorem num_cons (b : UInt8) (l : List UInt8) : num (b :: l) = (256 * num l) ^^^ b.toNat := by
  have : 256 * num l + b.toNat = (256 * num l) ^^^ b.toNat := join_xor 8 (num l) b.toNat b.toNat_lt
  simp only [num]
  omega

theorem num_lt (l : List UInt8) : num l < 2 ^ (8 * l.length) := by
  induction l with
  | nil => simp [num]
  | cons b l ih =>
    have hb := b.toNat_lt
    simp only [num, List.length_cons]
    rw [show 8 * (l.length + 1) = 8 * l.length + 8 from by omega, Nat.pow_add]
    omega

theorem num_inj (a b : List UInt8) (hl : a.length = b.length) (h : num a = num b) : a = b := by
  induction a generalizing b with
  | nil => cases b with
    | nil => rfl
    | cons x b => simp at hl
  | cons y a ih => cases b with
    | nil => simp at hl
    | cons x b =>
      simp only [num] at h
      have hx := x.toNat_lt
      have hy := y.toNat_lt
      have e : y.toNat = x.toNat := by omega
      have e' : y = x := UInt8.toNat_inj.1 e
      rw [e', ih b (by simpa using hl) (by omega)]

/-- CRC's run over bytes, bit by bit. -/
def run (c : Nat) (l : List UInt8) : Nat := l.foldl (fun c b => steps 8 (c ^^^ b.toNat)) c

theorem run_append (c : Nat) (a b : List UInt8) : run c (a ++ b) = run (run c a) b := by simp [run]

theorem run_snoc (c : Nat) (a : List UInt8) (b : UInt8) : run c (a ++ [b]) = steps 8 (run c a ^^^ b.toNat) := by simp [run]

theorem run_lt (c : Nat) (l : List UInt8) (h : c < 4294967296) : run c l < 4294967296 := by
  induction l generalizing c with
  | nil => exact h
  | cons b l ih =>
    have hb := b.toNat_lt
    exact ih _ (steps_lt 8 (Nat.xor_lt_two_pow (n := 32) (by omega) (by omega)))

theorem run_eq (c : Nat) (l : List UInt8) : run c l = steps (8 * l.length) (c ^^^ num l) := by
  induction l generalizing c with
  | nil => simp [run, num, steps]
  | cons b l ih =>
    have e : run c (b :: l) = run (steps 8 (c ^^^ b.toNat)) l := rfl
    rw [e, ih, List.length_cons, show 8 * (l.length + 1) = 8 + 8 * l.length from by omega, steps_add, num_cons]
    congr 1
    rw [Nat.xor_comm (256 * num l), ← Nat.xor_assoc, steps_xor 8 (c ^^^ b.toNat), show 256 * num l = 2 ^ 8 * num l from rfl, steps_pow]

/-- Two texts of one length, whose difference is a burst. -/
theorem run_burst (c : Nat) (a b : List UInt8) (hl : a.length = b.length) (at_ turn : Nat) (hat : at_ ≤ 8 * a.length) (ht : turn < 4294967296)
    (hd : num b = num a ^^^ (2 ^ at_ * turn)) (h : run c b = run c a) : b = a := by
  rw [run_eq, run_eq, hd, ← hl, ← Nat.xor_assoc, steps_xor _ (c ^^^ num a)] at h
  have h2 : steps (8 * a.length) (2 ^ at_ * turn) = 0 := by
    have h3 := congrArg (fun x => steps (8 * a.length) (c ^^^ num a) ^^^ x) h
    simp only [← Nat.xor_assoc, Nat.xor_self, Nat.zero_xor] at h3
    exact h3
  rw [show 8 * a.length = at_ + (8 * a.length - at_) from by omega, steps_add, steps_pow] at h2
  have h3 := steps_eq_zero _ ht h2
  rw [h3, Nat.mul_zero, Nat.xor_zero] at hd
  exact num_inj _ _ hl.symm hd

end Go.Proofs.YtpfobocdbmiagaaDoor.Crc
