/- Pieces of bits: numbers of so many bits, end to end: plain. -/
import Derived.Test.YtmmilamaahmaoaeDoorBt
namespace Go.Proofs.YtmmilamaahmaoaeDoor.Ps

/-! ### Pieces: a number, and how many bits -/
abbrev Pc := Nat × Nat
def len : List Pc → Nat
  | [] => 0
  | p :: l => p.2 + len l
def val : List Pc → Nat
  | [] => 0
  | p :: l => p.1 + 2 ^ p.2 * val l
def Fit (l : List Pc) : Prop := ∀ p ∈ l, p.1 < 2 ^ p.2

theorem Fit.nil : Fit [] := fun _ h => by cases h
theorem Fit.cons {p : Pc} {l : List Pc} (h : p.1 < 2 ^ p.2) (hl : Fit l) : Fit (p :: l) := fun q hq => by
  rcases List.mem_cons.1 hq with e | e
  · rw [e]; exact h
  · exact hl q e
theorem Fit.append {a b : List Pc} (h : Fit a) (g : Fit b) : Fit (a ++ b) := fun q hq => by
  rcases List.mem_append.1 hq with e | e
  · exact h q e
  · exact g q e
theorem Fit.left {a b : List Pc} (h : Fit (a ++ b)) : Fit a := fun q hq => h q (List.mem_append.2 (.inl hq))
theorem Fit.right {a b : List Pc} (h : Fit (a ++ b)) : Fit b := fun q hq => h q (List.mem_append.2 (.inr hq))

theorem len_append (a b : List Pc) : len (a ++ b) = len a + len b := by
  induction a with
  | nil => simp [len]
  | cons p a ih => simp only [List.cons_append, len, ih]; omega
theorem val_append (a b : List Pc) : val (a ++ b) = val a + 2 ^ len a * val b := by
  induction a with
  | nil => simp [len, val]
  | cons p a ih =>
    simp only [List.cons_append, len, val, ih]
    rw [Nat.pow_add, Nat.mul_add, Nat.add_assoc, Nat.mul_assoc]
theorem val_lt {l : List Pc} (h : Fit l) : val l < 2 ^ len l := by
  induction l with
  | nil => simp [len, val]
  | cons p l ih => exact Bt.lt_more p.2 _ _ _ (h p (by simp)) (ih (fun q hq => h q (by simp [hq])))

/-- The pieces stand from the k-th bit on. -/
def At (V nb k : Nat) (l : List Pc) : Prop := k + len l ≤ nb ∧ V / 2 ^ k % 2 ^ len l = val l

theorem At.split {V nb k : Nat} {a b : List Pc} (ha : Fit a) (h : At V nb k (a ++ b)) : At V nb k a ∧ At V nb (k + len a) b := by
  obtain ⟨h1, h2⟩ := h
  rw [len_append] at h1
  rw [len_append, val_append] at h2
  have hv := val_lt ha
  refine ⟨⟨by omega, ?_⟩, ⟨by omega, ?_⟩⟩
  · have e : V / 2 ^ k % 2 ^ (len a + len b) % 2 ^ len a = V / 2 ^ k % 2 ^ len a := Nat.mod_mod_of_dvd _ (Nat.pow_dvd_pow 2 (by omega))
    rw [← e, h2, Nat.add_mul_mod_self_left, Nat.mod_eq_of_lt hv]
  · have e : V / 2 ^ (k + len a) % 2 ^ len b = V / 2 ^ k % 2 ^ (len a + len b) / 2 ^ len a := by
      rw [Nat.pow_add, Nat.pow_add, ← Nat.div_div_eq_div_mul, Nat.mod_mul_right_div_self]
    rw [e, h2, Nat.add_mul_div_left _ _ (Nat.two_pow_pos _), Nat.div_eq_of_lt hv, Nat.zero_add]
theorem At.join {V nb k : Nat} {a b : List Pc} (h : At V nb k a) (g : At V nb (k + len a) b) : At V nb k (a ++ b) := by
  obtain ⟨h1, h2⟩ := h
  obtain ⟨g1, g2⟩ := g
  refine ⟨by rw [len_append]; omega, ?_⟩
  rw [len_append, val_append, Nat.pow_add, Nat.mod_mul, h2, Nat.div_div_eq_div_mul, ← Nat.pow_add, g2]
theorem At.cons {V nb k : Nat} {p : Pc} {l : List Pc} (hp : p.1 < 2 ^ p.2) (h : At V nb k (p :: l)) : At V nb k [p] ∧ At V nb (k + p.2) l := by
  have := At.split (a := [p]) (b := l) (Fit.cons hp Fit.nil) h
  simpa [len] using this
theorem At.nil {V nb k : Nat} (h : k ≤ nb) : At V nb k [] := ⟨by simpa [len] using h, by simp [len, val, Nat.mod_one]⟩
theorem At.one {V nb k : Nat} {p : Pc} (h : At V nb k [p]) : k + p.2 ≤ nb ∧ V / 2 ^ k % 2 ^ p.2 = p.1 := by
  obtain ⟨h1, h2⟩ := h
  simp only [len, val, Nat.add_zero, Nat.mul_zero] at h1 h2
  exact ⟨h1, h2⟩
/-- Of a number that is these pieces, and others behind them. -/
theorem at_front {l : List Pc} {m n : Nat} (h : Fit l) : At (val l + 2 ^ len l * m) (len l + n) 0 l := by
  refine ⟨by omega, ?_⟩
  rw [Nat.pow_zero, Nat.div_one, Nat.add_mul_mod_self_left, Nat.mod_eq_of_lt (val_lt h)]

/-! ### Words -/
end Go.Proofs.YtmmilamaahmaoaeDoor.Ps
