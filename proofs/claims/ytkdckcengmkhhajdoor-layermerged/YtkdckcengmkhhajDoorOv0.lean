/- Pixels over pixels: the plain arithmetic. -/
import Derived.Test.YtkdckcengmkhhajDoorMg1
namespace Go.Proofs.YtkdckcengmkhhajDoor
namespace Ov

/-- A rounded quotient, halves up. -/
def rnd (n k : Nat) : Nat := (2 * n + k) / (2 * k)
theorem rnd_le {n k c : Nat} (h : n ≤ c * k) (hk : 0 < k) : rnd n k ≤ c := by
  unfold rnd
  have h1 : (2 * n + k) / (2 * k) < c + 1 := by
    rw [Nat.div_lt_iff_lt_mul (by omega)]
    have e : (c + 1) * (2 * k) = 2 * (c * k) + 2 * k := by rw [Nat.add_mul, Nat.mul_left_comm]; omega
    omega
  omega
theorem rnd_mul (c k : Nat) (hk : 0 < k) : rnd (c * k) k = c := by
  unfold rnd
  have e : ∀ j : Nat, j * (2 * k) = 2 * (j * k) := fun j => by rw [Nat.mul_left_comm]
  refine Nat.div_eq_of_lt_le ?_ ?_
  · rw [e]; omega
  · rw [e, Nat.add_mul]; omega
theorem rnd_ge {n k c : Nat} (h : c * k ≤ n) (hk : 0 < k) : c ≤ rnd n k := by
  unfold rnd
  rw [Nat.le_div_iff_mul_le (by omega)]
  have e : c * (2 * k) = 2 * (c * k) := by rw [Nat.mul_left_comm]
  omega
/-- As the document says it. -/
theorem rnd_doc (n k : Nat) (hk : 0 < k) : rnd n k = if k ≤ 2 * (n - n / k * k) then n / k + 1 else n / k := by
  have h1 := Nat.div_add_mod n k
  have h2 := Nat.mod_lt n hk
  have h3 : n / k * k = k * (n / k) := Nat.mul_comm _ _
  have e : ∀ j : Nat, j * (2 * k) = 2 * (j * k) := fun j => by rw [Nat.mul_left_comm]
  unfold rnd
  split
  · refine Nat.div_eq_of_lt_le ?_ ?_
    · rw [e, Nat.add_mul]; omega
    · rw [e, Nat.add_mul, Nat.add_mul]; omega
  · refine Nat.div_eq_of_lt_le ?_ ?_
    · rw [e]; omega
    · rw [e, Nat.add_mul]; omega

/-- What two colors make together, 255 times. -/
def mt (m s d : Nat) : Nat :=
  if m = 1 then s * d else if m = 2 then 255 * (s + d) - s * d else if m = 3 then 255 * min s d else if m = 4 then 255 * max s d else if m = 5 then 255 * max (s - d) (d - s) else 255 * s
theorem two_colors (s d : Nat) (hs : s ≤ 255) (hd : d ≤ 255) : s * d ≤ 255 * (s + d) ∧ 255 * (s + d) - s * d ≤ 65025 ∧ s * d ≤ 65025 := by
  obtain ⟨x, hx⟩ : ∃ x, s + x = 255 := ⟨255 - s, by omega⟩
  obtain ⟨y, hy⟩ : ∃ y, d + y = 255 := ⟨255 - d, by omega⟩
  have e : (s + x) * (d + y) = s * d + s * y + x * d + x * y := by rw [Nat.add_mul, Nat.mul_add, Nat.mul_add]; omega
  have e1 : s * (d + y) = s * d + s * y := Nat.mul_add _ _ _
  have e2 : (s + x) * d = s * d + x * d := Nat.add_mul _ _ _
  rw [hx, hy] at e
  rw [hy] at e1
  rw [hx] at e2
  omega
theorem mt_le (m s d : Nat) (hs : s ≤ 255) (hd : d ≤ 255) : mt m s d ≤ 65025 := by
  have := two_colors s d hs hd
  unfold mt
  repeat (first | split | omega)
theorem mt_comm (m s d : Nat) (h1 : m ≠ 0) (h2 : m ≤ 5) : mt m s d = mt m d s := by
  have e := Nat.mul_comm s d
  unfold mt
  rw [e]
  repeat (first | split | omega)

/-- How much one over the other covers, 255 times. -/
def cov (a b : Nat) : Nat := 255 * a + b * (255 - a)
theorem cov_doc (a b : Nat) (ha : a ≤ 255) : cov a b + a * b = 255 * a + 255 * b := by
  obtain ⟨x, hx⟩ : ∃ x, a + x = 255 := ⟨255 - a, by omega⟩
  have e : b * (a + x) = b * a + b * x := Nat.mul_add _ _ _
  have e2 := Nat.mul_comm a b
  unfold cov
  rw [show 255 - a = x by omega]
  rw [hx] at e
  omega
theorem cov_le (a b : Nat) (ha : a ≤ 255) (hb : b ≤ 255) : cov a b ≤ 65025 := by
  have := cov_doc a b ha
  have := two_colors a b ha hb
  omega
theorem cov_comm (a b : Nat) (ha : a ≤ 255) (hb : b ≤ 255) : cov a b = cov b a := by
  have := cov_doc a b ha
  have := cov_doc b a hb
  have := Nat.mul_comm a b
  omega
theorem cov_ge (a b : Nat) : a * 255 ≤ cov a b := by unfold cov; omega
theorem cov_ge2 (a b : Nat) (ha : a ≤ 255) (hb : b ≤ 255) : b * 255 ≤ cov a b := by rw [cov_comm a b ha hb]; exact cov_ge b a
/-- What is divided for a color. -/
def alone (a b s d : Nat) : Nat := a * (255 - b) * s + b * (255 - a) * d
def num (m a b s d : Nat) : Nat := 255 * alone a b s d + a * b * mt m s d
theorem three_le {x y z X Y Z : Nat} (hx : x ≤ X) (hy : y ≤ Y) (hz : z ≤ Z) : x * y * z ≤ X * Y * Z := Nat.mul_le_mul (Nat.mul_le_mul hx hy) hz
theorem num_le (m a b s d : Nat) (hb : b ≤ 255) (hs : s ≤ 255) (hd : d ≤ 255) : num m a b s d ≤ 255 * (255 * cov a b) := by
  have hm := mt_le m s d hs hd
  have h1 : a * (255 - b) * s ≤ a * (255 - b) * 255 := Nat.mul_le_mul_left _ hs
  have h2 : b * (255 - a) * d ≤ b * (255 - a) * 255 := Nat.mul_le_mul_left _ hd
  have h3 : a * b * mt m s d ≤ a * b * 65025 := Nat.mul_le_mul_left _ hm
  obtain ⟨y, hy⟩ : ∃ y, b + y = 255 := ⟨255 - b, by omega⟩
  have e : a * (b + y) = a * b + a * y := Nat.mul_add _ _ _
  rw [hy] at e
  unfold num alone cov
  rw [show 255 - b = y by omega] at h1 ⊢
  omega
theorem alone_le (a b s d : Nat) (ha : a ≤ 255) (hb : b ≤ 255) (hs : s ≤ 255) (hd : d ≤ 255) : alone a b s d ≤ 33162750 := by
  have h1 : a * (255 - b) * s ≤ 255 * 255 * 255 := three_le ha (by omega) hs
  have h2 : b * (255 - a) * d ≤ 255 * 255 * 255 := three_le hb (by omega) hd
  unfold alone
  omega
/-- A color. -/
def col (m a b s d : Nat) : Nat := rnd (num m a b s d) (255 * cov a b)
theorem col_le (m a b s d : Nat) (hb : b ≤ 255) (hs : s ≤ 255) (hd : d ≤ 255) (h0 : 0 < cov a b) : col m a b s d ≤ 255 := rnd_le (num_le m a b s d hb hs hd) (by omega)
theorem col_over (m a s : Nat) (h0 : 0 < a) : col m a 0 s 0 = s := by
  unfold col num alone cov
  have e : 255 * (a * (255 - 0) * s + 0 * (255 - a) * 0) + a * 0 * mt m s 0 = s * (255 * (255 * a + 0 * (255 - a))) := by
    simp only [Nat.zero_mul, Nat.mul_zero, Nat.add_zero, Nat.sub_zero]
    rw [Nat.mul_comm a 255, Nat.mul_comm s]
    simp only [Nat.mul_assoc]
  rw [e]
  exact rnd_mul _ _ (by omega)
theorem col_under (m b d : Nat) (h0 : 0 < b) : col m 0 b 0 d = d := by
  unfold col num alone cov
  have e : 255 * (0 * (255 - b) * 0 + b * (255 - 0) * d) + 0 * b * mt m 0 d = d * (255 * (255 * 0 + b * (255 - 0))) := by
    simp only [Nat.zero_mul, Nat.mul_zero, Nat.zero_add, Nat.add_zero, Nat.sub_zero]
    rw [Nat.mul_comm d]
    simp only [Nat.mul_assoc]
  rw [e]
  exact rnd_mul _ _ (by omega)
theorem col_hides (b s d : Nat) (hb : b ≤ 255) : col 0 255 b s d = s := by
  obtain ⟨y, hy⟩ : ∃ y, b + y = 255 := ⟨255 - b, by omega⟩
  have e : (b + y) * s = b * s + y * s := Nat.add_mul _ _ _
  rw [hy] at e
  unfold col num alone cov mt
  have e2 : 255 * (255 * (255 - b) * s + b * (255 - 255) * d) + 255 * b * (if (0 : Nat) = 1 then s * d else if (0 : Nat) = 2 then 255 * (s + d) - s * d else if (0 : Nat) = 3 then 255 * min s d else if (0 : Nat) = 4 then 255 * max s d else if (0 : Nat) = 5 then 255 * max (s - d) (d - s) else 255 * s) = s * (255 * (255 * 255 + b * (255 - 255))) := by
    simp only [Nat.sub_self, Nat.mul_zero, Nat.zero_mul, Nat.add_zero]
    rw [show 255 - b = y by omega]
    have q1 : 255 * y * s = 255 * (y * s) := Nat.mul_assoc _ _ _
    have q2 : 255 * b * (255 * s) = 65025 * (b * s) := by rw [Nat.mul_assoc 255 b, Nat.mul_left_comm b 255, ← Nat.mul_assoc]
    simp
    rw [q1, q2]
    omega
  rw [e2]
  exact rnd_mul _ _ (by omega)
theorem col_comm (m a s d : Nat) (h1 : m ≠ 0) (h2 : m ≤ 5) : col m a a s d = col m a a d s := by
  unfold col num alone
  rw [mt_comm m s d h1 h2, Nat.add_comm (a * (255 - a) * s)]
theorem covers_le (a b : Nat) (ha : a ≤ 255) (hb : b ≤ 255) : rnd (cov a b) 255 ≤ 255 := rnd_le (by have := cov_le a b ha hb; omega) (by omega)
theorem cov_pos (a b : Nat) (h : 0 < a ∨ 0 < b) (hb : b ≤ 255) : 0 < cov a b := by
  rcases h with h | h
  · unfold cov; omega
  · by_cases q : 0 < a
    · unfold cov; omega
    · unfold cov; rw [show a = 0 by omega]; omega
end Ov

/-- One pixel over another one. -/
def overP (m : Nat) (t u : Px) : Px :=
  if Ov.cov t.a.toNat u.a.toNat = 0 then ⟨0, 0, 0, 0⟩ else
  ⟨UInt8.ofNat (Ov.col m t.a.toNat u.a.toNat t.r.toNat u.r.toNat), UInt8.ofNat (Ov.col m t.a.toNat u.a.toNat t.g.toNat u.g.toNat), UInt8.ofNat (Ov.col m t.a.toNat u.a.toNat t.b.toNat u.b.toNat), UInt8.ofNat (Ov.rnd (Ov.cov t.a.toNat u.a.toNat) 255)⟩
theorem u8_le (x : UInt8) : x.toNat ≤ 255 := by have := x.toNat_lt; omega
theorem u8_of {n : Nat} (h : n ≤ 255) : (UInt8.ofNat n).toNat = n := by rw [UInt8.toNat_ofNat']; omega
theorem u8_back (x : UInt8) : UInt8.ofNat x.toNat = x := by simp
theorem over_nothing (m : Nat) (t : Px) : overP m t ⟨0, 0, 0, 0⟩ = if t.a = 0 then ⟨0, 0, 0, 0⟩ else t := by
  unfold overP
  by_cases h : t.a = 0
  · rw [if_pos h, h, if_pos (by decide)]
  · have h0 : 0 < t.a.toNat := by rcases Nat.eq_zero_or_pos t.a.toNat with q | q; exact absurd (UInt8.toNat_inj.1 (by simpa using q)) h; exact q
    rw [if_neg h, if_neg (by have := Ov.cov_pos t.a.toNat 0 (.inl h0) (by omega); simp; omega)]
    have e : Ov.rnd (Ov.cov t.a.toNat 0) 255 = t.a.toNat := by unfold Ov.cov; rw [Nat.zero_mul, Nat.add_zero, Nat.mul_comm]; exact Ov.rnd_mul _ _ (by omega)
    simp only [UInt8.toNat_zero, Ov.col_over m t.a.toNat _ h0, e, u8_back]
theorem under_nothing (m : Nat) (t : Px) : overP m ⟨0, 0, 0, 0⟩ t = if t.a = 0 then ⟨0, 0, 0, 0⟩ else t := by
  unfold overP
  by_cases h : t.a = 0
  · rw [if_pos h, h, if_pos (by decide)]
  · have h0 : 0 < t.a.toNat := by rcases Nat.eq_zero_or_pos t.a.toNat with q | q; exact absurd (UInt8.toNat_inj.1 (by simpa using q)) h; exact q
    rw [if_neg h, if_neg (by have := Ov.cov_pos 0 t.a.toNat (.inr h0) (u8_le _); simp; omega)]
    have e : Ov.rnd (Ov.cov 0 t.a.toNat) 255 = t.a.toNat := by unfold Ov.cov; rw [Nat.mul_zero, Nat.zero_add]; exact Ov.rnd_mul _ _ (by omega)
    simp only [UInt8.toNat_zero, Ov.col_under m t.a.toNat _ h0, e, u8_back]
theorem over_full (r g b : UInt8) (u : Px) : overP 0 ⟨r, g, b, 255⟩ u = ⟨r, g, b, 255⟩ := by
  have hu := u8_le u.a
  unfold overP
  have e : Ov.rnd (Ov.cov 255 u.a.toNat) 255 = 255 := by unfold Ov.cov; rw [Nat.sub_self, Nat.mul_zero, Nat.add_zero]; exact Ov.rnd_mul _ _ (by omega)
  have h255 : (255 : UInt8).toNat = 255 := rfl
  rw [if_neg (by have := Ov.cov_pos 255 u.a.toNat (.inl (by omega)) hu; simp only [h255]; omega)]
  simp only [h255, Ov.col_hides _ _ _ hu, e, u8_back]
  rfl
theorem over_comm (m : Nat) (t u : Px) (h1 : m ≠ 0) (h2 : m ≤ 5) (h : t.a = u.a) : overP m t u = overP m u t := by
  unfold overP
  rw [h, Ov.col_comm m u.a.toNat t.r.toNat u.r.toNat h1 h2, Ov.col_comm m u.a.toNat t.g.toNat u.g.toNat h1 h2, Ov.col_comm m u.a.toNat t.b.toNat u.b.toNat h1 h2]
theorem over_a (m : Nat) (t u : Px) : (overP m t u).a = UInt8.ofNat (Ov.rnd (Ov.cov t.a.toNat u.a.toNat) 255) := by
  unfold overP
  split
  · next h => rw [h]; rfl
  · rfl
end Go.Proofs.YtkdckcengmkhhajDoor
