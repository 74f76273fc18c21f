/- Matches, plainly: paths of tokens through a text; the fewest; the longest match each time makes at most twice as many. No Go stands here. -/
import Derived.Test.YtlnglpphlcebdadDoorBase
namespace Go.Proofs.YtlnglpphlcebdadDoor.Mm

section
variable (s : Nat → Nat) (n W : Nat)

/-- A match of k bytes at this place. -/
def Mt (p k : Nat) : Prop := ∃ f, f < p ∧ p - f ≤ W ∧ k ≤ 258 ∧ p + k ≤ n ∧ ∀ i, i < k → s (f + i) = s (p + i)
/-- One token leads from here to there. -/
def Stp (a b : Nat) : Prop := (a < n ∧ b = a + 1) ∨ ∃ k, 3 ≤ k ∧ Mt s n W a k ∧ b = a + k
inductive Path : Nat → Nat → Nat → Prop where
  | nil (a : Nat) : Path a a 0
  | cons {a b c k : Nat} (h : Stp s n W a b) (t : Path b c k) : Path a c (k + 1)

variable {s n W}

theorem Mt.less {p k k' : Nat} (h : Mt s n W p k) (hk : k' ≤ k) : Mt s n W p k' := by
  obtain ⟨f, h1, h2, h3, h4, h5⟩ := h
  exact ⟨f, h1, h2, by omega, by omega, fun i hi => h5 i (by omega)⟩
/-- Inside a match there is what is left of it. -/
theorem Mt.inside {p k j : Nat} (h : Mt s n W p k) (hj : j ≤ k) : Mt s n W (p + j) (k - j) := by
  obtain ⟨f, h1, h2, h3, h4, h5⟩ := h
  refine ⟨f + j, by omega, by omega, by omega, by omega, fun i hi => ?_⟩
  have := h5 (j + i) (by omega)
  rwa [show f + j + i = f + (j + i) by omega, show p + j + i = p + (j + i) by omega]
theorem Stp.lt {a b : Nat} (h : Stp s n W a b) : a < b ∧ b ≤ n := by
  rcases h with ⟨h1, rfl⟩ | ⟨k, hk, ⟨_, _, _, _, h4, _⟩, rfl⟩ <;> omega
theorem Path.le {a b c : Nat} (h : Path s n W a b c) : a + c ≤ b := by
  induction h with
  | nil => omega
  | cons h _ ih => have := h.lt; omega
theorem Path.last {a b c : Nat} (h : Path s n W a b c) (hc : a < b) : b ≤ n := by
  induction h with
  | nil => omega
  | cons h t ih =>
    have h1 := h.lt
    have := t.le
    rename_i a' b' c' k'
    rcases Nat.lt_or_ge b' c' with q | q
    · exact ih q
    · omega
theorem Path.snoc {a b c k : Nat} (h : Path s n W a b k) (t : Stp s n W b c) : Path s n W a c (k + 1) := by
  induction h with
  | nil => exact .cons t (.nil _)
  | cons h _ ih => exact .cons h (ih t)
theorem Path.append {a b c k l : Nat} (h : Path s n W a b k) (t : Path s n W b c l) : Path s n W a c (k + l) := by
  induction h with
  | nil => rw [Nat.zero_add]; exact t
  | cons h _ ih =>
    rename_i k' _
    rw [show k' + 1 + l = k' + l + 1 by omega]
    exact .cons h (ih t)
/-- Byte by byte. -/
theorem path_bytes (a d : Nat) (h : a + d ≤ n) : Path s n W a (a + d) d := by
  induction d with
  | zero => exact .nil _
  | succ d ih => exact (ih (by omega)).snoc (.inl ⟨by omega, by omega⟩)

/-- The fewest tokens from here to there. -/
def Least (a b c : Nat) : Prop := Path s n W a b c ∧ ∀ c', Path s n W a b c' → c ≤ c'
theorem Least.unique {a b c d : Nat} (h : Least (s := s) (n := n) (W := W) a b c) (g : Least (s := s) (n := n) (W := W) a b d) : c = d :=
  Nat.le_antisymm (h.2 d g.1) (g.2 c h.1)
theorem Path.pos {a b c : Nat} (h : Path s n W a b c) (hab : a < b) : ∃ m c', c = c' + 1 ∧ Stp s n W a m ∧ Path s n W m b c' := by
  cases h with
  | nil => omega
  | cons h t => exact ⟨_, _, rfl, h, t⟩

/-- From the end: the least of one more than each place's that a token leads to. -/
theorem least_back {a b c : Nat} (hab : a < b) (hp : ∃ m c', c = c' + 1 ∧ Stp s n W a m ∧ Least (s := s) (n := n) (W := W) m b c') (hl : ∀ m c', Stp s n W a m → Least (s := s) (n := n) (W := W) m b c' → c ≤ c' + 1) (hx : ∀ m, Stp s n W a m → m ≤ b → ∃ c', Least (s := s) (n := n) (W := W) m b c') : Least (s := s) (n := n) (W := W) a b c := by
  obtain ⟨m, c', rfl, h1, h2⟩ := hp
  refine ⟨.cons h1 h2.1, fun d hd => ?_⟩
  obtain ⟨m2, d', rfl, g1, g2⟩ := hd.pos hab
  obtain ⟨e, he⟩ := hx m2 g1 (by have := g2.le; omega)
  have := hl m2 e g1 he
  have := he.2 d' g2
  omega

/-- A walk that takes the longest match each time, or a byte where there is none. -/
inductive Greedy : Nat → Nat → Prop where
  | nil : Greedy n 0
  | cons {a b k : Nat} (h : a < b) (hb : b ≤ n) (hm : ∀ r, 3 ≤ r → Mt s n W a r → a + r ≤ b) (t : Greedy b k) : Greedy a (k + 1)

theorem Greedy.le {a k : Nat} (h : Greedy (s := s) (n := n) (W := W) a k) : a ≤ n := by
  cases h with
  | nil => exact Nat.le_refl _
  | cons h1 h2 _ _ => omega

/-- It has at most twice as many tokens as any way has. -/
theorem greedy_twice {a e c : Nat} (h : Path s n W a e c) : e = n → ∀ {g k : Nat}, a ≤ g → Greedy (s := s) (n := n) (W := W) g k → k ≤ 2 * c := by
  induction h with
  | nil a =>
    intro he g k hg hG
    subst he
    cases hG with
    | nil => omega
    | cons h1 h2 _ _ => omega
  | @cons a b e c h t ih =>
    intro he g k hg hG
    have ihn := fun {g k : Nat} => ih he (g := g) (k := k)
    rcases Nat.lt_or_ge g b with hgb | hgb
    rotate_left
    · have := ihn hgb hG; omega
    · cases hG with
      | nil => have := h.lt; omega
      | @cons _ g1 k1 h1 h2 hm hG1 =>
        rcases Nat.lt_or_ge g1 b with q | q
        rotate_left
        · have := ihn q hG1; omega
        · -- the next place lies inside the same token, too
          rcases h with ⟨_, rfl⟩ | ⟨m, hm3, hM, rfl⟩
          · omega
          · have hin := hM.inside (j := g - a) (by omega)
            rw [show a + (g - a) = g by omega] at hin
            have hr : m - (g - a) < 3 := by
              rcases Nat.lt_or_ge (m - (g - a)) 3 with z | z
              · exact z
              · have := hm _ z hin; omega
            cases hG1 with
            | nil => omega
            | @cons _ g2 k2 h3 h4 _ hG2 =>
              have := ihn (by omega) hG2
              omega

set_option maxRecDepth 10000 in
/-- A text of one word again and again. -/
theorem repeats_few {L : Nat} (hL : 1 ≤ L) (hW : L ≤ W) (hn : L ≤ n) (hp : ∀ i, i + L < n → s i = s (i + L)) : ∃ c, Path s n W 0 n c ∧ c ≤ L + n / 258 + 2 := by
  have hM : ∀ p k, L ≤ p → k ≤ 258 → p + k ≤ n → Mt s n W p k := fun p k h1 h2 h3 => ⟨p - L, by omega, by omega, h2, h3, fun i hi => by
    have := hp (p - L + i) (by omega)
    rwa [show p - L + i + L = p + i by omega] at this⟩
  have h0 := path_bytes (s := s) (n := n) (W := W) 0 L (by omega)
  rw [Nat.zero_add] at h0
  have hq : ∀ q, L + 258 * q ≤ n → Path s n W L (L + 258 * q) q := by
    intro q
    induction q with
    | zero => intro _; exact .nil _
    | succ q ih =>
      intro hq
      have h1 : Mt s n W (L + 258 * q) 258 := hM (L + 258 * q) 258 (by omega) (by omega) (by omega)
      have h2 : Stp s n W (L + 258 * q) (L + 258 * (q + 1)) := .inr ⟨258, by omega, h1, by omega⟩
      exact (ih (by omega)).snoc h2
  obtain ⟨q, hqd⟩ : ∃ q, q = (n - L) / 258 := ⟨_, rfl⟩
  have hq1 := hq q (by omega)
  have hle : q ≤ n / 258 := by omega
  have hrest : ∃ r, r ≤ 2 ∧ Path s n W (L + 258 * q) n r := by
    obtain ⟨d, hd⟩ : ∃ d, d = n - (L + 258 * q) := ⟨_, rfl⟩
    have hd2 : d < 258 := by omega
    rcases Nat.lt_or_ge d 3 with z | z
    · refine ⟨d, by omega, ?_⟩
      have := path_bytes (s := s) (n := n) (W := W) (L + 258 * q) d (by omega)
      rwa [show L + 258 * q + d = n by omega] at this
    · have h1 : Mt s n W (L + 258 * q) d := hM (L + 258 * q) d (by omega) (by omega) (by omega)
      have h2 : Stp s n W (L + 258 * q) n := .inr ⟨d, z, h1, by omega⟩
      exact ⟨1, by omega, .cons h2 (.nil _)⟩
  obtain ⟨r, hr, hP⟩ := hrest
  exact ⟨L + q + r, (h0.append hq1).append hP, by omega⟩
end
end Go.Proofs.YtlnglpphlcebdadDoor.Mm
