/- The document's fewest, plainly: from the end back, each source in turn. No Go stands here. -/
import Derived.Test.YtlnglpphlcebdadDoorMm
import Derived.Test.YtlnglpphlcebdadDoorMc
namespace Go.Proofs.YtlnglpphlcebdadDoor.Mm

section
variable (s : Nat → Nat) (n W : Nat)
/-- The best so far at a place: the sources ahead of this one were tried whole, this one up to so many bytes. -/
structure Bk (f : Nat → Nat) (at_ src k v : Nat) : Prop where
  got : ∃ m, Stp s n W at_ m ∧ v = f m + 1
  one : v ≤ f (at_ + 1) + 1
  all : ∀ g, g < src → at_ - g ≤ W → ∀ r, 3 ≤ r → r ≤ 258 → at_ + r ≤ n → (∀ i, i < r → s (g + i) = s (at_ + i)) → v ≤ f (at_ + r) + 1
  own : ∀ r, 3 ≤ r → r < k → v ≤ f (at_ + r) + 1
end
variable {s : Nat → Nat} {n W : Nat}

theorem Bk.start {f : Nat → Nat} {a : Nat} (h : a < n) : Bk s n W f a 0 3 (f (a + 1) + 1) :=
  ⟨⟨a + 1, .inl ⟨h, rfl⟩, rfl⟩, Nat.le_refl _, fun g hg => absurd hg (by omega), fun r h1 h2 => absurd h2 (by omega)⟩
/-- A source too far behind. -/
theorem Bk.skip {f : Nat → Nat} {a src v : Nat} (h : Bk s n W f a src 3 v) (hf : W < a - src) : Bk s n W f a (src + 1) 3 v :=
  ⟨h.got, h.one, fun g hg hw r => by
    rcases Nat.lt_or_ge g src with c | c
    · exact h.all g c hw r
    · exact absurd hw (by have : g = src := by omega
                          subst this; omega), h.own⟩
/-- One length more: it is better, or not. -/
theorem Bk.next {f : Nat → Nat} {a src k v m : Nat} (h : Bk s n W f a src k v) (hs : src < a) (hw : a - src ≤ W) (hc : IsCl s src a (min 258 (n - a)) m) (h3 : 3 ≤ k) (hk : k ≤ m) (ha : a < n) : Bk s n W f a src (k + 1) (if f (a + k) + 1 < v then f (a + k) + 1 else v) := by
  have hm := hc.1
  have hst : Stp s n W a (a + k) := .inr ⟨k, h3, ⟨src, hs, hw, by omega, by omega, fun i hi => hc.2.1 i (by omega)⟩, rfl⟩
  have hle : (if f (a + k) + 1 < v then f (a + k) + 1 else v) ≤ v := by split <;> omega
  refine ⟨?_, Nat.le_trans hle h.one, fun g hg hw r h1 h2 h4 h5 => Nat.le_trans hle (h.all g hg hw r h1 h2 h4 h5), fun r h1 h2 => ?_⟩
  · split
    · exact ⟨a + k, hst, rfl⟩
    · exact h.got
  · by_cases e : r = k
    · subst e; split <;> omega
    · exact Nat.le_trans hle (h.own r h1 (by omega))
/-- All lengths of a source were tried. -/
theorem Bk.done {f : Nat → Nat} {a src k v m : Nat} (h : Bk s n W f a src k v) (hc : IsCl s src a (min 258 (n - a)) m) (hk : m < k) (_ha : a < n) : Bk s n W f a (src + 1) 3 v :=
  ⟨h.got, h.one, fun g hg hw r h1 h2 h4 h5 => by
    rcases Nat.lt_or_ge g src with c | c
    · exact h.all g c hw r h1 h2 h4 h5
    · have e : g = src := by omega
      subst e
      have := hc.max (k := r) (by omega) h5
      exact h.own r h1 (by omega), fun r h1 h2 => absurd h2 (by omega)⟩
/-- All sources were tried: it is the least. -/
theorem Bk.least {f : Nat → Nat} {a k v : Nat} (h : Bk s n W f a a k v) (ha : a < n) (hf : ∀ j, a < j → j ≤ n → Least (s := s) (n := n) (W := W) j n (f j)) : Least (s := s) (n := n) (W := W) a n v := by
  have hstp : ∀ m, Stp s n W a m → a < m ∧ m ≤ n := fun m hm => by
    rcases hm with ⟨h1, rfl⟩ | ⟨r, h1, ⟨g, g1, g2, g3, g4, g5⟩, rfl⟩ <;> omega
  obtain ⟨m, m1, m2⟩ := h.got
  refine least_back ha ⟨m, f m, m2, m1, hf m (hstp m m1).1 (hstp m m1).2⟩ (fun m' c' g1 g2 => ?_) (fun m' g1 _ => ⟨f m', hf m' (hstp m' g1).1 (hstp m' g1).2⟩)
  have e := g2.unique (hf m' (hstp m' g1).1 (hstp m' g1).2)
  subst e
  rcases g1 with ⟨q1, rfl⟩ | ⟨r, q1, ⟨g, k1, k2, k3, k4, k5⟩, rfl⟩
  · exact h.one
  · exact h.all g k1 k2 r q1 k3 k4 k5
end Go.Proofs.YtlnglpphlcebdadDoor.Mm
