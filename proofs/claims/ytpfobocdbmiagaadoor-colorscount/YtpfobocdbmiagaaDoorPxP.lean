/- Two pixels are alike, or one of four numbers is not. -/
import Derived.Test.YtpfobocdbmiagaaDoorPx0
namespace Go.Proofs.YtpfobocdbmiagaaDoor

theorem px_parts (q r : Px) : q = r ∨ (q ≠ r ∧ ((¬ (q.r.toNat : Int) = r.r.toNat) ∨ ((q.r.toNat : Int) = r.r.toNat ∧ ¬ (q.g.toNat : Int) = r.g.toNat) ∨ ((q.r.toNat : Int) = r.r.toNat ∧ (q.g.toNat : Int) = r.g.toNat ∧ ¬ (q.b.toNat : Int) = r.b.toNat) ∨ ((q.r.toNat : Int) = r.r.toNat ∧ (q.g.toNat : Int) = r.g.toNat ∧ (q.b.toNat : Int) = r.b.toNat ∧ ¬ (q.a.toNat : Int) = r.a.toNat))) := by
  obtain ⟨a, b, c, d⟩ := q
  obtain ⟨a', b', c', d'⟩ := r
  have e : ∀ x y : UInt8, (x.toNat : Int) = y.toNat → x = y := fun x y h => UInt8.toNat_inj.1 (by omega)
  by_cases h1 : (a.toNat : Int) = a'.toNat
  · by_cases h2 : (b.toNat : Int) = b'.toNat
    · by_cases h3 : (c.toNat : Int) = c'.toNat
      · by_cases h4 : (d.toNat : Int) = d'.toNat
        · left; rw [e _ _ h1, e _ _ h2, e _ _ h3, e _ _ h4]
        · exact .inr ⟨fun q => h4 (by injection q with _ _ _ q; rw [q]), .inr (.inr (.inr ⟨h1, h2, h3, h4⟩))⟩
      · exact .inr ⟨fun q => h3 (by injection q with _ _ q _; rw [q]), .inr (.inr (.inl ⟨h1, h2, h3⟩))⟩
    · exact .inr ⟨fun q => h2 (by injection q with _ q _ _; rw [q]), .inr (.inl ⟨h1, h2⟩)⟩
  · exact .inr ⟨fun q => h1 (by injection q with q _ _ _; rw [q]), .inl h1⟩
end Go.Proofs.YtpfobocdbmiagaaDoor
