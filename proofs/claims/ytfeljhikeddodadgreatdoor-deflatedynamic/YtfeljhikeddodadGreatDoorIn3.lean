/- Walks of the program's reader of packed texts: matches, stored blocks. -/
import Derived.Test.YtfeljhikeddodadGreatDoorMh22
import Derived.Deep.RegionLaw
namespace Go.Proofs.YtfeljhikeddodadGreatDoor
open Go.RowKit Pm Cn Cd Nf

section
variable {P p : Nat} {s : ByteArray} {k : Nat} {out : List UInt8} {most : Nat} {fx : Value} {t : TypeId} {xT xB xS : Value}

theorem IA.slice {w : World} (h : IA w P p s k out most fx) : ∃ a c, w.cell? ⟨P, 1, none⟩ = some (.slice a out.length c) ∧ w.ownsRow (P + 1) 5 1 (.slice a out.length c) out.length (byteVals out) ∧ (0 < out.length → ∃ g, a = some ⟨g, 0, none⟩ ∧ P + 1 ≤ g) := by
  obtain ⟨v, c1, hown⟩ := h.text
  obtain ⟨a, c, rfl, hg⟩ := own_shape hown
  exact ⟨a, c, c1, hown, hg⟩
theorem grown_other {w w' : World} {g n c : Nat} (P : Nat) (h : w.grownBy w' (Value.slice (some ⟨g, 0, none⟩) n c).ownBlock) (hP : P < w.heap.size) (hne : ¬ g = P) : w'.heap[P]? = w.heap[P]? :=
  h.block P hP (fun e => hne (Option.some.inj e).symm)
theorem alloc_new (w : World) (v : Value) (t : TypeId) : (w.alloc (.cells #[v] t)).cell? ⟨w.heap.size, 0, none⟩ = some v := by simp
end
end Go.Proofs.YtfeljhikeddodadGreatDoor
