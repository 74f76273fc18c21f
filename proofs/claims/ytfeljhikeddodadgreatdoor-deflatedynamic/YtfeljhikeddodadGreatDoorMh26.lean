/- Plain facts on what packed texts mean: no more bits than there are, no more bytes than may be; a bound that is wide enough turns nothing, a lesser one is told. Walk of the program's reader of packed texts: all blocks. Walks of the program's Inflate: what is thrown is caught. -/
import Derived.Test.YtfeljhikeddodadGreatDoorMh3
import Derived.Test.YtfeljhikeddodadGreatDoorMh25
import Derived.Defers
import Derived.Recover
import Derived.Laws.Pointers
namespace Go.Proofs.YtfeljhikeddodadGreatDoor.Nf
open Pm Cn

end Go.Proofs.YtfeljhikeddodadGreatDoor.Nf
namespace Go.Proofs.YtfeljhikeddodadGreatDoor
open Go.RowKit Pm Cn Cd Nf

section
variable {P p : Nat} {s : ByteArray} {k : Nat} {out : List UInt8} {most : Nat} {fx : Value} {t : TypeId} {xT xB xS : Value}

/-- The fixed codes, made or kept. -/
def FxAt (w : World) (P p : Nat) (fx : Value) : Prop := fx = .pointer none ∨ ∃ C, fx = .pointer (some ⟨C, 0, none⟩) ∧ CsAt w P p C fixL 288 fixD 32
theorem FxAt.ki {w w' : World} {P p : Nat} {fx : Value} (h : FxAt w P p fx) (hk : KI P p w w') : FxAt w' P p fx := by
  rcases h with h | ⟨C, e, h⟩
  · exact .inl h
  · exact .inr ⟨C, e, h.ki hk⟩
end
end Go.Proofs.YtfeljhikeddodadGreatDoor
namespace Go.Proofs.YtfeljhikeddodadGreatDoor
open Go.RowKit Pm Cn Cd Nf

end Go.Proofs.YtfeljhikeddodadGreatDoor
