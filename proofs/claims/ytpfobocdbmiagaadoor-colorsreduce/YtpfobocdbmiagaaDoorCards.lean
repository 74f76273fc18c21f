/-
  DERIVED. GIVEN WITH THE SEED: THE CARDS: each row of YtpfobocdbmiagaaDoorRows.lean that lists a variable, with what it lists TIED to the program's text (the seventh form; the later family's looks); each row that meets fmt, with fmt's text TOLD by the authors' own Lean function (tested against real Go, not proved from fmt's source: count such statements apart). THE CARD IS WHAT COUNTS. Prove the row's statement (the work); the ties are given (YtpfobocdbmiagaaDoorTie.lean); close each card by the builder's one call (the guide's Derived/Test/ToyasCard.lean, 'card_holds'). Laid BY PROGRAM, IN A SANDBOX (cutbox-door.mjs). By AI agents, Wed Nov 11 2026. No macro, syntax, notation, axiom, sorry.
-/
import Derived.Test.YtpfobocdbmiagaaDoorRows
import GoSem.ClaimSeven
namespace Go.Proofs.YtpfobocdbmiagaaDoor
namespace Rows

/-- THE TIED CARD OF 'layercakelaw3.ColorsCount'. -/
def colorsCountCard : Claim7 := { stood := { row := colorsCountRow, standIns := [], harness := (true, "1795eae0b3b3e2153e58e97de126c98679e2466c49d8125c589d3c12ff0152e6"), looks := true }, kinds := [], alts := [], laidByText := true, laidKinds := [.handle, .sentinel, .sentinel, .sentinel, .sentinel, .sentinel, .sentinel, .sentinel, .sentinel, .sentinel], laidTests := true, laidLooks := .later }
def ColorsCountCardSaid : Prop := Claim7.holds Tryd.pinned (.plain (OpenSpec.ofChange colorsCountSpec)) colorsCountCard

/-- THE TIED CARD OF 'layercakelaw3.ColorsMap'. -/
def colorsMapCard : Claim7 := { stood := { row := colorsMapRow, standIns := [], harness := (true, "1795eae0b3b3e2153e58e97de126c98679e2466c49d8125c589d3c12ff0152e6"), looks := true }, kinds := [], alts := [], laidByText := true, laidKinds := [.handle, .sentinel, .sentinel, .sentinel, .sentinel, .sentinel, .sentinel, .sentinel, .sentinel, .sentinel], laidTests := true, laidLooks := .later }
def ColorsMapCardSaid : Prop := Claim7.holds Tryd.pinned (.plain (OpenSpec.ofChange colorsMapSpec)) colorsMapCard

/-- THE TIED CARD OF 'layercakelaw3.ColorsNearer'. -/
def colorsNearerCard : Claim7 := { stood := { row := colorsNearerRow, standIns := [], harness := (true, "1795eae0b3b3e2153e58e97de126c98679e2466c49d8125c589d3c12ff0152e6"), looks := true }, kinds := [], alts := [], laidByText := true, laidKinds := [.sentinel, .sentinel], laidTests := true, laidLooks := .later }
def ColorsNearerCardSaid : Prop := Claim7.holds Tryd.pinned (.plain (OpenSpec.ofChange colorsNearerSpec)) colorsNearerCard

/-- THE TIED CARD OF 'layercakelaw3.ColorsReduce'. -/
def colorsReduceCard : Claim7 := { stood := { row := colorsReduceRow, standIns := [], harness := (true, "1795eae0b3b3e2153e58e97de126c98679e2466c49d8125c589d3c12ff0152e6"), looks := true }, kinds := [], alts := [], laidByText := true, laidKinds := [.handle, .sentinel, .sentinel, .sentinel, .sentinel, .sentinel, .sentinel, .sentinel, .sentinel, .sentinel], laidTests := true, laidLooks := .later }
def ColorsReduceCardSaid : Prop := Claim7.holds Tryd.pinned (.plain (OpenSpec.ofChange colorsReduceSpec)) colorsReduceCard

/-- THE SECOND FORM's CARD OF 'layercakelaw3.ColorsCount'. -/
def colorsCountUptoCard : Claim7 := { stood := { row := colorsCountUptoRow, standIns := [], harness := (true, "1795eae0b3b3e2153e58e97de126c98679e2466c49d8125c589d3c12ff0152e6"), looks := true }, kinds := [], alts := [], laidByText := true, laidKinds := [.handle, .sentinel, .sentinel, .sentinel, .sentinel, .sentinel, .sentinel, .sentinel, .sentinel, .sentinel], laidTests := true, laidLooks := .later }
def ColorsCountUptoCardSaid : Prop := Claim7.holds Tryd.pinned (.plain (OpenSpec.upto colorsCountSpec)) colorsCountUptoCard

/-- THE SECOND FORM's CARD OF 'layercakelaw3.ColorsMap'. -/
def colorsMapUptoCard : Claim7 := { stood := { row := colorsMapUptoRow, standIns := [], harness := (true, "1795eae0b3b3e2153e58e97de126c98679e2466c49d8125c589d3c12ff0152e6"), looks := true }, kinds := [], alts := [], laidByText := true, laidKinds := [.handle, .sentinel, .sentinel, .sentinel, .sentinel, .sentinel, .sentinel, .sentinel, .sentinel, .sentinel], laidTests := true, laidLooks := .later }
def ColorsMapUptoCardSaid : Prop := Claim7.holds Tryd.pinned (.plain (OpenSpec.upto colorsMapSpec)) colorsMapUptoCard

/-- THE SECOND FORM's CARD OF 'layercakelaw3.ColorsNearer'. -/
def colorsNearerUptoCard : Claim7 := { stood := { row := colorsNearerUptoRow, standIns := [], harness := (true, "1795eae0b3b3e2153e58e97de126c98679e2466c49d8125c589d3c12ff0152e6"), looks := true }, kinds := [], alts := [], laidByText := true, laidKinds := [.sentinel, .sentinel], laidTests := true, laidLooks := .later }
def ColorsNearerUptoCardSaid : Prop := Claim7.holds Tryd.pinned (.plain (OpenSpec.upto colorsNearerSpec)) colorsNearerUptoCard

/-- THE SECOND FORM's CARD OF 'layercakelaw3.ColorsReduce'. -/
def colorsReduceUptoCard : Claim7 := { stood := { row := colorsReduceUptoRow, standIns := [], harness := (true, "1795eae0b3b3e2153e58e97de126c98679e2466c49d8125c589d3c12ff0152e6"), looks := true }, kinds := [], alts := [], laidByText := true, laidKinds := [.handle, .sentinel, .sentinel, .sentinel, .sentinel, .sentinel, .sentinel, .sentinel, .sentinel, .sentinel], laidTests := true, laidLooks := .later }
def ColorsReduceUptoCardSaid : Prop := Claim7.holds Tryd.pinned (.plain (OpenSpec.upto colorsReduceSpec)) colorsReduceUptoCard
end Rows
end Go.Proofs.YtpfobocdbmiagaaDoor
