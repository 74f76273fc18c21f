/-
  DERIVED. GIVEN WITH THE SEED: THE CARDS: each row of YtkdckcengmkhhajDoorRows.lean that lists a variable, with what it lists TIED to the program's text (the seventh form; the later family's looks); each row that meets fmt, with fmt's text TOLD by the authors' own Lean function (tested against real Go, not proved from fmt's source: count such statements apart). THE CARD IS WHAT COUNTS. Prove the row's statement (the work); the ties are given (YtkdckcengmkhhajDoorTie.lean); close each card by the builder's one call (the guide's Derived/Test/ToyasCard.lean, 'card_holds'). Laid BY PROGRAM, IN A SANDBOX (cutbox-door.mjs). By AI agents, Wed Nov 11 2026. No macro, syntax, notation, axiom, sorry.
-/
import Derived.Test.YtkdckcengmkhhajDoorRows
import GoSem.ClaimSeven
namespace Go.Proofs.YtkdckcengmkhhajDoor
namespace Rows

/-- THE TIED CARD OF 'layercakelaw3.LayerFlat'. -/
def layerFlatCard : Claim7 := { stood := { row := layerFlatRow, standIns := [], harness := (true, "342bc82fd171f78ce0eb26ff58fa0083d6502605e87931eb4a4c2718737506d5"), looks := true }, kinds := [], alts := [], laidByText := true, laidKinds := [.handle, .sentinel, .sentinel, .sentinel, .sentinel, .sentinel, .sentinel, .sentinel, .sentinel, .sentinel], laidTests := true, laidLooks := .later }
def LayerFlatCardSaid : Prop := Claim7.holds Tryd.pinned (.plain (OpenSpec.ofChange layerFlatSpec)) layerFlatCard

/-- THE TIED CARD OF 'layercakelaw3.LayerHidden'. -/
def layerHiddenCard : Claim7 := { stood := { row := layerHiddenRow, standIns := [], harness := (true, "342bc82fd171f78ce0eb26ff58fa0083d6502605e87931eb4a4c2718737506d5"), looks := true }, kinds := [], alts := [], laidByText := true, laidKinds := [.sentinel, .sentinel, .sentinel, .sentinel], laidTests := true, laidLooks := .later }
def LayerHiddenCardSaid : Prop := Claim7.holds Tryd.pinned (.plain (OpenSpec.ofChange layerHiddenSpec)) layerHiddenCard

/-- THE TIED CARD OF 'layercakelaw3.LayerMerged'. -/
def layerMergedCard : Claim7 := { stood := { row := layerMergedRow, standIns := [], harness := (true, "342bc82fd171f78ce0eb26ff58fa0083d6502605e87931eb4a4c2718737506d5"), looks := true }, kinds := [], alts := [], laidByText := true, laidKinds := [.sentinel, .sentinel, .sentinel, .sentinel], laidTests := true, laidLooks := .later }
def LayerMergedCardSaid : Prop := Claim7.holds Tryd.pinned (.plain (OpenSpec.ofChange layerMergedSpec)) layerMergedCard

/-- THE TIED CARD OF 'layercakelaw3.PastGoes'. -/
def pastGoesCard : Claim7 := { stood := { row := pastGoesRow, standIns := [], harness := (true, "342bc82fd171f78ce0eb26ff58fa0083d6502605e87931eb4a4c2718737506d5"), looks := true }, kinds := [], alts := [], laidByText := true, laidKinds := [.handle, .sentinel, .sentinel, .sentinel, .sentinel, .sentinel, .sentinel, .sentinel, .sentinel, .sentinel], laidTests := true, laidLooks := .later }
def PastGoesCardSaid : Prop := Claim7.holds Tryd.pinned (.plain (OpenSpec.ofChange pastGoesSpec)) pastGoesCard

/-- THE SECOND FORM's CARD OF 'layercakelaw3.LayerFlat'. -/
def layerFlatUptoCard : Claim7 := { stood := { row := layerFlatUptoRow, standIns := [], harness := (true, "342bc82fd171f78ce0eb26ff58fa0083d6502605e87931eb4a4c2718737506d5"), looks := true }, kinds := [], alts := [], laidByText := true, laidKinds := [.handle, .sentinel, .sentinel, .sentinel, .sentinel, .sentinel, .sentinel, .sentinel, .sentinel, .sentinel], laidTests := true, laidLooks := .later }
def LayerFlatUptoCardSaid : Prop := Claim7.holds Tryd.pinned (.plain (OpenSpec.upto layerFlatSpec)) layerFlatUptoCard

/-- THE SECOND FORM's CARD OF 'layercakelaw3.LayerHidden'. -/
def layerHiddenUptoCard : Claim7 := { stood := { row := layerHiddenUptoRow, standIns := [], harness := (true, "342bc82fd171f78ce0eb26ff58fa0083d6502605e87931eb4a4c2718737506d5"), looks := true }, kinds := [], alts := [], laidByText := true, laidKinds := [.sentinel, .sentinel, .sentinel, .sentinel], laidTests := true, laidLooks := .later }
def LayerHiddenUptoCardSaid : Prop := Claim7.holds Tryd.pinned (.plain (OpenSpec.upto layerHiddenSpec)) layerHiddenUptoCard

/-- THE SECOND FORM's CARD OF 'layercakelaw3.LayerMerged'. -/
def layerMergedUptoCard : Claim7 := { stood := { row := layerMergedUptoRow, standIns := [], harness := (true, "342bc82fd171f78ce0eb26ff58fa0083d6502605e87931eb4a4c2718737506d5"), looks := true }, kinds := [], alts := [], laidByText := true, laidKinds := [.sentinel, .sentinel, .sentinel, .sentinel], laidTests := true, laidLooks := .later }
def LayerMergedUptoCardSaid : Prop := Claim7.holds Tryd.pinned (.plain (OpenSpec.upto layerMergedSpec)) layerMergedUptoCard

/-- THE SECOND FORM's CARD OF 'layercakelaw3.PastGoes'. -/
def pastGoesUptoCard : Claim7 := { stood := { row := pastGoesUptoRow, standIns := [], harness := (true, "342bc82fd171f78ce0eb26ff58fa0083d6502605e87931eb4a4c2718737506d5"), looks := true }, kinds := [], alts := [], laidByText := true, laidKinds := [.handle, .sentinel, .sentinel, .sentinel, .sentinel, .sentinel, .sentinel, .sentinel, .sentinel, .sentinel], laidTests := true, laidLooks := .later }
def PastGoesUptoCardSaid : Prop := Claim7.holds Tryd.pinned (.plain (OpenSpec.upto pastGoesSpec)) pastGoesUptoCard
end Rows
end Go.Proofs.YtkdckcengmkhhajDoor
