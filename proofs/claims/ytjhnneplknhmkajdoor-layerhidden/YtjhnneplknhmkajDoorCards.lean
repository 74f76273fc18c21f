/-
  DERIVED. GIVEN WITH THE SEED: THE CARDS: each row of YtjhnneplknhmkajDoorRows.lean that lists a variable, with what it lists TIED to the program's text (the seventh form; the later family's looks); each row that meets fmt, with fmt's text TOLD by the authors' own Lean function (tested against real Go, not proved from fmt's source: count such statements apart). THE CARD IS WHAT COUNTS. Prove the row's statement (the work); the ties are given (YtjhnneplknhmkajDoorTie.lean); close each card by the builder's one call (the guide's Derived/Test/ToyasCard.lean, 'card_holds'). Laid BY PROGRAM, IN A SANDBOX (cutbox-door.mjs). By AI agents, Wed Nov 11 2026. No macro, syntax, notation, axiom, sorry.
-/
import Derived.Test.YtjhnneplknhmkajDoorRows
import GoSem.ClaimSeven
namespace Go.Proofs.YtjhnneplknhmkajDoor
namespace Rows

/-- THE TIED CARD OF 'layercakelaw3.LayerFlat'. -/
def layerFlatCard : Claim7 := { stood := { row := layerFlatRow, standIns := [], harness := (true, "b37076f3a3254dbe718b9f8f4d3a689e366d35339cf4680478e3ce6b229d4890"), looks := true }, kinds := [], alts := [], laidByText := true, laidKinds := [.handle, .sentinel, .sentinel, .sentinel, .sentinel, .sentinel, .sentinel, .sentinel, .sentinel, .sentinel], laidTests := true, laidLooks := .later }
def LayerFlatCardSaid : Prop := Claim7.holds Tryd.pinned (.plain (OpenSpec.ofChange layerFlatSpec)) layerFlatCard

/-- THE TIED CARD OF 'layercakelaw3.LayerHidden'. -/
def layerHiddenCard : Claim7 := { stood := { row := layerHiddenRow, standIns := [], harness := (true, "b37076f3a3254dbe718b9f8f4d3a689e366d35339cf4680478e3ce6b229d4890"), looks := true }, kinds := [], alts := [], laidByText := true, laidKinds := [.sentinel, .sentinel, .sentinel, .sentinel], laidTests := true, laidLooks := .later }
def LayerHiddenCardSaid : Prop := Claim7.holds Tryd.pinned (.plain (OpenSpec.ofChange layerHiddenSpec)) layerHiddenCard

/-- THE TIED CARD OF 'layercakelaw3.LayerMerged'. -/
def layerMergedCard : Claim7 := { stood := { row := layerMergedRow, standIns := [], harness := (true, "b37076f3a3254dbe718b9f8f4d3a689e366d35339cf4680478e3ce6b229d4890"), looks := true }, kinds := [], alts := [], laidByText := true, laidKinds := [.sentinel, .sentinel, .sentinel, .sentinel], laidTests := true, laidLooks := .later }
def LayerMergedCardSaid : Prop := Claim7.holds Tryd.pinned (.plain (OpenSpec.ofChange layerMergedSpec)) layerMergedCard

/-- THE SECOND FORM's CARD OF 'layercakelaw3.LayerFlat'. -/
def layerFlatUptoCard : Claim7 := { stood := { row := layerFlatUptoRow, standIns := [], harness := (true, "b37076f3a3254dbe718b9f8f4d3a689e366d35339cf4680478e3ce6b229d4890"), looks := true }, kinds := [], alts := [], laidByText := true, laidKinds := [.handle, .sentinel, .sentinel, .sentinel, .sentinel, .sentinel, .sentinel, .sentinel, .sentinel, .sentinel], laidTests := true, laidLooks := .later }
def LayerFlatUptoCardSaid : Prop := Claim7.holds Tryd.pinned (.plain (OpenSpec.upto layerFlatSpec)) layerFlatUptoCard

/-- THE SECOND FORM's CARD OF 'layercakelaw3.LayerHidden'. -/
def layerHiddenUptoCard : Claim7 := { stood := { row := layerHiddenUptoRow, standIns := [], harness := (true, "b37076f3a3254dbe718b9f8f4d3a689e366d35339cf4680478e3ce6b229d4890"), looks := true }, kinds := [], alts := [], laidByText := true, laidKinds := [.sentinel, .sentinel, .sentinel, .sentinel], laidTests := true, laidLooks := .later }
def LayerHiddenUptoCardSaid : Prop := Claim7.holds Tryd.pinned (.plain (OpenSpec.upto layerHiddenSpec)) layerHiddenUptoCard

/-- THE SECOND FORM's CARD OF 'layercakelaw3.LayerMerged'. -/
def layerMergedUptoCard : Claim7 := { stood := { row := layerMergedUptoRow, standIns := [], harness := (true, "b37076f3a3254dbe718b9f8f4d3a689e366d35339cf4680478e3ce6b229d4890"), looks := true }, kinds := [], alts := [], laidByText := true, laidKinds := [.sentinel, .sentinel, .sentinel, .sentinel], laidTests := true, laidLooks := .later }
def LayerMergedUptoCardSaid : Prop := Claim7.holds Tryd.pinned (.plain (OpenSpec.upto layerMergedSpec)) layerMergedUptoCard
end Rows
end Go.Proofs.YtjhnneplknhmkajDoor
