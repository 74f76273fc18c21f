/-
  DERIVED. GIVEN WITH THE SEED: THE CARDS: each row of YtjcoahahponabaaGreatDoorRows.lean that lists a variable, with what it lists TIED to the program's text (the seventh form; the later family's looks); each row that meets fmt, with fmt's text TOLD by the authors' own Lean function (tested against real Go, not proved from fmt's source: count such statements apart). THE CARD IS WHAT COUNTS. Prove the row's statement (the work); the ties are given (YtjcoahahponabaaGreatDoorTie.lean); close each card by the builder's one call (the guide's Derived/Test/ToyasCard.lean, 'card_holds'). Laid BY PROGRAM, IN A SANDBOX (cutbox-door.mjs). By AI agents, Wed Nov 11 2026. No macro, syntax, notation, axiom, sorry.
-/
import Derived.Test.YtjcoahahponabaaGreatDoorRows
import GoSem.ClaimSeven
namespace Go.Proofs.YtjcoahahponabaaGreatDoor
namespace Rows

/-- THE TIED CARD OF 'layercakelaw3.LayerChanges'. -/
def layerChangesCard : Claim7 := { stood := { row := layerChangesRow, standIns := [], harness := (true, "e7b46a12db89602cf85ffcee54a96efad17a532cc073d203a0e4ada0d60ff856"), looks := true }, kinds := [], alts := [], laidByText := true, laidKinds := [.handle, .sentinel, .sentinel, .sentinel, .sentinel, .sentinel, .sentinel, .sentinel, .sentinel, .sentinel], laidTests := true, laidLooks := .later }
def LayerChangesCardSaid : Prop := Claim7.holds Tryz.pinned (.plain (OpenSpec.ofChange layerChangesSpec)) layerChangesCard

/-- THE TIED CARD OF 'layercakelaw3.GifWrites'. -/
def gifWritesCard : Claim7 := { stood := { row := gifWritesRow, standIns := [], harness := (true, "e7b46a12db89602cf85ffcee54a96efad17a532cc073d203a0e4ada0d60ff856"), looks := true }, kinds := [], alts := [], laidByText := true, laidKinds := [.handle, .sentinel, .sentinel, .sentinel, .sentinel, .sentinel, .sentinel, .sentinel, .sentinel, .sentinel], laidTests := true, laidLooks := .later }
def GifWritesCardSaid : Prop := Claim7.holds Tryz.pinned (.plain (OpenSpec.ofChange gifWritesSpec)) gifWritesCard

/-- THE TIED CARD OF 'layercakelaw3.GifReads'. -/
def gifReadsCard : Claim7 := { stood := { row := gifReadsRow, standIns := [], harness := (true, "e7b46a12db89602cf85ffcee54a96efad17a532cc073d203a0e4ada0d60ff856"), looks := true }, kinds := [], alts := [], laidByText := true, laidKinds := [.handle, .sentinel, .sentinel, .sentinel, .sentinel, .sentinel, .sentinel, .sentinel, .sentinel, .sentinel], laidTests := true, laidLooks := .later }
def GifReadsCardSaid : Prop := Claim7.holds Tryz.pinned (.plain (OpenSpec.ofChange gifReadsSpec)) gifReadsCard

/-- THE SECOND FORM's CARD OF 'layercakelaw3.LayerChanges'. -/
def layerChangesUptoCard : Claim7 := { stood := { row := layerChangesUptoRow, standIns := [], harness := (true, "e7b46a12db89602cf85ffcee54a96efad17a532cc073d203a0e4ada0d60ff856"), looks := true }, kinds := [], alts := [], laidByText := true, laidKinds := [.handle, .sentinel, .sentinel, .sentinel, .sentinel, .sentinel, .sentinel, .sentinel, .sentinel, .sentinel], laidTests := true, laidLooks := .later }
def LayerChangesUptoCardSaid : Prop := Claim7.holds Tryz.pinned (.plain (OpenSpec.upto layerChangesSpec)) layerChangesUptoCard

/-- THE SECOND FORM's CARD OF 'layercakelaw3.GifWrites'. -/
def gifWritesUptoCard : Claim7 := { stood := { row := gifWritesUptoRow, standIns := [], harness := (true, "e7b46a12db89602cf85ffcee54a96efad17a532cc073d203a0e4ada0d60ff856"), looks := true }, kinds := [], alts := [], laidByText := true, laidKinds := [.handle, .sentinel, .sentinel, .sentinel, .sentinel, .sentinel, .sentinel, .sentinel, .sentinel, .sentinel], laidTests := true, laidLooks := .later }
def GifWritesUptoCardSaid : Prop := Claim7.holds Tryz.pinned (.plain (OpenSpec.upto gifWritesSpec)) gifWritesUptoCard

/-- THE SECOND FORM's CARD OF 'layercakelaw3.GifReads'. -/
def gifReadsUptoCard : Claim7 := { stood := { row := gifReadsUptoRow, standIns := [], harness := (true, "e7b46a12db89602cf85ffcee54a96efad17a532cc073d203a0e4ada0d60ff856"), looks := true }, kinds := [], alts := [], laidByText := true, laidKinds := [.handle, .sentinel, .sentinel, .sentinel, .sentinel, .sentinel, .sentinel, .sentinel, .sentinel, .sentinel], laidTests := true, laidLooks := .later }
def GifReadsUptoCardSaid : Prop := Claim7.holds Tryz.pinned (.plain (OpenSpec.upto gifReadsSpec)) gifReadsUptoCard
end Rows
end Go.Proofs.YtjcoahahponabaaGreatDoor
