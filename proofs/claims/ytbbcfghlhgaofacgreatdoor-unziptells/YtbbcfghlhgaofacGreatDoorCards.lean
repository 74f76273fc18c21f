/-
  DERIVED. GIVEN WITH THE SEED: THE CARDS: each row of YtbbcfghlhgaofacGreatDoorRows.lean that lists a variable, with what it lists TIED to the program's text (the seventh form; the later family's looks); each row that meets fmt, with fmt's text TOLD by the authors' own Lean function (tested against real Go, not proved from fmt's source: count such statements apart). THE CARD IS WHAT COUNTS. Prove the row's statement (the work); the ties are given (YtbbcfghlhgaofacGreatDoorTie.lean); close each card by the builder's one call (the guide's Derived/Test/ToyasCard.lean, 'card_holds'). Laid BY PROGRAM, IN A SANDBOX (cutbox-door.mjs). By AI agents, Wed Nov 11 2026. No macro, syntax, notation, axiom, sorry.
-/
import Derived.Test.YtbbcfghlhgaofacGreatDoorRows
import GoSem.ClaimSeven
namespace Go.Proofs.YtbbcfghlhgaofacGreatDoor
namespace Rows

/-- THE TIED CARD OF 'layercakelaw1.InflateTells'. -/
def inflateTellsCard : Claim7 := { stood := { row := inflateTellsRow, standIns := [], harness := (true, "9086a3556e1d0a7c6af218bdc2049ecc1a48c11f7b6869b0a54e4535fb693978"), looks := true }, kinds := [], alts := [], laidByText := true, laidKinds := [.data, .data, .handle, .sentinel, .sentinel, .sentinel, .sentinel, .sentinel, .sentinel, .sentinel, .sentinel, .sentinel], laidTests := true, laidLooks := .later }
def InflateTellsCardSaid : Prop := Claim7.holds Tryz.pinned (.plain (OpenSpec.ofChange inflateTellsSpec)) inflateTellsCard

/-- THE TIED CARD OF 'layercakelaw1.UnzipTells'. -/
def unzipTellsCard : Claim7 := { stood := { row := unzipTellsRow, standIns := [], harness := (true, "9086a3556e1d0a7c6af218bdc2049ecc1a48c11f7b6869b0a54e4535fb693978"), looks := true }, kinds := [], alts := [], laidByText := true, laidKinds := [.data, .data, .handle, .sentinel, .sentinel, .sentinel, .sentinel, .sentinel, .sentinel, .sentinel, .sentinel, .sentinel], laidTests := true, laidLooks := .later }
def UnzipTellsCardSaid : Prop := Claim7.holds Tryz.pinned (.plain (OpenSpec.ofChange unzipTellsSpec)) unzipTellsCard

/-- THE SECOND FORM's CARD OF 'layercakelaw1.InflateTells'. -/
def inflateTellsUptoCard : Claim7 := { stood := { row := inflateTellsUptoRow, standIns := [], harness := (true, "9086a3556e1d0a7c6af218bdc2049ecc1a48c11f7b6869b0a54e4535fb693978"), looks := true }, kinds := [], alts := [], laidByText := true, laidKinds := [.data, .data, .handle, .sentinel, .sentinel, .sentinel, .sentinel, .sentinel, .sentinel, .sentinel, .sentinel, .sentinel], laidTests := true, laidLooks := .later }
def InflateTellsUptoCardSaid : Prop := Claim7.holds Tryz.pinned (.plain (OpenSpec.upto inflateTellsSpec)) inflateTellsUptoCard

/-- THE SECOND FORM's CARD OF 'layercakelaw1.UnzipTells'. -/
def unzipTellsUptoCard : Claim7 := { stood := { row := unzipTellsUptoRow, standIns := [], harness := (true, "9086a3556e1d0a7c6af218bdc2049ecc1a48c11f7b6869b0a54e4535fb693978"), looks := true }, kinds := [], alts := [], laidByText := true, laidKinds := [.data, .data, .handle, .sentinel, .sentinel, .sentinel, .sentinel, .sentinel, .sentinel, .sentinel, .sentinel, .sentinel], laidTests := true, laidLooks := .later }
def UnzipTellsUptoCardSaid : Prop := Claim7.holds Tryz.pinned (.plain (OpenSpec.upto unzipTellsSpec)) unzipTellsUptoCard
end Rows
end Go.Proofs.YtbbcfghlhgaofacGreatDoor
