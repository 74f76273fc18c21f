/-
  DERIVED. GIVEN WITH THE SEED: THE CARDS: each row of YtlnglpphlcebdafDoorRows.lean that lists a variable, with what it lists TIED to the program's text (the seventh form; the later family's looks); each row that meets fmt, with fmt's text TOLD by the authors' own Lean function (tested against real Go, not proved from fmt's source: count such statements apart). THE CARD IS WHAT COUNTS. Prove the row's statement (the work); the ties are given (YtlnglpphlcebdafDoorTie.lean); close each card by the builder's one call (the guide's Derived/Test/ToyasCard.lean, 'card_holds'). Laid BY PROGRAM, IN A SANDBOX (cutbox-door.mjs). By AI agents, Wed Nov 11 2026. No macro, syntax, notation, axiom, sorry.
-/
import Derived.Test.YtlnglpphlcebdafDoorRows
import GoSem.ClaimSeven
namespace Go.Proofs.YtlnglpphlcebdafDoor
namespace Rows

/-- THE TIED CARD OF 'layercakelaw1.FilterTwice'. -/
def filterTwiceCard : Claim7 := { stood := { row := filterTwiceRow, standIns := [], harness := (true, "b2c2872662fc842aff5b5ad2f80f6993444a0969172f059ec3c4aea581d3c375"), looks := true }, kinds := [], alts := [], laidByText := true, laidKinds := [.sentinel, .sentinel], laidTests := true, laidLooks := .later }
def FilterTwiceCardSaid : Prop := Claim7.holds Tryd.pinned (.plain (OpenSpec.ofChange filterTwiceSpec)) filterTwiceCard

/-- THE TIED CARD OF 'layercakelaw1.FilterRows'. -/
def filterRowsCard : Claim7 := { stood := { row := filterRowsRow, standIns := [], harness := (true, "b2c2872662fc842aff5b5ad2f80f6993444a0969172f059ec3c4aea581d3c375"), looks := true }, kinds := [], alts := [], laidByText := true, laidKinds := [.handle, .sentinel, .sentinel, .sentinel, .sentinel, .sentinel, .sentinel, .sentinel, .sentinel, .sentinel], laidTests := true, laidLooks := .later }
def FilterRowsCardSaid : Prop := Claim7.holds Tryd.pinned (.plain (OpenSpec.ofChange filterRowsSpec)) filterRowsCard

/-- THE TIED CARD OF 'layercakelaw2.ChunkWrites'. -/
def chunkWritesCard : Claim7 := { stood := { row := chunkWritesRow, standIns := [], harness := (true, "b2c2872662fc842aff5b5ad2f80f6993444a0969172f059ec3c4aea581d3c375"), looks := true }, kinds := [], alts := [], laidByText := true, laidKinds := [.handle, .sentinel, .sentinel, .sentinel, .sentinel, .sentinel, .sentinel, .sentinel, .sentinel, .sentinel], laidTests := true, laidLooks := .later }
def ChunkWritesCardSaid : Prop := Claim7.holds Tryd.pinned (.plain (OpenSpec.ofChange chunkWritesSpec)) chunkWritesCard

/-- THE TIED CARD OF 'layercakelaw2.ChunkReads'. -/
def chunkReadsCard : Claim7 := { stood := { row := chunkReadsRow, standIns := [], harness := (true, "b2c2872662fc842aff5b5ad2f80f6993444a0969172f059ec3c4aea581d3c375"), looks := true }, kinds := [], alts := [], laidByText := true, laidKinds := [.handle, .sentinel, .sentinel, .sentinel, .sentinel, .sentinel, .sentinel, .sentinel, .sentinel, .sentinel], laidTests := true, laidLooks := .later }
def ChunkReadsCardSaid : Prop := Claim7.holds Tryd.pinned (.plain (OpenSpec.ofChange chunkReadsSpec)) chunkReadsCard

/-- THE TIED CARD OF 'layercakelaw2.ChunkTurned'. -/
def chunkTurnedCard : Claim7 := { stood := { row := chunkTurnedRow, standIns := [], harness := (true, "b2c2872662fc842aff5b5ad2f80f6993444a0969172f059ec3c4aea581d3c375"), looks := true }, kinds := [], alts := [], laidByText := true, laidKinds := [.sentinel, .sentinel, .sentinel, .sentinel], laidTests := true, laidLooks := .later }
def ChunkTurnedCardSaid : Prop := Claim7.holds Tryd.pinned (.plain (OpenSpec.ofChange chunkTurnedSpec)) chunkTurnedCard

/-- THE SECOND FORM's CARD OF 'layercakelaw1.FilterTwice'. -/
def filterTwiceUptoCard : Claim7 := { stood := { row := filterTwiceUptoRow, standIns := [], harness := (true, "b2c2872662fc842aff5b5ad2f80f6993444a0969172f059ec3c4aea581d3c375"), looks := true }, kinds := [], alts := [], laidByText := true, laidKinds := [.sentinel, .sentinel], laidTests := true, laidLooks := .later }
def FilterTwiceUptoCardSaid : Prop := Claim7.holds Tryd.pinned (.plain (OpenSpec.upto filterTwiceSpec)) filterTwiceUptoCard

/-- THE SECOND FORM's CARD OF 'layercakelaw1.FilterRows'. -/
def filterRowsUptoCard : Claim7 := { stood := { row := filterRowsUptoRow, standIns := [], harness := (true, "b2c2872662fc842aff5b5ad2f80f6993444a0969172f059ec3c4aea581d3c375"), looks := true }, kinds := [], alts := [], laidByText := true, laidKinds := [.handle, .sentinel, .sentinel, .sentinel, .sentinel, .sentinel, .sentinel, .sentinel, .sentinel, .sentinel], laidTests := true, laidLooks := .later }
def FilterRowsUptoCardSaid : Prop := Claim7.holds Tryd.pinned (.plain (OpenSpec.upto filterRowsSpec)) filterRowsUptoCard

/-- THE SECOND FORM's CARD OF 'layercakelaw2.ChunkWrites'. -/
def chunkWritesUptoCard : Claim7 := { stood := { row := chunkWritesUptoRow, standIns := [], harness := (true, "b2c2872662fc842aff5b5ad2f80f6993444a0969172f059ec3c4aea581d3c375"), looks := true }, kinds := [], alts := [], laidByText := true, laidKinds := [.handle, .sentinel, .sentinel, .sentinel, .sentinel, .sentinel, .sentinel, .sentinel, .sentinel, .sentinel], laidTests := true, laidLooks := .later }
def ChunkWritesUptoCardSaid : Prop := Claim7.holds Tryd.pinned (.plain (OpenSpec.upto chunkWritesSpec)) chunkWritesUptoCard

/-- THE SECOND FORM's CARD OF 'layercakelaw2.ChunkReads'. -/
def chunkReadsUptoCard : Claim7 := { stood := { row := chunkReadsUptoRow, standIns := [], harness := (true, "b2c2872662fc842aff5b5ad2f80f6993444a0969172f059ec3c4aea581d3c375"), looks := true }, kinds := [], alts := [], laidByText := true, laidKinds := [.handle, .sentinel, .sentinel, .sentinel, .sentinel, .sentinel, .sentinel, .sentinel, .sentinel, .sentinel], laidTests := true, laidLooks := .later }
def ChunkReadsUptoCardSaid : Prop := Claim7.holds Tryd.pinned (.plain (OpenSpec.upto chunkReadsSpec)) chunkReadsUptoCard

/-- THE SECOND FORM's CARD OF 'layercakelaw2.ChunkTurned'. -/
def chunkTurnedUptoCard : Claim7 := { stood := { row := chunkTurnedUptoRow, standIns := [], harness := (true, "b2c2872662fc842aff5b5ad2f80f6993444a0969172f059ec3c4aea581d3c375"), looks := true }, kinds := [], alts := [], laidByText := true, laidKinds := [.sentinel, .sentinel, .sentinel, .sentinel], laidTests := true, laidLooks := .later }
def ChunkTurnedUptoCardSaid : Prop := Claim7.holds Tryd.pinned (.plain (OpenSpec.upto chunkTurnedSpec)) chunkTurnedUptoCard
end Rows
end Go.Proofs.YtlnglpphlcebdafDoor
