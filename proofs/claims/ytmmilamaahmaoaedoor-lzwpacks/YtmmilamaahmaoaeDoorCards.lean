/-
  DERIVED. GIVEN WITH THE SEED: THE CARDS: each row of YtmmilamaahmaoaeDoorRows.lean that lists a variable, with what it lists TIED to the program's text (the seventh form; the later family's looks); each row that meets fmt, with fmt's text TOLD by the authors' own Lean function (tested against real Go, not proved from fmt's source: count such statements apart). THE CARD IS WHAT COUNTS. Prove the row's statement (the work); the ties are given (YtmmilamaahmaoaeDoorTie.lean); close each card by the builder's one call (the guide's Derived/Test/ToyasCard.lean, 'card_holds'). Laid BY PROGRAM, IN A SANDBOX (cutbox-door.mjs). By AI agents, Wed Nov 11 2026. No macro, syntax, notation, axiom, sorry.
-/
import Derived.Test.YtmmilamaahmaoaeDoorRows
import GoSem.ClaimSeven
namespace Go.Proofs.YtmmilamaahmaoaeDoor
namespace Rows

/-- THE TIED CARD OF 'layercakelaw1.LzwPacks'. -/
def lzwPacksCard : Claim7 := { stood := { row := lzwPacksRow, standIns := [], harness := (true, "1e89c27d80f90c5113aaec6a21ea3a60f0639410e0d0cfc2b51676fa9502020a"), looks := true }, kinds := [], alts := [], laidByText := true, laidKinds := [.handle, .sentinel, .sentinel, .sentinel, .sentinel, .sentinel, .sentinel, .sentinel, .sentinel, .sentinel], laidTests := true, laidLooks := .later }
def LzwPacksCardSaid : Prop := Claim7.holds Tryd.pinned (.plain (OpenSpec.ofChange lzwPacksSpec)) lzwPacksCard

/-- THE TIED CARD OF 'layercakelaw1.LzwReads'. -/
def lzwReadsCard : Claim7 := { stood := { row := lzwReadsRow, standIns := [], harness := (true, "1e89c27d80f90c5113aaec6a21ea3a60f0639410e0d0cfc2b51676fa9502020a"), looks := true }, kinds := [], alts := [], laidByText := true, laidKinds := [.handle, .sentinel, .sentinel, .sentinel, .sentinel, .sentinel, .sentinel, .sentinel, .sentinel, .sentinel], laidTests := true, laidLooks := .later }
def LzwReadsCardSaid : Prop := Claim7.holds Tryd.pinned (.plain (OpenSpec.ofChange lzwReadsSpec)) lzwReadsCard

/-- THE TIED CARD OF 'layercakelaw1.LzwTwice'. -/
def lzwTwiceCard : Claim7 := { stood := { row := lzwTwiceRow, standIns := [], harness := (true, "1e89c27d80f90c5113aaec6a21ea3a60f0639410e0d0cfc2b51676fa9502020a"), looks := true }, kinds := [], alts := [], laidByText := true, laidKinds := [.sentinel, .sentinel, .sentinel], laidTests := true, laidLooks := .later }
def LzwTwiceCardSaid : Prop := Claim7.holds Tryd.pinned (.plain (OpenSpec.ofChange lzwTwiceSpec)) lzwTwiceCard

/-- THE TIED CARD OF 'layercakelaw1.LzwBlocks'. -/
def lzwBlocksCard : Claim7 := { stood := { row := lzwBlocksRow, standIns := [], harness := (true, "1e89c27d80f90c5113aaec6a21ea3a60f0639410e0d0cfc2b51676fa9502020a"), looks := true }, kinds := [], alts := [], laidByText := true, laidKinds := [.handle, .sentinel, .sentinel, .sentinel, .sentinel, .sentinel, .sentinel, .sentinel, .sentinel, .sentinel], laidTests := true, laidLooks := .later }
def LzwBlocksCardSaid : Prop := Claim7.holds Tryd.pinned (.plain (OpenSpec.ofChange lzwBlocksSpec)) lzwBlocksCard

/-- THE TIED CARD OF 'layercakelaw1.FilterDoes'. -/
def filterDoesCard : Claim7 := { stood := { row := filterDoesRow, standIns := [], harness := (true, "1e89c27d80f90c5113aaec6a21ea3a60f0639410e0d0cfc2b51676fa9502020a"), looks := true }, kinds := [], alts := [], laidByText := true, laidKinds := [.handle, .sentinel, .sentinel, .sentinel, .sentinel, .sentinel, .sentinel, .sentinel, .sentinel, .sentinel], laidTests := true, laidLooks := .later }
def FilterDoesCardSaid : Prop := Claim7.holds Tryd.pinned (.plain (OpenSpec.ofChange filterDoesSpec)) filterDoesCard

/-- THE SECOND FORM's CARD OF 'layercakelaw1.LzwPacks'. -/
def lzwPacksUptoCard : Claim7 := { stood := { row := lzwPacksUptoRow, standIns := [], harness := (true, "1e89c27d80f90c5113aaec6a21ea3a60f0639410e0d0cfc2b51676fa9502020a"), looks := true }, kinds := [], alts := [], laidByText := true, laidKinds := [.handle, .sentinel, .sentinel, .sentinel, .sentinel, .sentinel, .sentinel, .sentinel, .sentinel, .sentinel], laidTests := true, laidLooks := .later }
def LzwPacksUptoCardSaid : Prop := Claim7.holds Tryd.pinned (.plain (OpenSpec.upto lzwPacksSpec)) lzwPacksUptoCard

/-- THE SECOND FORM's CARD OF 'layercakelaw1.LzwReads'. -/
def lzwReadsUptoCard : Claim7 := { stood := { row := lzwReadsUptoRow, standIns := [], harness := (true, "1e89c27d80f90c5113aaec6a21ea3a60f0639410e0d0cfc2b51676fa9502020a"), looks := true }, kinds := [], alts := [], laidByText := true, laidKinds := [.handle, .sentinel, .sentinel, .sentinel, .sentinel, .sentinel, .sentinel, .sentinel, .sentinel, .sentinel], laidTests := true, laidLooks := .later }
def LzwReadsUptoCardSaid : Prop := Claim7.holds Tryd.pinned (.plain (OpenSpec.upto lzwReadsSpec)) lzwReadsUptoCard

/-- THE SECOND FORM's CARD OF 'layercakelaw1.LzwTwice'. -/
def lzwTwiceUptoCard : Claim7 := { stood := { row := lzwTwiceUptoRow, standIns := [], harness := (true, "1e89c27d80f90c5113aaec6a21ea3a60f0639410e0d0cfc2b51676fa9502020a"), looks := true }, kinds := [], alts := [], laidByText := true, laidKinds := [.sentinel, .sentinel, .sentinel], laidTests := true, laidLooks := .later }
def LzwTwiceUptoCardSaid : Prop := Claim7.holds Tryd.pinned (.plain (OpenSpec.upto lzwTwiceSpec)) lzwTwiceUptoCard

/-- THE SECOND FORM's CARD OF 'layercakelaw1.LzwBlocks'. -/
def lzwBlocksUptoCard : Claim7 := { stood := { row := lzwBlocksUptoRow, standIns := [], harness := (true, "1e89c27d80f90c5113aaec6a21ea3a60f0639410e0d0cfc2b51676fa9502020a"), looks := true }, kinds := [], alts := [], laidByText := true, laidKinds := [.handle, .sentinel, .sentinel, .sentinel, .sentinel, .sentinel, .sentinel, .sentinel, .sentinel, .sentinel], laidTests := true, laidLooks := .later }
def LzwBlocksUptoCardSaid : Prop := Claim7.holds Tryd.pinned (.plain (OpenSpec.upto lzwBlocksSpec)) lzwBlocksUptoCard

/-- THE SECOND FORM's CARD OF 'layercakelaw1.FilterDoes'. -/
def filterDoesUptoCard : Claim7 := { stood := { row := filterDoesUptoRow, standIns := [], harness := (true, "1e89c27d80f90c5113aaec6a21ea3a60f0639410e0d0cfc2b51676fa9502020a"), looks := true }, kinds := [], alts := [], laidByText := true, laidKinds := [.handle, .sentinel, .sentinel, .sentinel, .sentinel, .sentinel, .sentinel, .sentinel, .sentinel, .sentinel], laidTests := true, laidLooks := .later }
def FilterDoesUptoCardSaid : Prop := Claim7.holds Tryd.pinned (.plain (OpenSpec.upto filterDoesSpec)) filterDoesUptoCard
end Rows
end Go.Proofs.YtmmilamaahmaoaeDoor
