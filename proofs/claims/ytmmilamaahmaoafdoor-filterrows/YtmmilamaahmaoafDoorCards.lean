/-
  DERIVED. GIVEN WITH THE SEED: THE CARDS: each row of YtmmilamaahmaoafDoorRows.lean that lists a variable, with what it lists TIED to the program's text (the seventh form; the later family's looks); each row that meets fmt, with fmt's text TOLD by the authors' own Lean function (tested against real Go, not proved from fmt's source: count such statements apart). THE CARD IS WHAT COUNTS. Prove the row's statement (the work); the ties are given (YtmmilamaahmaoafDoorTie.lean); close each card by the builder's one call (the guide's Derived/Test/ToyasCard.lean, 'card_holds'). Laid BY PROGRAM, IN A SANDBOX (cutbox-door.mjs). By AI agents, Wed Nov 11 2026. No macro, syntax, notation, axiom, sorry.
-/
import Derived.Test.YtmmilamaahmaoafDoorRows
import GoSem.ClaimSeven
namespace Go.Proofs.YtmmilamaahmaoafDoor
namespace Rows

/-- THE TIED CARD OF 'layercakelaw1.FilterTwice'. -/
def filterTwiceCard : Claim7 := { stood := { row := filterTwiceRow, standIns := [], harness := (true, "373b7989de67375c230d16dc482e6b845f1f6cbfffa78ee1b682fa8098574b18"), looks := true }, kinds := [], alts := [], laidByText := true, laidKinds := [.sentinel, .sentinel], laidTests := true, laidLooks := .later }
def FilterTwiceCardSaid : Prop := Claim7.holds Tryd.pinned (.plain (OpenSpec.ofChange filterTwiceSpec)) filterTwiceCard

/-- THE TIED CARD OF 'layercakelaw1.FilterRows'. -/
def filterRowsCard : Claim7 := { stood := { row := filterRowsRow, standIns := [], harness := (true, "373b7989de67375c230d16dc482e6b845f1f6cbfffa78ee1b682fa8098574b18"), looks := true }, kinds := [], alts := [], laidByText := true, laidKinds := [.handle, .sentinel, .sentinel, .sentinel, .sentinel, .sentinel, .sentinel, .sentinel, .sentinel, .sentinel], laidTests := true, laidLooks := .later }
def FilterRowsCardSaid : Prop := Claim7.holds Tryd.pinned (.plain (OpenSpec.ofChange filterRowsSpec)) filterRowsCard

/-- THE SECOND FORM's CARD OF 'layercakelaw1.FilterTwice'. -/
def filterTwiceUptoCard : Claim7 := { stood := { row := filterTwiceUptoRow, standIns := [], harness := (true, "373b7989de67375c230d16dc482e6b845f1f6cbfffa78ee1b682fa8098574b18"), looks := true }, kinds := [], alts := [], laidByText := true, laidKinds := [.sentinel, .sentinel], laidTests := true, laidLooks := .later }
def FilterTwiceUptoCardSaid : Prop := Claim7.holds Tryd.pinned (.plain (OpenSpec.upto filterTwiceSpec)) filterTwiceUptoCard

/-- THE SECOND FORM's CARD OF 'layercakelaw1.FilterRows'. -/
def filterRowsUptoCard : Claim7 := { stood := { row := filterRowsUptoRow, standIns := [], harness := (true, "373b7989de67375c230d16dc482e6b845f1f6cbfffa78ee1b682fa8098574b18"), looks := true }, kinds := [], alts := [], laidByText := true, laidKinds := [.handle, .sentinel, .sentinel, .sentinel, .sentinel, .sentinel, .sentinel, .sentinel, .sentinel, .sentinel], laidTests := true, laidLooks := .later }
def FilterRowsUptoCardSaid : Prop := Claim7.holds Tryd.pinned (.plain (OpenSpec.upto filterRowsSpec)) filterRowsUptoCard
end Rows
end Go.Proofs.YtmmilamaahmaoafDoor
