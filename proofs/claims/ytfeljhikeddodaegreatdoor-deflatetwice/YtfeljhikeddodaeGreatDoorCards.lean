/-
  DERIVED. GIVEN WITH THE SEED: THE CARDS: each row of YtfeljhikeddodaeGreatDoorRows.lean that lists a variable, with what it lists TIED to the program's text (the seventh form; the later family's looks); each row that meets fmt, with fmt's text TOLD by the authors' own Lean function (tested against real Go, not proved from fmt's source: count such statements apart). THE CARD IS WHAT COUNTS. Prove the row's statement (the work); the ties are given (YtfeljhikeddodaeGreatDoorTie.lean); close each card by the builder's one call (the guide's Derived/Test/ToyasCard.lean, 'card_holds'). Laid BY PROGRAM, IN A SANDBOX (cutbox-door.mjs). By AI agents, Wed Nov 11 2026. No macro, syntax, notation, axiom, sorry.
-/
import Derived.Test.YtfeljhikeddodaeGreatDoorRows
import GoSem.ClaimSeven
namespace Go.Proofs.YtfeljhikeddodaeGreatDoor
namespace Rows

/-- THE TIED CARD OF 'layercakelaw1.DeflateTwice'. -/
def deflateTwiceCard : Claim7 := { stood := { row := deflateTwiceRow, standIns := [], harness := (true, "eab4997933868658862b444fd75e991ff9541956cdee3df6ddc3dc5b331c1c7a"), looks := true }, kinds := [], alts := [], laidByText := true, laidKinds := [.data, .data, .sentinel, .sentinel, .sentinel, .sentinel], laidTests := true, laidLooks := .later }
def DeflateTwiceCardSaid : Prop := Claim7.holds Tryz.pinned (.plain (OpenSpec.ofChange deflateTwiceSpec)) deflateTwiceCard

/-- THE SECOND FORM's CARD OF 'layercakelaw1.DeflateTwice'. -/
def deflateTwiceUptoCard : Claim7 := { stood := { row := deflateTwiceUptoRow, standIns := [], harness := (true, "eab4997933868658862b444fd75e991ff9541956cdee3df6ddc3dc5b331c1c7a"), looks := true }, kinds := [], alts := [], laidByText := true, laidKinds := [.data, .data, .sentinel, .sentinel, .sentinel, .sentinel], laidTests := true, laidLooks := .later }
def DeflateTwiceUptoCardSaid : Prop := Claim7.holds Tryz.pinned (.plain (OpenSpec.upto deflateTwiceSpec)) deflateTwiceUptoCard
end Rows
end Go.Proofs.YtfeljhikeddodaeGreatDoor
