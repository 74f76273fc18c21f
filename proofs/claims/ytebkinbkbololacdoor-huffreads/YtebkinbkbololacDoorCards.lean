/-
  DERIVED. GIVEN WITH THE SEED: THE CARDS: each row of YtebkinbkbololacDoorRows.lean that lists a variable, with what it lists TIED to the program's text (the seventh form; the later family's looks); each row that meets fmt, with fmt's text TOLD by the authors' own Lean function (tested against real Go, not proved from fmt's source: count such statements apart). THE CARD IS WHAT COUNTS. Prove the row's statement (the work); the ties are given (YtebkinbkbololacDoorTie.lean); close each card by the builder's one call (the guide's Derived/Test/ToyasCard.lean, 'card_holds'). Laid BY PROGRAM, IN A SANDBOX (cutbox-door.mjs). By AI agents, Wed Nov 11 2026. No macro, syntax, notation, axiom, sorry.
-/
import Derived.Test.YtebkinbkbololacDoorRows
import GoSem.ClaimSeven
namespace Go.Proofs.YtebkinbkbololacDoor
namespace Rows

/-- THE TIED CARD OF 'layercakelaw1.HuffReads'. -/
def huffReadsCard : Claim7 := { stood := { row := huffReadsRow, standIns := [], harness := (true, "ef3db2f42d02a2773f409613ffa943ae9f365c5462632a7958f5d56a99976041"), looks := true }, kinds := [], alts := [], laidByText := true, laidKinds := [.handle, .sentinel, .sentinel, .sentinel, .sentinel, .sentinel, .sentinel, .sentinel, .sentinel, .sentinel], laidTests := true, laidLooks := .later }
def HuffReadsCardSaid : Prop := Claim7.holds Tryd.pinned (.plain (OpenSpec.ofChange huffReadsSpec)) huffReadsCard

/-- THE TIED CARD OF 'layercakelaw1.HuffFalls'. -/
def huffFallsCard : Claim7 := { stood := { row := huffFallsRow, standIns := [], harness := (true, "ef3db2f42d02a2773f409613ffa943ae9f365c5462632a7958f5d56a99976041"), looks := true }, kinds := [], alts := [], laidByText := true, laidKinds := [.handle, .sentinel, .sentinel, .sentinel, .sentinel, .sentinel, .sentinel, .sentinel, .sentinel, .sentinel], laidTests := true, laidLooks := .later }
def HuffFallsCardSaid : Prop := Claim7.holds Tryd.pinned (.plain (OpenSpec.ofChange huffFallsSpec)) huffFallsCard

/-- THE SECOND FORM's CARD OF 'layercakelaw1.HuffReads'. -/
def huffReadsUptoCard : Claim7 := { stood := { row := huffReadsUptoRow, standIns := [], harness := (true, "ef3db2f42d02a2773f409613ffa943ae9f365c5462632a7958f5d56a99976041"), looks := true }, kinds := [], alts := [], laidByText := true, laidKinds := [.handle, .sentinel, .sentinel, .sentinel, .sentinel, .sentinel, .sentinel, .sentinel, .sentinel, .sentinel], laidTests := true, laidLooks := .later }
def HuffReadsUptoCardSaid : Prop := Claim7.holds Tryd.pinned (.plain (OpenSpec.upto huffReadsSpec)) huffReadsUptoCard

/-- THE SECOND FORM's CARD OF 'layercakelaw1.HuffFalls'. -/
def huffFallsUptoCard : Claim7 := { stood := { row := huffFallsUptoRow, standIns := [], harness := (true, "ef3db2f42d02a2773f409613ffa943ae9f365c5462632a7958f5d56a99976041"), looks := true }, kinds := [], alts := [], laidByText := true, laidKinds := [.handle, .sentinel, .sentinel, .sentinel, .sentinel, .sentinel, .sentinel, .sentinel, .sentinel, .sentinel], laidTests := true, laidLooks := .later }
def HuffFallsUptoCardSaid : Prop := Claim7.holds Tryd.pinned (.plain (OpenSpec.upto huffFallsSpec)) huffFallsUptoCard
end Rows
end Go.Proofs.YtebkinbkbololacDoor
