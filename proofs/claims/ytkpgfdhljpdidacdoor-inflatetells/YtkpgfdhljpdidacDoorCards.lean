/-
  DERIVED. GIVEN WITH THE SEED: THE CARDS: each row of YtkpgfdhljpdidacDoorRows.lean that lists a variable, with what it lists TIED to the program's text (the seventh form; the later family's looks); each row that meets fmt, with fmt's text TOLD by the authors' own Lean function (tested against real Go, not proved from fmt's source: count such statements apart). THE CARD IS WHAT COUNTS. Prove the row's statement (the work); the ties are given (YtkpgfdhljpdidacDoorTie.lean); close each card by the builder's one call (the guide's Derived/Test/ToyasCard.lean, 'card_holds'). Laid BY PROGRAM, IN A SANDBOX (cutbox-door.mjs). By AI agents, Wed Nov 11 2026. No macro, syntax, notation, axiom, sorry.
-/
import Derived.Test.YtkpgfdhljpdidacDoorRows
import GoSem.ClaimSeven
namespace Go.Proofs.YtkpgfdhljpdidacDoor
namespace Rows

/-- THE TIED CARD OF 'layercakelaw1.HuffReads'. -/
def huffReadsCard : Claim7 := { stood := { row := huffReadsRow, standIns := [], harness := (true, "31abcdbdb9756a097ad65085f5a9e950c5484e7201f71b7ce647a105ee3198f3"), looks := true }, kinds := [], alts := [], laidByText := true, laidKinds := [.handle, .sentinel, .sentinel, .sentinel, .sentinel, .sentinel, .sentinel, .sentinel, .sentinel, .sentinel], laidTests := true, laidLooks := .later }
def HuffReadsCardSaid : Prop := Claim7.holds Tryd.pinned (.plain (OpenSpec.ofChange huffReadsSpec)) huffReadsCard

/-- THE TIED CARD OF 'layercakelaw1.HuffFalls'. -/
def huffFallsCard : Claim7 := { stood := { row := huffFallsRow, standIns := [], harness := (true, "31abcdbdb9756a097ad65085f5a9e950c5484e7201f71b7ce647a105ee3198f3"), looks := true }, kinds := [], alts := [], laidByText := true, laidKinds := [.handle, .sentinel, .sentinel, .sentinel, .sentinel, .sentinel, .sentinel, .sentinel, .sentinel, .sentinel], laidTests := true, laidLooks := .later }
def HuffFallsCardSaid : Prop := Claim7.holds Tryd.pinned (.plain (OpenSpec.ofChange huffFallsSpec)) huffFallsCard

/-- THE TIED CARD OF 'layercakelaw1.InflateTells'. -/
def inflateTellsCard : Claim7 := { stood := { row := inflateTellsRow, standIns := [], harness := (true, "31abcdbdb9756a097ad65085f5a9e950c5484e7201f71b7ce647a105ee3198f3"), looks := true }, kinds := [], alts := [], laidByText := true, laidKinds := [.handle, .sentinel, .sentinel, .sentinel, .sentinel, .sentinel, .sentinel, .sentinel, .sentinel, .sentinel, .data, .data, .data], laidTests := true, laidLooks := .later }
def InflateTellsCardSaid : Prop := Claim7.holds Tryd.pinned (.plain (OpenSpec.ofChange inflateTellsSpec)) inflateTellsCard

/-- THE TIED CARD OF 'layercakelaw1.InflateMost'. -/
def inflateMostCard : Claim7 := { stood := { row := inflateMostRow, standIns := [], harness := (true, "31abcdbdb9756a097ad65085f5a9e950c5484e7201f71b7ce647a105ee3198f3"), looks := true }, kinds := [], alts := [], laidByText := true, laidKinds := [.handle, .sentinel, .sentinel, .sentinel, .sentinel, .sentinel, .sentinel, .sentinel, .sentinel, .sentinel, .data, .data, .data], laidTests := true, laidLooks := .later }
def InflateMostCardSaid : Prop := Claim7.holds Tryd.pinned (.plain (OpenSpec.ofChange inflateMostSpec)) inflateMostCard

/-- THE TIED CARD OF 'layercakelaw1.MatchExpands'. -/
def matchExpandsCard : Claim7 := { stood := { row := matchExpandsRow, standIns := [], harness := (true, "31abcdbdb9756a097ad65085f5a9e950c5484e7201f71b7ce647a105ee3198f3"), looks := true }, kinds := [], alts := [], laidByText := true, laidKinds := [.handle, .sentinel, .sentinel, .sentinel, .sentinel, .sentinel, .sentinel, .sentinel, .sentinel, .sentinel], laidTests := true, laidLooks := .later }
def MatchExpandsCardSaid : Prop := Claim7.holds Tryd.pinned (.plain (OpenSpec.ofChange matchExpandsSpec)) matchExpandsCard

/-- THE SECOND FORM's CARD OF 'layercakelaw1.HuffReads'. -/
def huffReadsUptoCard : Claim7 := { stood := { row := huffReadsUptoRow, standIns := [], harness := (true, "31abcdbdb9756a097ad65085f5a9e950c5484e7201f71b7ce647a105ee3198f3"), looks := true }, kinds := [], alts := [], laidByText := true, laidKinds := [.handle, .sentinel, .sentinel, .sentinel, .sentinel, .sentinel, .sentinel, .sentinel, .sentinel, .sentinel], laidTests := true, laidLooks := .later }
def HuffReadsUptoCardSaid : Prop := Claim7.holds Tryd.pinned (.plain (OpenSpec.upto huffReadsSpec)) huffReadsUptoCard

/-- THE SECOND FORM's CARD OF 'layercakelaw1.HuffFalls'. -/
def huffFallsUptoCard : Claim7 := { stood := { row := huffFallsUptoRow, standIns := [], harness := (true, "31abcdbdb9756a097ad65085f5a9e950c5484e7201f71b7ce647a105ee3198f3"), looks := true }, kinds := [], alts := [], laidByText := true, laidKinds := [.handle, .sentinel, .sentinel, .sentinel, .sentinel, .sentinel, .sentinel, .sentinel, .sentinel, .sentinel], laidTests := true, laidLooks := .later }
def HuffFallsUptoCardSaid : Prop := Claim7.holds Tryd.pinned (.plain (OpenSpec.upto huffFallsSpec)) huffFallsUptoCard

/-- THE SECOND FORM's CARD OF 'layercakelaw1.InflateTells'. -/
def inflateTellsUptoCard : Claim7 := { stood := { row := inflateTellsUptoRow, standIns := [], harness := (true, "31abcdbdb9756a097ad65085f5a9e950c5484e7201f71b7ce647a105ee3198f3"), looks := true }, kinds := [], alts := [], laidByText := true, laidKinds := [.handle, .sentinel, .sentinel, .sentinel, .sentinel, .sentinel, .sentinel, .sentinel, .sentinel, .sentinel, .data, .data, .data], laidTests := true, laidLooks := .later }
def InflateTellsUptoCardSaid : Prop := Claim7.holds Tryd.pinned (.plain (OpenSpec.upto inflateTellsSpec)) inflateTellsUptoCard

/-- THE SECOND FORM's CARD OF 'layercakelaw1.InflateMost'. -/
def inflateMostUptoCard : Claim7 := { stood := { row := inflateMostUptoRow, standIns := [], harness := (true, "31abcdbdb9756a097ad65085f5a9e950c5484e7201f71b7ce647a105ee3198f3"), looks := true }, kinds := [], alts := [], laidByText := true, laidKinds := [.handle, .sentinel, .sentinel, .sentinel, .sentinel, .sentinel, .sentinel, .sentinel, .sentinel, .sentinel, .data, .data, .data], laidTests := true, laidLooks := .later }
def InflateMostUptoCardSaid : Prop := Claim7.holds Tryd.pinned (.plain (OpenSpec.upto inflateMostSpec)) inflateMostUptoCard

/-- THE SECOND FORM's CARD OF 'layercakelaw1.MatchExpands'. -/
def matchExpandsUptoCard : Claim7 := { stood := { row := matchExpandsUptoRow, standIns := [], harness := (true, "31abcdbdb9756a097ad65085f5a9e950c5484e7201f71b7ce647a105ee3198f3"), looks := true }, kinds := [], alts := [], laidByText := true, laidKinds := [.handle, .sentinel, .sentinel, .sentinel, .sentinel, .sentinel, .sentinel, .sentinel, .sentinel, .sentinel], laidTests := true, laidLooks := .later }
def MatchExpandsUptoCardSaid : Prop := Claim7.holds Tryd.pinned (.plain (OpenSpec.upto matchExpandsSpec)) matchExpandsUptoCard
end Rows
end Go.Proofs.YtkpgfdhljpdidacDoor
