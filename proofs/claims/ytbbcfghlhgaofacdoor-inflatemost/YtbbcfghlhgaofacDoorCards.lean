/-
  DERIVED. GIVEN WITH THE SEED: THE CARDS: each row of YtbbcfghlhgaofacDoorRows.lean that lists a variable, with what it lists TIED to the program's text (the seventh form; the later family's looks); each row that meets fmt, with fmt's text TOLD by the authors' own Lean function (tested against real Go, not proved from fmt's source: count such statements apart). THE CARD IS WHAT COUNTS. Prove the row's statement (the work); the ties are given (YtbbcfghlhgaofacDoorTie.lean); close each card by the builder's one call (the guide's Derived/Test/ToyasCard.lean, 'card_holds'). Laid BY PROGRAM, IN A SANDBOX (cutbox-door.mjs). By AI agents, Wed Nov 11 2026. No macro, syntax, notation, axiom, sorry.
-/
import Derived.Test.YtbbcfghlhgaofacDoorRows
import GoSem.ClaimSeven
namespace Go.Proofs.YtbbcfghlhgaofacDoor
namespace Rows

/-- THE TIED CARD OF 'layercakelaw1.HuffReads'. -/
def huffReadsCard : Claim7 := { stood := { row := huffReadsRow, standIns := [], harness := (true, "77174ab852f6a29da89dfda779523ee19dcf9fcce982f2f38624a0859d1eadc2"), looks := true }, kinds := [], alts := [], laidByText := true, laidKinds := [.handle, .sentinel, .sentinel, .sentinel, .sentinel, .sentinel, .sentinel, .sentinel, .sentinel, .sentinel], laidTests := true, laidLooks := .later }
def HuffReadsCardSaid : Prop := Claim7.holds Tryd.pinned (.plain (OpenSpec.ofChange huffReadsSpec)) huffReadsCard

/-- THE TIED CARD OF 'layercakelaw1.HuffFalls'. -/
def huffFallsCard : Claim7 := { stood := { row := huffFallsRow, standIns := [], harness := (true, "77174ab852f6a29da89dfda779523ee19dcf9fcce982f2f38624a0859d1eadc2"), looks := true }, kinds := [], alts := [], laidByText := true, laidKinds := [.handle, .sentinel, .sentinel, .sentinel, .sentinel, .sentinel, .sentinel, .sentinel, .sentinel, .sentinel], laidTests := true, laidLooks := .later }
def HuffFallsCardSaid : Prop := Claim7.holds Tryd.pinned (.plain (OpenSpec.ofChange huffFallsSpec)) huffFallsCard

/-- THE TIED CARD OF 'layercakelaw1.InflateMost'. -/
def inflateMostCard : Claim7 := { stood := { row := inflateMostRow, standIns := [], harness := (true, "77174ab852f6a29da89dfda779523ee19dcf9fcce982f2f38624a0859d1eadc2"), looks := true }, kinds := [], alts := [], laidByText := true, laidKinds := [.data, .data, .handle, .sentinel, .sentinel, .sentinel, .sentinel, .sentinel, .sentinel, .sentinel, .sentinel, .sentinel], laidTests := true, laidLooks := .later }
def InflateMostCardSaid : Prop := Claim7.holds Tryd.pinned (.plain (OpenSpec.ofChange inflateMostSpec)) inflateMostCard

/-- THE TIED CARD OF 'layercakelaw1.MatchExpands'. -/
def matchExpandsCard : Claim7 := { stood := { row := matchExpandsRow, standIns := [], harness := (true, "77174ab852f6a29da89dfda779523ee19dcf9fcce982f2f38624a0859d1eadc2"), looks := true }, kinds := [], alts := [], laidByText := true, laidKinds := [.handle, .sentinel, .sentinel, .sentinel, .sentinel, .sentinel, .sentinel, .sentinel, .sentinel, .sentinel], laidTests := true, laidLooks := .later }
def MatchExpandsCardSaid : Prop := Claim7.holds Tryd.pinned (.plain (OpenSpec.ofChange matchExpandsSpec)) matchExpandsCard

/-- THE SECOND FORM's CARD OF 'layercakelaw1.HuffReads'. -/
def huffReadsUptoCard : Claim7 := { stood := { row := huffReadsUptoRow, standIns := [], harness := (true, "77174ab852f6a29da89dfda779523ee19dcf9fcce982f2f38624a0859d1eadc2"), looks := true }, kinds := [], alts := [], laidByText := true, laidKinds := [.handle, .sentinel, .sentinel, .sentinel, .sentinel, .sentinel, .sentinel, .sentinel, .sentinel, .sentinel], laidTests := true, laidLooks := .later }
def HuffReadsUptoCardSaid : Prop := Claim7.holds Tryd.pinned (.plain (OpenSpec.upto huffReadsSpec)) huffReadsUptoCard

/-- THE SECOND FORM's CARD OF 'layercakelaw1.HuffFalls'. -/
def huffFallsUptoCard : Claim7 := { stood := { row := huffFallsUptoRow, standIns := [], harness := (true, "77174ab852f6a29da89dfda779523ee19dcf9fcce982f2f38624a0859d1eadc2"), looks := true }, kinds := [], alts := [], laidByText := true, laidKinds := [.handle, .sentinel, .sentinel, .sentinel, .sentinel, .sentinel, .sentinel, .sentinel, .sentinel, .sentinel], laidTests := true, laidLooks := .later }
def HuffFallsUptoCardSaid : Prop := Claim7.holds Tryd.pinned (.plain (OpenSpec.upto huffFallsSpec)) huffFallsUptoCard

/-- THE SECOND FORM's CARD OF 'layercakelaw1.InflateMost'. -/
def inflateMostUptoCard : Claim7 := { stood := { row := inflateMostUptoRow, standIns := [], harness := (true, "77174ab852f6a29da89dfda779523ee19dcf9fcce982f2f38624a0859d1eadc2"), looks := true }, kinds := [], alts := [], laidByText := true, laidKinds := [.data, .data, .handle, .sentinel, .sentinel, .sentinel, .sentinel, .sentinel, .sentinel, .sentinel, .sentinel, .sentinel], laidTests := true, laidLooks := .later }
def InflateMostUptoCardSaid : Prop := Claim7.holds Tryd.pinned (.plain (OpenSpec.upto inflateMostSpec)) inflateMostUptoCard

/-- THE SECOND FORM's CARD OF 'layercakelaw1.MatchExpands'. -/
def matchExpandsUptoCard : Claim7 := { stood := { row := matchExpandsUptoRow, standIns := [], harness := (true, "77174ab852f6a29da89dfda779523ee19dcf9fcce982f2f38624a0859d1eadc2"), looks := true }, kinds := [], alts := [], laidByText := true, laidKinds := [.handle, .sentinel, .sentinel, .sentinel, .sentinel, .sentinel, .sentinel, .sentinel, .sentinel, .sentinel], laidTests := true, laidLooks := .later }
def MatchExpandsUptoCardSaid : Prop := Claim7.holds Tryd.pinned (.plain (OpenSpec.upto matchExpandsSpec)) matchExpandsUptoCard
end Rows
end Go.Proofs.YtbbcfghlhgaofacDoor
