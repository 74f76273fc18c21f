/-
  DERIVED. GIVEN WITH THE SEED: THE CARDS: each row of YtpdbkolbbkbbnabDoorRows.lean that lists a variable, with what it lists TIED to the program's text (the seventh form; the later family's looks); each row that meets fmt, with fmt's text TOLD by the authors' own Lean function (tested against real Go, not proved from fmt's source: count such statements apart). THE CARD IS WHAT COUNTS. Prove the row's statement (the work); the ties are given (YtpdbkolbbkbbnabDoorTie.lean); close each card by the builder's one call (the guide's Derived/Test/ToyasCard.lean, 'card_holds'). Laid BY PROGRAM, IN A SANDBOX (cutbox-door.mjs). By AI agents, Wed Nov 11 2026. No macro, syntax, notation, axiom, sorry.
-/
import Derived.Test.YtpdbkolbbkbbnabDoorRows
import GoSem.ClaimSeven
namespace Go.Proofs.YtpdbkolbbkbbnabDoor
namespace Rows

/-- THE TIED CARD OF 'layercakelaw1.BitsTwice'. -/
def bitsTwiceCard : Claim7 := { stood := { row := bitsTwiceRow, standIns := [], harness := (true, "705170f75d4c3afb5400d000fbf29bedad38692ebecfb48eae82bcbed6942c0d"), looks := true }, kinds := [], alts := [], laidByText := true, laidKinds := [.sentinel, .sentinel], laidTests := true, laidLooks := .later }
def BitsTwiceCardSaid : Prop := Claim7.holds Tryd.pinned (.plain (OpenSpec.ofChange bitsTwiceSpec)) bitsTwiceCard

/-- THE TIED CARD OF 'layercakelaw1.BitsGet'. -/
def bitsGetCard : Claim7 := { stood := { row := bitsGetRow, standIns := [], harness := (true, "705170f75d4c3afb5400d000fbf29bedad38692ebecfb48eae82bcbed6942c0d"), looks := true }, kinds := [], alts := [], laidByText := true, laidKinds := [.handle, .sentinel, .sentinel, .sentinel, .sentinel, .sentinel, .sentinel, .sentinel, .sentinel, .sentinel], laidTests := true, laidLooks := .later }
def BitsGetCardSaid : Prop := Claim7.holds Tryd.pinned (.plain (OpenSpec.ofChange bitsGetSpec)) bitsGetCard

/-- THE SECOND FORM's CARD OF 'layercakelaw1.BitsTwice'. -/
def bitsTwiceUptoCard : Claim7 := { stood := { row := bitsTwiceUptoRow, standIns := [], harness := (true, "705170f75d4c3afb5400d000fbf29bedad38692ebecfb48eae82bcbed6942c0d"), looks := true }, kinds := [], alts := [], laidByText := true, laidKinds := [.sentinel, .sentinel], laidTests := true, laidLooks := .later }
def BitsTwiceUptoCardSaid : Prop := Claim7.holds Tryd.pinned (.plain (OpenSpec.upto bitsTwiceSpec)) bitsTwiceUptoCard

/-- THE SECOND FORM's CARD OF 'layercakelaw1.BitsGet'. -/
def bitsGetUptoCard : Claim7 := { stood := { row := bitsGetUptoRow, standIns := [], harness := (true, "705170f75d4c3afb5400d000fbf29bedad38692ebecfb48eae82bcbed6942c0d"), looks := true }, kinds := [], alts := [], laidByText := true, laidKinds := [.handle, .sentinel, .sentinel, .sentinel, .sentinel, .sentinel, .sentinel, .sentinel, .sentinel, .sentinel], laidTests := true, laidLooks := .later }
def BitsGetUptoCardSaid : Prop := Claim7.holds Tryd.pinned (.plain (OpenSpec.upto bitsGetSpec)) bitsGetUptoCard
end Rows
end Go.Proofs.YtpdbkolbbkbbnabDoor
