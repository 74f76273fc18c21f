/-
  DERIVED. GIVEN WITH THE SEED: THE CARDS: each row of YtogpkpjdipeiiabDoorRows.lean that lists a variable, with what it lists TIED to the program's text (the seventh form; the later family's looks); each row that meets fmt, with fmt's text TOLD by the authors' own Lean function (tested against real Go, not proved from fmt's source: count such statements apart). THE CARD IS WHAT COUNTS. Prove the row's statement (the work); the ties are given (YtogpkpjdipeiiabDoorTie.lean); close each card by the builder's one call (the guide's Derived/Test/ToyasCard.lean, 'card_holds'). Laid BY PROGRAM, IN A SANDBOX (cutbox-door.mjs). By AI agents, Wed Nov 11 2026. No macro, syntax, notation, axiom, sorry.
-/
import Derived.Test.YtogpkpjdipeiiabDoorRows
import GoSem.ClaimSeven
namespace Go.Proofs.YtogpkpjdipeiiabDoor
namespace Rows

/-- THE TIED CARD OF 'layercakelaw1.BitsTwice'. -/
def bitsTwiceCard : Claim7 := { stood := { row := bitsTwiceRow, standIns := [], harness := (true, "a9c0d5b457137e6c362bf1e7e40fb0d02a8d022ef7d48e402014fb40fce20e73"), looks := true }, kinds := [], alts := [], laidByText := true, laidKinds := [.sentinel, .sentinel], laidTests := true, laidLooks := .later }
def BitsTwiceCardSaid : Prop := Claim7.holds Tryd.pinned (.plain (OpenSpec.ofChange bitsTwiceSpec)) bitsTwiceCard

/-- THE TIED CARD OF 'layercakelaw1.BitsGet'. -/
def bitsGetCard : Claim7 := { stood := { row := bitsGetRow, standIns := [], harness := (true, "a9c0d5b457137e6c362bf1e7e40fb0d02a8d022ef7d48e402014fb40fce20e73"), looks := true }, kinds := [], alts := [], laidByText := true, laidKinds := [.handle, .sentinel, .sentinel, .sentinel, .sentinel, .sentinel, .sentinel, .sentinel, .sentinel, .sentinel], laidTests := true, laidLooks := .later }
def BitsGetCardSaid : Prop := Claim7.holds Tryd.pinned (.plain (OpenSpec.ofChange bitsGetSpec)) bitsGetCard

/-- THE TIED CARD OF 'layercakelaw1.HuffCodes'. -/
def huffCodesCard : Claim7 := { stood := { row := huffCodesRow, standIns := [], harness := (true, "a9c0d5b457137e6c362bf1e7e40fb0d02a8d022ef7d48e402014fb40fce20e73"), looks := true }, kinds := [], alts := [], laidByText := true, laidKinds := [.handle, .sentinel, .sentinel, .sentinel, .sentinel, .sentinel, .sentinel, .sentinel, .sentinel, .sentinel], laidTests := true, laidLooks := .later }
def HuffCodesCardSaid : Prop := Claim7.holds Tryd.pinned (.plain (OpenSpec.ofChange huffCodesSpec)) huffCodesCard

/-- THE TIED CARD OF 'layercakelaw1.HuffApart'. -/
def huffApartCard : Claim7 := { stood := { row := huffApartRow, standIns := [], harness := (true, "a9c0d5b457137e6c362bf1e7e40fb0d02a8d022ef7d48e402014fb40fce20e73"), looks := true }, kinds := [], alts := [], laidByText := true, laidKinds := [.sentinel, .sentinel], laidTests := true, laidLooks := .later }
def HuffApartCardSaid : Prop := Claim7.holds Tryd.pinned (.plain (OpenSpec.ofChange huffApartSpec)) huffApartCard

/-- THE TIED CARD OF 'layercakelaw1.HuffBest'. -/
def huffBestCard : Claim7 := { stood := { row := huffBestRow, standIns := [], harness := (true, "a9c0d5b457137e6c362bf1e7e40fb0d02a8d022ef7d48e402014fb40fce20e73"), looks := true }, kinds := [], alts := [], laidByText := true, laidKinds := [.handle, .sentinel, .sentinel, .sentinel, .sentinel, .sentinel, .sentinel, .sentinel, .sentinel, .sentinel], laidTests := true, laidLooks := .later }
def HuffBestCardSaid : Prop := Claim7.holds Tryd.pinned (.plain (OpenSpec.ofChange huffBestSpec)) huffBestCard

/-- THE TIED CARD OF 'layercakelaw1.HuffCosts'. -/
def huffCostsCard : Claim7 := { stood := { row := huffCostsRow, standIns := [], harness := (true, "a9c0d5b457137e6c362bf1e7e40fb0d02a8d022ef7d48e402014fb40fce20e73"), looks := true }, kinds := [], alts := [], laidByText := true, laidKinds := [.handle, .sentinel, .sentinel, .sentinel, .sentinel, .sentinel, .sentinel, .sentinel, .sentinel, .sentinel], laidTests := true, laidLooks := .later }
def HuffCostsCardSaid : Prop := Claim7.holds Tryd.pinned (.plain (OpenSpec.ofChange huffCostsSpec)) huffCostsCard

/-- THE SECOND FORM's CARD OF 'layercakelaw1.BitsTwice'. -/
def bitsTwiceUptoCard : Claim7 := { stood := { row := bitsTwiceUptoRow, standIns := [], harness := (true, "a9c0d5b457137e6c362bf1e7e40fb0d02a8d022ef7d48e402014fb40fce20e73"), looks := true }, kinds := [], alts := [], laidByText := true, laidKinds := [.sentinel, .sentinel], laidTests := true, laidLooks := .later }
def BitsTwiceUptoCardSaid : Prop := Claim7.holds Tryd.pinned (.plain (OpenSpec.upto bitsTwiceSpec)) bitsTwiceUptoCard

/-- THE SECOND FORM's CARD OF 'layercakelaw1.BitsGet'. -/
def bitsGetUptoCard : Claim7 := { stood := { row := bitsGetUptoRow, standIns := [], harness := (true, "a9c0d5b457137e6c362bf1e7e40fb0d02a8d022ef7d48e402014fb40fce20e73"), looks := true }, kinds := [], alts := [], laidByText := true, laidKinds := [.handle, .sentinel, .sentinel, .sentinel, .sentinel, .sentinel, .sentinel, .sentinel, .sentinel, .sentinel], laidTests := true, laidLooks := .later }
def BitsGetUptoCardSaid : Prop := Claim7.holds Tryd.pinned (.plain (OpenSpec.upto bitsGetSpec)) bitsGetUptoCard

/-- THE SECOND FORM's CARD OF 'layercakelaw1.HuffCodes'. -/
def huffCodesUptoCard : Claim7 := { stood := { row := huffCodesUptoRow, standIns := [], harness := (true, "a9c0d5b457137e6c362bf1e7e40fb0d02a8d022ef7d48e402014fb40fce20e73"), looks := true }, kinds := [], alts := [], laidByText := true, laidKinds := [.handle, .sentinel, .sentinel, .sentinel, .sentinel, .sentinel, .sentinel, .sentinel, .sentinel, .sentinel], laidTests := true, laidLooks := .later }
def HuffCodesUptoCardSaid : Prop := Claim7.holds Tryd.pinned (.plain (OpenSpec.upto huffCodesSpec)) huffCodesUptoCard

/-- THE SECOND FORM's CARD OF 'layercakelaw1.HuffApart'. -/
def huffApartUptoCard : Claim7 := { stood := { row := huffApartUptoRow, standIns := [], harness := (true, "a9c0d5b457137e6c362bf1e7e40fb0d02a8d022ef7d48e402014fb40fce20e73"), looks := true }, kinds := [], alts := [], laidByText := true, laidKinds := [.sentinel, .sentinel], laidTests := true, laidLooks := .later }
def HuffApartUptoCardSaid : Prop := Claim7.holds Tryd.pinned (.plain (OpenSpec.upto huffApartSpec)) huffApartUptoCard

/-- THE SECOND FORM's CARD OF 'layercakelaw1.HuffBest'. -/
def huffBestUptoCard : Claim7 := { stood := { row := huffBestUptoRow, standIns := [], harness := (true, "a9c0d5b457137e6c362bf1e7e40fb0d02a8d022ef7d48e402014fb40fce20e73"), looks := true }, kinds := [], alts := [], laidByText := true, laidKinds := [.handle, .sentinel, .sentinel, .sentinel, .sentinel, .sentinel, .sentinel, .sentinel, .sentinel, .sentinel], laidTests := true, laidLooks := .later }
def HuffBestUptoCardSaid : Prop := Claim7.holds Tryd.pinned (.plain (OpenSpec.upto huffBestSpec)) huffBestUptoCard

/-- THE SECOND FORM's CARD OF 'layercakelaw1.HuffCosts'. -/
def huffCostsUptoCard : Claim7 := { stood := { row := huffCostsUptoRow, standIns := [], harness := (true, "a9c0d5b457137e6c362bf1e7e40fb0d02a8d022ef7d48e402014fb40fce20e73"), looks := true }, kinds := [], alts := [], laidByText := true, laidKinds := [.handle, .sentinel, .sentinel, .sentinel, .sentinel, .sentinel, .sentinel, .sentinel, .sentinel, .sentinel], laidTests := true, laidLooks := .later }
def HuffCostsUptoCardSaid : Prop := Claim7.holds Tryd.pinned (.plain (OpenSpec.upto huffCostsSpec)) huffCostsUptoCard
end Rows
end Go.Proofs.YtogpkpjdipeiiabDoor
