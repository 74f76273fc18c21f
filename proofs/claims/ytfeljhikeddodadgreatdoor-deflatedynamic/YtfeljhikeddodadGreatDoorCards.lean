/-
  DERIVED. GIVEN WITH THE SEED: THE CARDS: each row of YtfeljhikeddodadGreatDoorRows.lean that lists a variable, with what it lists TIED to the program's text (the seventh form; the later family's looks); each row that meets fmt, with fmt's text TOLD by the authors' own Lean function (tested against real Go, not proved from fmt's source: count such statements apart). THE CARD IS WHAT COUNTS. Prove the row's statement (the work); the ties are given (YtfeljhikeddodadGreatDoorTie.lean); close each card by the builder's one call (the guide's Derived/Test/ToyasCard.lean, 'card_holds'). Laid BY PROGRAM, IN A SANDBOX (cutbox-door.mjs). By AI agents, Wed Nov 11 2026. No macro, syntax, notation, axiom, sorry.
-/
import Derived.Test.YtfeljhikeddodadGreatDoorRows
import GoSem.ClaimSeven
namespace Go.Proofs.YtfeljhikeddodadGreatDoor
namespace Rows

/-- THE TIED CARD OF 'layercakelaw1.DeflateFixed'. -/
def deflateFixedCard : Claim7 := { stood := { row := deflateFixedRow, standIns := [], harness := (true, "239e35705ebd608f3af390d46901f5105464c8a86c1076cec37e5ecb2ad18d78"), looks := true }, kinds := [], alts := [], laidByText := true, laidKinds := [.data, .data, .handle, .sentinel, .sentinel, .sentinel, .sentinel, .sentinel, .sentinel, .sentinel, .sentinel, .sentinel], laidTests := true, laidLooks := .later }
def DeflateFixedCardSaid : Prop := Claim7.holds Tryz.pinned (.plain (OpenSpec.ofChange deflateFixedSpec)) deflateFixedCard

/-- THE TIED CARD OF 'layercakelaw1.DeflateDynamic'. -/
def deflateDynamicCard : Claim7 := { stood := { row := deflateDynamicRow, standIns := [], harness := (true, "239e35705ebd608f3af390d46901f5105464c8a86c1076cec37e5ecb2ad18d78"), looks := true }, kinds := [], alts := [], laidByText := true, laidKinds := [.data, .data, .handle, .sentinel, .sentinel, .sentinel, .sentinel, .sentinel, .sentinel, .sentinel, .sentinel, .sentinel], laidTests := true, laidLooks := .later }
def DeflateDynamicCardSaid : Prop := Claim7.holds Tryz.pinned (.plain (OpenSpec.ofChange deflateDynamicSpec)) deflateDynamicCard

/-- THE TIED CARD OF 'layercakelaw1.DeflatePacks'. -/
def deflatePacksCard : Claim7 := { stood := { row := deflatePacksRow, standIns := [], harness := (true, "239e35705ebd608f3af390d46901f5105464c8a86c1076cec37e5ecb2ad18d78"), looks := true }, kinds := [], alts := [], laidByText := true, laidKinds := [.data, .data, .sentinel, .sentinel], laidTests := true, laidLooks := .later }
def DeflatePacksCardSaid : Prop := Claim7.holds Tryz.pinned (.plain (OpenSpec.ofChange deflatePacksSpec)) deflatePacksCard

/-- THE SECOND FORM's CARD OF 'layercakelaw1.DeflateFixed'. -/
def deflateFixedUptoCard : Claim7 := { stood := { row := deflateFixedUptoRow, standIns := [], harness := (true, "239e35705ebd608f3af390d46901f5105464c8a86c1076cec37e5ecb2ad18d78"), looks := true }, kinds := [], alts := [], laidByText := true, laidKinds := [.data, .data, .handle, .sentinel, .sentinel, .sentinel, .sentinel, .sentinel, .sentinel, .sentinel, .sentinel, .sentinel], laidTests := true, laidLooks := .later }
def DeflateFixedUptoCardSaid : Prop := Claim7.holds Tryz.pinned (.plain (OpenSpec.upto deflateFixedSpec)) deflateFixedUptoCard

/-- THE SECOND FORM's CARD OF 'layercakelaw1.DeflateDynamic'. -/
def deflateDynamicUptoCard : Claim7 := { stood := { row := deflateDynamicUptoRow, standIns := [], harness := (true, "239e35705ebd608f3af390d46901f5105464c8a86c1076cec37e5ecb2ad18d78"), looks := true }, kinds := [], alts := [], laidByText := true, laidKinds := [.data, .data, .handle, .sentinel, .sentinel, .sentinel, .sentinel, .sentinel, .sentinel, .sentinel, .sentinel, .sentinel], laidTests := true, laidLooks := .later }
def DeflateDynamicUptoCardSaid : Prop := Claim7.holds Tryz.pinned (.plain (OpenSpec.upto deflateDynamicSpec)) deflateDynamicUptoCard

/-- THE SECOND FORM's CARD OF 'layercakelaw1.DeflatePacks'. -/
def deflatePacksUptoCard : Claim7 := { stood := { row := deflatePacksUptoRow, standIns := [], harness := (true, "239e35705ebd608f3af390d46901f5105464c8a86c1076cec37e5ecb2ad18d78"), looks := true }, kinds := [], alts := [], laidByText := true, laidKinds := [.data, .data, .sentinel, .sentinel], laidTests := true, laidLooks := .later }
def DeflatePacksUptoCardSaid : Prop := Claim7.holds Tryz.pinned (.plain (OpenSpec.upto deflatePacksSpec)) deflatePacksUptoCard
end Rows
end Go.Proofs.YtfeljhikeddodadGreatDoor
