/-
  DERIVED. GIVEN WITH THE SEED: THE CARDS: each row of YtcicbafdacfbpaiGreatDoorRows.lean that lists a variable, with what it lists TIED to the program's text (the seventh form; the later family's looks); each row that meets fmt, with fmt's text TOLD by the authors' own Lean function (tested against real Go, not proved from fmt's source: count such statements apart). THE CARD IS WHAT COUNTS. Prove the row's statement (the work); the ties are given (YtcicbafdacfbpaiGreatDoorTie.lean); close each card by the builder's one call (the guide's Derived/Test/ToyasCard.lean, 'card_holds'). Laid BY PROGRAM, IN A SANDBOX (cutbox-door.mjs). By AI agents, Wed Nov 11 2026. No macro, syntax, notation, axiom, sorry.
-/
import Derived.Test.YtcicbafdacfbpaiGreatDoorRows
import GoSem.ClaimSeven
namespace Go.Proofs.YtcicbafdacfbpaiGreatDoor
namespace Rows

/-- THE TIED CARD OF 'layercakelaw3.TilesPaint'. -/
def tilesPaintCard : Claim7 := { stood := { row := tilesPaintRow, standIns := [], harness := (true, "69dd0ef41b6f49df4e613f9217cff57e68d48ab7a97ba28d29c0d3c85453406b"), looks := true }, kinds := [], alts := [], laidByText := true, laidKinds := [.handle, .sentinel, .sentinel, .sentinel, .sentinel, .sentinel, .sentinel, .sentinel, .sentinel, .sentinel], laidTests := true, laidLooks := .later }
def TilesPaintCardSaid : Prop := Claim7.holds Tryz.pinned (.plain (OpenSpec.ofChange tilesPaintSpec)) tilesPaintCard

/-- THE TIED CARD OF 'layercakelaw3.TilesPack'. -/
def tilesPackCard : Claim7 := { stood := { row := tilesPackRow, standIns := [], harness := (true, "69dd0ef41b6f49df4e613f9217cff57e68d48ab7a97ba28d29c0d3c85453406b"), looks := true }, kinds := [], alts := [], laidByText := true, laidKinds := [.data, .data, .handle, .sentinel, .sentinel, .sentinel, .sentinel, .sentinel, .sentinel, .sentinel, .sentinel, .sentinel], laidTests := true, laidLooks := .later }
def TilesPackCardSaid : Prop := Claim7.holds Tryz.pinned (.plain (OpenSpec.ofChange tilesPackSpec)) tilesPackCard

/-- THE TIED CARD OF 'layercakelaw3.TilesRead'. -/
def tilesReadCard : Claim7 := { stood := { row := tilesReadRow, standIns := [], harness := (true, "69dd0ef41b6f49df4e613f9217cff57e68d48ab7a97ba28d29c0d3c85453406b"), looks := true }, kinds := [], alts := [], laidByText := true, laidKinds := [.data, .data, .handle, .sentinel, .sentinel, .sentinel, .sentinel, .sentinel, .sentinel, .sentinel, .sentinel, .sentinel], laidTests := true, laidLooks := .later }
def TilesReadCardSaid : Prop := Claim7.holds Tryz.pinned (.plain (OpenSpec.ofChange tilesReadSpec)) tilesReadCard

/-- THE TIED CARD OF 'layercakelaw3.TilesNil'. -/
def tilesNilCard : Claim7 := { stood := { row := tilesNilRow, standIns := [], harness := (true, "69dd0ef41b6f49df4e613f9217cff57e68d48ab7a97ba28d29c0d3c85453406b"), looks := true }, kinds := [], alts := [], laidByText := true, laidKinds := [.data, .data, .handle, .sentinel, .sentinel, .sentinel, .sentinel, .sentinel, .sentinel, .sentinel, .sentinel, .sentinel], laidTests := true, laidLooks := .later }
def TilesNilCardSaid : Prop := Claim7.holds Tryz.pinned (.plain (OpenSpec.ofChange tilesNilSpec)) tilesNilCard

/-- THE SECOND FORM's CARD OF 'layercakelaw3.TilesPaint'. -/
def tilesPaintUptoCard : Claim7 := { stood := { row := tilesPaintUptoRow, standIns := [], harness := (true, "69dd0ef41b6f49df4e613f9217cff57e68d48ab7a97ba28d29c0d3c85453406b"), looks := true }, kinds := [], alts := [], laidByText := true, laidKinds := [.handle, .sentinel, .sentinel, .sentinel, .sentinel, .sentinel, .sentinel, .sentinel, .sentinel, .sentinel], laidTests := true, laidLooks := .later }
def TilesPaintUptoCardSaid : Prop := Claim7.holds Tryz.pinned (.plain (OpenSpec.upto tilesPaintSpec)) tilesPaintUptoCard

/-- THE SECOND FORM's CARD OF 'layercakelaw3.TilesPack'. -/
def tilesPackUptoCard : Claim7 := { stood := { row := tilesPackUptoRow, standIns := [], harness := (true, "69dd0ef41b6f49df4e613f9217cff57e68d48ab7a97ba28d29c0d3c85453406b"), looks := true }, kinds := [], alts := [], laidByText := true, laidKinds := [.data, .data, .handle, .sentinel, .sentinel, .sentinel, .sentinel, .sentinel, .sentinel, .sentinel, .sentinel, .sentinel], laidTests := true, laidLooks := .later }
def TilesPackUptoCardSaid : Prop := Claim7.holds Tryz.pinned (.plain (OpenSpec.upto tilesPackSpec)) tilesPackUptoCard

/-- THE SECOND FORM's CARD OF 'layercakelaw3.TilesRead'. -/
def tilesReadUptoCard : Claim7 := { stood := { row := tilesReadUptoRow, standIns := [], harness := (true, "69dd0ef41b6f49df4e613f9217cff57e68d48ab7a97ba28d29c0d3c85453406b"), looks := true }, kinds := [], alts := [], laidByText := true, laidKinds := [.data, .data, .handle, .sentinel, .sentinel, .sentinel, .sentinel, .sentinel, .sentinel, .sentinel, .sentinel, .sentinel], laidTests := true, laidLooks := .later }
def TilesReadUptoCardSaid : Prop := Claim7.holds Tryz.pinned (.plain (OpenSpec.upto tilesReadSpec)) tilesReadUptoCard

/-- THE SECOND FORM's CARD OF 'layercakelaw3.TilesNil'. -/
def tilesNilUptoCard : Claim7 := { stood := { row := tilesNilUptoRow, standIns := [], harness := (true, "69dd0ef41b6f49df4e613f9217cff57e68d48ab7a97ba28d29c0d3c85453406b"), looks := true }, kinds := [], alts := [], laidByText := true, laidKinds := [.data, .data, .handle, .sentinel, .sentinel, .sentinel, .sentinel, .sentinel, .sentinel, .sentinel, .sentinel, .sentinel], laidTests := true, laidLooks := .later }
def TilesNilUptoCardSaid : Prop := Claim7.holds Tryz.pinned (.plain (OpenSpec.upto tilesNilSpec)) tilesNilUptoCard
end Rows
end Go.Proofs.YtcicbafdacfbpaiGreatDoor
