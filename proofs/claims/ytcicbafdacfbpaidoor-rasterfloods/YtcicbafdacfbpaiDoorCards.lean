/-
  DERIVED. GIVEN WITH THE SEED: THE CARDS: each row of YtcicbafdacfbpaiDoorRows.lean that lists a variable, with what it lists TIED to the program's text (the seventh form; the later family's looks); each row that meets fmt, with fmt's text TOLD by the authors' own Lean function (tested against real Go, not proved from fmt's source: count such statements apart). THE CARD IS WHAT COUNTS. Prove the row's statement (the work); the ties are given (YtcicbafdacfbpaiDoorTie.lean); close each card by the builder's one call (the guide's Derived/Test/ToyasCard.lean, 'card_holds'). Laid BY PROGRAM, IN A SANDBOX (cutbox-door.mjs). By AI agents, Wed Nov 11 2026. No macro, syntax, notation, axiom, sorry.
-/
import Derived.Test.YtcicbafdacfbpaiDoorRows
import GoSem.ClaimSeven
namespace Go.Proofs.YtcicbafdacfbpaiDoor
namespace Rows

/-- THE TIED CARD OF 'layercakelaw2.RasterFloods'. -/
def rasterFloodsCard : Claim7 := { stood := { row := rasterFloodsRow, standIns := [], harness := (true, "ededf3e74add9cabe6a7373b0e37a25900cf4f2a52fa07f3b9d7c3eb2b9cfd38"), looks := true }, kinds := [], alts := [], laidByText := true, laidKinds := [.handle, .sentinel, .sentinel, .sentinel, .sentinel, .sentinel, .sentinel, .sentinel, .sentinel, .sentinel], laidTests := true, laidLooks := .later }
def RasterFloodsCardSaid : Prop := Claim7.holds Tryd.pinned (.plain (OpenSpec.ofChange rasterFloodsSpec)) rasterFloodsCard

/-- THE TIED CARD OF 'layercakelaw3.TilesOf'. -/
def tilesOfCard : Claim7 := { stood := { row := tilesOfRow, standIns := [], harness := (true, "ededf3e74add9cabe6a7373b0e37a25900cf4f2a52fa07f3b9d7c3eb2b9cfd38"), looks := true }, kinds := [], alts := [], laidByText := true, laidKinds := [.handle, .sentinel, .sentinel, .sentinel, .sentinel, .sentinel, .sentinel, .sentinel, .sentinel, .sentinel], laidTests := true, laidLooks := .later }
def TilesOfCardSaid : Prop := Claim7.holds Tryd.pinned (.plain (OpenSpec.ofChange tilesOfSpec)) tilesOfCard

/-- THE SECOND FORM's CARD OF 'layercakelaw2.RasterFloods'. -/
def rasterFloodsUptoCard : Claim7 := { stood := { row := rasterFloodsUptoRow, standIns := [], harness := (true, "ededf3e74add9cabe6a7373b0e37a25900cf4f2a52fa07f3b9d7c3eb2b9cfd38"), looks := true }, kinds := [], alts := [], laidByText := true, laidKinds := [.handle, .sentinel, .sentinel, .sentinel, .sentinel, .sentinel, .sentinel, .sentinel, .sentinel, .sentinel], laidTests := true, laidLooks := .later }
def RasterFloodsUptoCardSaid : Prop := Claim7.holds Tryd.pinned (.plain (OpenSpec.upto rasterFloodsSpec)) rasterFloodsUptoCard

/-- THE SECOND FORM's CARD OF 'layercakelaw3.TilesOf'. -/
def tilesOfUptoCard : Claim7 := { stood := { row := tilesOfUptoRow, standIns := [], harness := (true, "ededf3e74add9cabe6a7373b0e37a25900cf4f2a52fa07f3b9d7c3eb2b9cfd38"), looks := true }, kinds := [], alts := [], laidByText := true, laidKinds := [.handle, .sentinel, .sentinel, .sentinel, .sentinel, .sentinel, .sentinel, .sentinel, .sentinel, .sentinel], laidTests := true, laidLooks := .later }
def TilesOfUptoCardSaid : Prop := Claim7.holds Tryd.pinned (.plain (OpenSpec.upto tilesOfSpec)) tilesOfUptoCard
end Rows
end Go.Proofs.YtcicbafdacfbpaiDoor
