/-
  DERIVED. GIVEN WITH THE SEED: THE CARDS: each row of YtjcoahahponabaaDoorRows.lean that lists a variable, with what it lists TIED to the program's text (the seventh form; the later family's looks); each row that meets fmt, with fmt's text TOLD by the authors' own Lean function (tested against real Go, not proved from fmt's source: count such statements apart). THE CARD IS WHAT COUNTS. Prove the row's statement (the work); the ties are given (YtjcoahahponabaaDoorTie.lean); close each card by the builder's one call (the guide's Derived/Test/ToyasCard.lean, 'card_holds'). Laid BY PROGRAM, IN A SANDBOX (cutbox-door.mjs). By AI agents, Wed Nov 11 2026. No macro, syntax, notation, axiom, sorry.
-/
import Derived.Test.YtjcoahahponabaaDoorRows
import GoSem.ClaimSeven
namespace Go.Proofs.YtjcoahahponabaaDoor
namespace Rows

/-- THE TIED CARD OF 'layercakelaw3.GifTwice'. -/
def gifTwiceCard : Claim7 := { stood := { row := gifTwiceRow, standIns := [], harness := (true, "7a2bceec879193808a7e0078f7af31393aeb42c320c0b360503a1a958b86fe26"), looks := true }, kinds := [], alts := [], laidByText := true, laidKinds := [.sentinel, .sentinel, .sentinel, .sentinel], laidTests := true, laidLooks := .later }
def GifTwiceCardSaid : Prop := Claim7.holds Tryd.pinned (.plain (OpenSpec.ofChange gifTwiceSpec)) gifTwiceCard

/-- THE SECOND FORM's CARD OF 'layercakelaw3.GifTwice'. -/
def gifTwiceUptoCard : Claim7 := { stood := { row := gifTwiceUptoRow, standIns := [], harness := (true, "7a2bceec879193808a7e0078f7af31393aeb42c320c0b360503a1a958b86fe26"), looks := true }, kinds := [], alts := [], laidByText := true, laidKinds := [.sentinel, .sentinel, .sentinel, .sentinel], laidTests := true, laidLooks := .later }
def GifTwiceUptoCardSaid : Prop := Claim7.holds Tryd.pinned (.plain (OpenSpec.upto gifTwiceSpec)) gifTwiceUptoCard
end Rows
end Go.Proofs.YtjcoahahponabaaDoor
