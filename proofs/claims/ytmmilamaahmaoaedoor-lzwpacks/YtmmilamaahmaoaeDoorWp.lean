/- A writer that holds pieces. -/
import Derived.Test.YtmmilamaahmaoaeDoorBW
import Derived.Test.YtmmilamaahmaoaeDoorBW2a
import Derived.Test.YtmmilamaahmaoaeDoorPs0
namespace Go.Proofs.YtmmilamaahmaoaeDoor
open Go.RowKit Ps

/-- A writer at block p that holds these pieces. -/
def WP (w : World) (p : Nat) (l : List Pc) : Prop := WAt w p (len l) (val l)
theorem WP.lt {w : World} {p : Nat} {l : List Pc} (h : WP w p l) : p < w.heap.size := WAt.lt h
theorem WP.row {w : World} {p : Nat} {l : List Pc} (h : WP w p l) : p ≤ rowOf w p ∧ rowOf w p < w.heap.size := WAt.row h
theorem WP.below {w w' : World} {p : Nat} {l : List Pc} (h : WP w p l) (hb : Below w.heap.size w w') : WP w' p l := WAt.below h hb
theorem WP.keep {w w' : World} {p : Nat} {l : List Pc} (h : WP w p l) (hb : Below w.heap.size w w') : Kept p w w' := Kept.of_below h hb

theorem wput_any (p : Nat) (l : List Pc) (n d : Nat) (w : World) (hW : WP w p l) (hd : d ≤ 32) (hn : n < 2 ^ d) (hc : len l + 40 ≤ 4000000) :
    Calls Tryd.prog 70 #[.pointer (some ⟨p, 0, none⟩), .int .u32 (n : Int), .int .i64 (d : Int)] w fun e w' => e = .returned .nilIface ∧ WP w' p (l ++ [(n, d)]) ∧ Kept p w w' := by
  refine (put_yes p (len l) (val l) n d w hW hd hn hc).mono ?_
  rintro e w1 ⟨rfl, hW1, hk⟩
  refine ⟨rfl, ?_, hk⟩
  show WAt _ _ _ _
  rw [len_append, val_append]
  simpa [len, val] using hW1

/-- The bytes that pieces are. -/
def textP (l : List Pc) : ByteArray := ⟨(Bt.yl ((len l + 7) / 8) (val l)).toArray⟩

theorem wtext_any (p : Nat) (l : List Pc) (w : World) (h : WP w p l) : Calls Tryd.prog 31 #[.pointer (some ⟨p, 0, none⟩)] w fun e w' => e = .returned (.string (textP l)) ∧ w' = w := text_any p _ _ w h
end Go.Proofs.YtmmilamaahmaoaeDoor
