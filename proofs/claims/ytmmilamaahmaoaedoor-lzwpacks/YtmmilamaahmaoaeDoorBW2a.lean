/- Walks of the rest of the writer of bits; the closed fact on bits. -/
import Derived.Test.YtmmilamaahmaoaeDoorBWa
namespace Go.Proofs.YtmmilamaahmaoaeDoor
open Go.RowKit

theorem text_any (p c N : Nat) (w : World) (hW : WAt w p c N) :
    Calls Tryd.prog 31 #[.pointer (some ⟨p, 0, none⟩)] w fun e w' => e = .returned (.string ⟨(Bt.yl ((c + 7) / 8) N).toArray⟩) ∧ w' = w := by
  obtain ⟨v, hv, hown⟩ := hW.whole
  have ht := own_text w _ _ _ _ hown
  clear hW hown
  generalize (⟨(Bt.yl ((c + 7) / 8) N).toArray⟩ : ByteArray) = s at *
  go_enter Tryd.func31, Tryd.ntmps31
  go_wp2
  go_ret
  exact ⟨rfl, rfl⟩

theorem new_writer (w : World) : WAt (w.alloc (.cells #[.slice none 0 0, .int .i64 0] 61)) w.heap.size 0 0 := by
  refine ⟨⟨.slice none 0 0, by simp, World.ownsRow_nil _ _ _ _⟩, by simp, by simp, by simp, by simp, by omega⟩
end Go.Proofs.YtmmilamaahmaoaeDoor
