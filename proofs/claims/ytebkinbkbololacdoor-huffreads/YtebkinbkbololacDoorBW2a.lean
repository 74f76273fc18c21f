/- Walks of the rest of the writer of bits; the closed fact on bits. -/
import Derived.Test.YtebkinbkbololacDoorBWa
namespace Go.Proofs.YtebkinbkbololacDoor
open Go.RowKit

theorem len_any (p c N : Nat) (w : World) (hW : WAt w p c N) :
    Calls Tryd.prog 12 #[.pointer (some ⟨p, 0, none⟩)] w fun e w' => e = .returned (.int .i64 (c : Int)) ∧ w' = w := by
  have h1 := hW.count
  clear hW
  go_enter Tryd.func12, Tryd.ntmps12
  go_wp2
  go_ret
  exact ⟨rfl, rfl⟩

theorem text_any (p c N : Nat) (w : World) (hW : WAt w p c N) :
    Calls Tryd.prog 14 #[.pointer (some ⟨p, 0, none⟩)] w fun e w' => e = .returned (.string ⟨(Bt.yl ((c + 7) / 8) N).toArray⟩) ∧ w' = w := by
  obtain ⟨v, hv, hown⟩ := hW.whole
  have ht := own_text w _ _ _ _ hown
  clear hW hown
  generalize (⟨(Bt.yl ((c + 7) / 8) N).toArray⟩ : ByteArray) = s at *
  go_enter Tryd.func14, Tryd.ntmps14
  go_wp2
  go_ret
  exact ⟨rfl, rfl⟩

theorem new_writer (w : World) : WAt (w.alloc (.cells #[.slice none 0 0, .int .i64 0] 38)) w.heap.size 0 0 := by
  refine ⟨⟨.slice none 0 0, by simp, World.ownsRow_nil _ _ _ _⟩, by simp, by simp, by simp, by simp, by omega⟩
end Go.Proofs.YtebkinbkbololacDoor
