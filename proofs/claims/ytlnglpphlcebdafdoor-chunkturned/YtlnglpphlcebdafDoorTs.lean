/- One byte more of a text. -/
import Derived.Test.YtlnglpphlcebdafDoorChecked
import Derived.Test.YtlnglpphlcebdafDoorBase
import Derived.WalkKit
import Derived.WalkLawsBesides
import Derived.WalkSpells
import Derived.Handy
import Derived.Laws.BitsAllLaws
import Derived.Laws.Shifts
import Derived.Deep.LoopGhost
namespace Go.Proofs.YtlnglpphlcebdafDoor
open Go.RowKit

theorem take_snoc (s : ByteArray) (k : Nat) (h : k < s.size) : s.data.toList.take (k + 1) = s.data.toList.take k ++ [s[k]] := by
  rw [List.take_succ_eq_append_getElem (by simpa using h)]; rfl
end Go.Proofs.YtlnglpphlcebdafDoor
