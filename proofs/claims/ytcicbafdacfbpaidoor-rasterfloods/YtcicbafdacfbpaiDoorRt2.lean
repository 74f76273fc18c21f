/- Pictures: parts, places that are near, pixels painted: the program's. -/
import Derived.Test.YtcicbafdacfbpaiDoorRt1
namespace Go.Proofs.YtcicbafdacfbpaiDoor
open Go.RowKit

theorem ret_boolR {a b : Bool} (h : a = b) : Ending.returned (.bool a) = .returned (.bool b) := by rw [h]



end Go.Proofs.YtcicbafdacfbpaiDoor
