/- Places that are near: the program's. Pictures: parts, places that are near, pixels painted: the program's. -/
import Derived.Test.YtpfobocdbmiagaaDoorSh
import Derived.Test.YtpfobocdbmiagaaDoorRt1
namespace Go.Proofs.YtpfobocdbmiagaaDoor
open Go.RowKit

theorem ret_boolR {a b : Bool} (h : a = b) : Ending.returned (.bool a) = .returned (.bool b) := by rw [h]

end Go.Proofs.YtpfobocdbmiagaaDoor
namespace Go.Proofs.YtpfobocdbmiagaaDoor
open Go.RowKit




end Go.Proofs.YtpfobocdbmiagaaDoor
