/- Small handles. -/
import Derived.Test.YthkecbgifajmmaaDoorChecked
import Derived.WalkKit
namespace Go.Proofs.YthkecbgifajmmaaDoor
open Go.RowKit

theorem hide {p : Prop} (h : p) : Hid p := h
theorem unhide {p : Prop} (h : Hid p) : p := h
theorem ret_int {k : IntKind} {a b : Int} (h : a = b) : Ending.returned (.int k a) = .returned (.int k b) := by rw [h]
end Go.Proofs.YthkecbgifajmmaaDoor
