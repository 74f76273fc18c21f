/- Pictures: the program's small tests, and a pixel at a place. -/
import Derived.Test.YtpfobocdbmiagaaDoorSh
import Derived.Test.YtpfobocdbmiagaaDoorRt0
import Derived.Test.YtpfobocdbmiagaaDoorQf
import Derived.Test.YtpfobocdbmiagaaDoorRs
namespace Go.Proofs.YtpfobocdbmiagaaDoor
open Go.RowKit



theorem below_two (w : World) (o o2 : Obj) : Below w.heap.size w ((w.alloc o).alloc o2) := ((Below.refl _ _).alloc (Nat.le_refl _) _).alloc (by simp) _

end Go.Proofs.YtpfobocdbmiagaaDoor
