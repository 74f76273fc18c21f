/- Pictures: pixels that are meant become one color: the program's. -/
import Derived.Test.YtpfobocdbmiagaaDoorRt1
import Derived.Test.YtpfobocdbmiagaaDoorBk
namespace Go.Proofs.YtpfobocdbmiagaaDoor
open Go.RowKit

def picO (W H : Int) (a : Option Addr) (n c : Nat) : Obj := .cells #[.int .i64 W, .int .i64 H, .slice a n c] 24
def pixO (p : Px) : Obj := .cells #[.int .u8 (p.r.toNat : Int), .int .u8 (p.g.toNat : Int), .int .u8 (p.b.toNat : Int), .int .u8 (p.a.toNat : Int)] 40


end Go.Proofs.YtpfobocdbmiagaaDoor
