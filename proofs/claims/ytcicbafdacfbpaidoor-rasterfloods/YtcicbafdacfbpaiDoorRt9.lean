/- A pixel at a place: what the program answers. Written by genrl.py. -/
import Derived.Test.YtcicbafdacfbpaiDoorRt8
import Derived.Test.YtcicbafdacfbpaiDoorRw0
namespace Go.Proofs.YtcicbafdacfbpaiDoor
open Go.RowKit

end Go.Proofs.YtcicbafdacfbpaiDoor
