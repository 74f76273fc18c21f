/- Pictures: the functions that tell a pixel of each place: the program's. Written by genrt.py. -/
import Derived.Test.YtcicbafdacfbpaiDoorRt3
namespace Go.Proofs.YtcicbafdacfbpaiDoor
open Go.RowKit








end Go.Proofs.YtcicbafdacfbpaiDoor
