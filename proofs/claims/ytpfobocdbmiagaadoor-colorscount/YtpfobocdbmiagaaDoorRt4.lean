/- Pictures: the functions that tell a pixel of each place: the program's. Written by genrt.py. -/
import Derived.Test.YtpfobocdbmiagaaDoorRt3
namespace Go.Proofs.YtpfobocdbmiagaaDoor
open Go.RowKit








end Go.Proofs.YtpfobocdbmiagaaDoor
