/- Pictures: what the functions of package raster answer. Written by genrt5.py. -/
import Derived.Test.YtpfobocdbmiagaaDoorRt6
namespace Go.Proofs.YtpfobocdbmiagaaDoor
open Go.RowKit











end Go.Proofs.YtpfobocdbmiagaaDoor
