/- Pictures: what the functions of package raster refuse. Written by genrt5.py. -/
import Derived.Test.YtpfobocdbmiagaaDoorMg1
import Derived.Test.YtpfobocdbmiagaaDoorRt4
namespace Go.Proofs.YtpfobocdbmiagaaDoor
open Go.RowKit

theorem far3 (w : World) (k b o : Nat) (v1 v2 v3 : Value) (h : k ≠ b) : (((w.setCell ⟨k, 0, none⟩ v1).setCell ⟨k, 1, none⟩ v2).setCell ⟨k, 2, none⟩ v3).cell? ⟨b, o, none⟩ = w.cell? ⟨b, o, none⟩ := by
  rw [World.cell?_setCell_far _ _ _ _ h, World.cell?_setCell_far _ _ _ _ h, World.cell?_setCell_far _ _ _ _ h]










end Go.Proofs.YtpfobocdbmiagaaDoor
