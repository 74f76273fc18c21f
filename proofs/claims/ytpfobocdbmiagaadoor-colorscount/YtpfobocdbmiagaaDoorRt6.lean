/- Pictures: what the functions of package raster refuse as out of bounds. Written by genrt5.py. -/
import Derived.Test.YtpfobocdbmiagaaDoorRt5
namespace Go.Proofs.YtpfobocdbmiagaaDoor
open Go.RowKit

theorem rightN {W H n : Nat} (hW0 : 1 ≤ W) (hW : W ≤ 256) (hH0 : 1 ≤ H) (hH : H ≤ 256) (hn : n = W * H) : RightP (W : Int) (H : Int) n := ⟨by omega, by omega, by rw [hn]; simp⟩
/-- Near. -/
def Nr (z : Int) : Prop := -10000 ≤ z ∧ z ≤ 10000
instance (z : Int) : Decidable (Nr z) := by unfold Nr; infer_instance










end Go.Proofs.YtpfobocdbmiagaaDoor
