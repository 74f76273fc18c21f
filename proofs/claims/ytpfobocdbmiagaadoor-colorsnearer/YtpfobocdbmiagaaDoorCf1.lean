/- How far two colors are apart: the program's and the document's. -/
import Derived.Test.YtpfobocdbmiagaaDoorCf0
import Derived.Test.YtpfobocdbmiagaaDoorPxl
import Derived.Sort.AtCall
namespace Go.Proofs.YtpfobocdbmiagaaDoor
open Go.RowKit

theorem psquared_any (a b : UInt8) (w : World) :
    Calls Tryd.prog 63 #[.int .u8 (a.toNat : Int), .int .u8 (b.toNat : Int)] w fun e w' => e = .returned (.int .i64 (sqB a b : Int)) ∧ w' = w := by
  have h1 := a.toNat_lt
  have h2 := b.toNat_lt
  have hs := sqB_int a b
  have hl := sqB_le a b
  generalize sqB a b = s at *
  generalize a.toNat = x at *
  generalize b.toNat = y at *
  have hw : IntKind.i64.wrap (((x : Int) - (y : Int)) * ((x : Int) - (y : Int))) = (s : Int) := by rw [← hs, IntKind.wrap_i64]; omega
  clear hs
  go_enter Tryd.func63, Tryd.ntmps63
  go_wp2
  go_ret
  exact ⟨by first | rfl | rw [hw], rfl⟩

set_option maxHeartbeats 600000 in
set_option maxRecDepth 100000 in
theorem papart_any (x y : Px) (w : World) :
    Calls Tryd.prog 57 #[x.val, y.val] w fun e w' => e = .returned (.int .i64 (farP x y : Int)) ∧ Below w.heap.size w w' := by
  have hb : Below w.heap.size w ((w.alloc (.cells #[.int .u8 (x.r.toNat : Int), .int .u8 (x.g.toNat : Int), .int .u8 (x.b.toNat : Int), .int .u8 (x.a.toNat : Int)] 40)).alloc (.cells #[.int .u8 (y.r.toNat : Int), .int .u8 (y.g.toNat : Int), .int .u8 (y.b.toNat : Int), .int .u8 (y.a.toNat : Int)] 40)) := ((Below.refl _ _).alloc (Nat.le_refl _) _).alloc (by simp) _
  have h1 := sqB_le x.r y.r
  have h2 := sqB_le x.g y.g
  have h3 := sqB_le x.b y.b
  have h4 := sqB_le x.a y.a
  have HB := hide hb
  have hf : (farP x y : Int) = (sqB x.r y.r : Int) + (sqB x.g y.g : Int) + (sqB x.b y.b : Int) + (sqB x.a y.a : Int) := by unfold farP; omega
  have HF := hide hf
  have C1 := hide (psquared_any x.r y.r)
  have C2 := hide (psquared_any x.g y.g)
  have C3 := hide (psquared_any x.b y.b)
  have C4 := hide (psquared_any x.a y.a)
  unfold Px.val
  generalize sqB x.r y.r = s1 at *
  generalize sqB x.g y.g = s2 at *
  generalize sqB x.b y.b = s3 at *
  generalize sqB x.a y.a = s4 at *
  clear hf hb
  generalize x.r.toNat = r1 at *
  generalize x.g.toNat = g1 at *
  generalize x.b.toNat = b1 at *
  generalize x.a.toNat = a1 at *
  generalize y.r.toNat = r2 at *
  generalize y.g.toNat = g2 at *
  generalize y.b.toNat = b2 at *
  generalize y.a.toNat = a2 at *
  go_enter Tryd.func57, Tryd.ntmps57
  go_wp2
  go_quiet (first | (go_at_call_of 63 r1; with_reducible exact Calls.quiet_of_same (unhide C1 _)) | (go_at_call_of 63 g1; with_reducible exact Calls.quiet_of_same (unhide C2 _)) | (go_at_call_of 63 b1; with_reducible exact Calls.quiet_of_same (unhide C3 _)) | (go_at_call_of 63 a1; with_reducible exact Calls.quiet_of_same (unhide C4 _)))
  go_wp2
  go_ret
  exact ⟨by rw [unhide HF]; rfl, below_drewN (unhide HB) _⟩

theorem dsquared_any (a b : UInt8) (w : World) :
    Calls Tryd.prog 46 #[.int .u8 (a.toNat : Int), .int .u8 (b.toNat : Int)] w fun e w' => e = .returned (.int .i64 (sqB a b : Int)) ∧ w' = w := by
  have h1 := a.toNat_lt
  have h2 := b.toNat_lt
  have hs := sqB_int a b
  have hl := sqB_le a b
  generalize sqB a b = s at *
  generalize a.toNat = x at *
  generalize b.toNat = y at *
  have hw : IntKind.i64.wrap (((x : Int) - (y : Int)) * ((x : Int) - (y : Int))) = (s : Int) := by rw [← hs, IntKind.wrap_i64]; omega
  clear hs
  go_enter Tryd.func46, Tryd.ntmps46
  go_wp2
  go_ret
  exact ⟨by first | rfl | rw [hw], rfl⟩

set_option maxHeartbeats 600000 in
set_option maxRecDepth 100000 in
theorem dapart_any (x y : Px) (w : World) :
    Calls Tryd.prog 35 #[x.val, y.val] w fun e w' => e = .returned (.int .i64 (farP x y : Int)) ∧ Below w.heap.size w w' := by
  have hb : Below w.heap.size w ((w.alloc (.cells #[.int .u8 (x.r.toNat : Int), .int .u8 (x.g.toNat : Int), .int .u8 (x.b.toNat : Int), .int .u8 (x.a.toNat : Int)] 40)).alloc (.cells #[.int .u8 (y.r.toNat : Int), .int .u8 (y.g.toNat : Int), .int .u8 (y.b.toNat : Int), .int .u8 (y.a.toNat : Int)] 40)) := ((Below.refl _ _).alloc (Nat.le_refl _) _).alloc (by simp) _
  have h1 := sqB_le x.r y.r
  have h2 := sqB_le x.g y.g
  have h3 := sqB_le x.b y.b
  have h4 := sqB_le x.a y.a
  have HB := hide hb
  have hf : (farP x y : Int) = (sqB x.r y.r : Int) + (sqB x.g y.g : Int) + (sqB x.b y.b : Int) + (sqB x.a y.a : Int) := by unfold farP; omega
  have HF := hide hf
  have C1 := hide (dsquared_any x.r y.r)
  have C2 := hide (dsquared_any x.g y.g)
  have C3 := hide (dsquared_any x.b y.b)
  have C4 := hide (dsquared_any x.a y.a)
  unfold Px.val
  generalize sqB x.r y.r = s1 at *
  generalize sqB x.g y.g = s2 at *
  generalize sqB x.b y.b = s3 at *
  generalize sqB x.a y.a = s4 at *
  clear hf hb
  generalize x.r.toNat = r1 at *
  generalize x.g.toNat = g1 at *
  generalize x.b.toNat = b1 at *
  generalize x.a.toNat = a1 at *
  generalize y.r.toNat = r2 at *
  generalize y.g.toNat = g2 at *
  generalize y.b.toNat = b2 at *
  generalize y.a.toNat = a2 at *
  go_enter Tryd.func35, Tryd.ntmps35
  go_wp2
  go_quiet (first | (go_at_call_of 46 r1; with_reducible exact Calls.quiet_of_same (unhide C1 _)) | (go_at_call_of 46 g1; with_reducible exact Calls.quiet_of_same (unhide C2 _)) | (go_at_call_of 46 b1; with_reducible exact Calls.quiet_of_same (unhide C3 _)) | (go_at_call_of 46 a1; with_reducible exact Calls.quiet_of_same (unhide C4 _)))
  go_wp2
  go_ret
  exact ⟨by rw [unhide HF]; rfl, below_drewN (unhide HB) _⟩
end Go.Proofs.YtpfobocdbmiagaaDoor
