/- Half of white over black: a closed fact of the statements on pixels. -/
import Derived.Test.YtaghndongffafagDoorOv4
namespace Go.Proofs.YtaghndongffafagDoor
open Go.RowKit

theorem half_is : overP 0 ⟨255, 255, 255, 128⟩ ⟨0, 0, 0, 255⟩ = ⟨128, 128, 128, 255⟩ := by decide

set_option maxHeartbeats 2000000 in
set_option maxRecDepth 100000 in
theorem half_any (w : World) :
    Calls Tryd.prog 7 #[] w fun e w' => e = .returned (.bool true) ∧ Below w.heap.size w w' := by
  have HV := over_any 0 ⟨255, 255, 255, 128⟩ ⟨0, 0, 0, 255⟩ w (by omega)
  rw [half_is] at HV
  have HC : Hid (Calls Tryd.prog 8 #[.int .i64 0, .agg #[.int .u8 255, .int .u8 255, .int .u8 255, .int .u8 128], .agg #[.int .u8 0, .int .u8 0, .int .u8 0, .int .u8 255]] w fun e w' => e = .returned (.tuple #[.agg #[.int .u8 128, .int .u8 128, .int .u8 128, .int .u8 255], .nilIface]) ∧ Below w.heap.size w w') := HV
  clear HV
  go_enter Tryd.func7, Tryd.ntmps7
  go_wp2_with fail
  refine (unhide HC).mono ?_
  rintro e w1 ⟨rfl, hb1⟩
  have HB := hide hb1
  clear hb1 HC
  go_wp2
  go_ret
  exact ⟨rfl, (unhide HB).alloc (unhide HB).size _⟩

/-- A pixel's cells, as a pixel. -/
abbrev QP (w : World) (k : Nat) (p : Px) : Prop := Q4 w k p.r.toNat p.g.toNat p.b.toNat p.a.toNat
def pxO (p : Px) : Obj := .cells #[.int .u8 (p.r.toNat : Int), .int .u8 (p.g.toNat : Int), .int .u8 (p.b.toNat : Int), .int .u8 (p.a.toNat : Int)] 23
theorem pxO_new (w : World) (p : Px) : QP (w.alloc (pxO p)) w.heap.size p := q4_new w _ _ _ _
theorem px_ext {p q : Px} (h1 : p.r = q.r) (h2 : p.g = q.g) (h3 : p.b = q.b) (h4 : p.a = q.a) : p = q := by cases p; cases q; simp_all
end Go.Proofs.YtaghndongffafagDoor
