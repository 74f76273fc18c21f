/- What a walk is told of a slice of pieces of bits that came in. -/
import Derived.Test.YtpdbkolbbkbbnabDoorChecked
import Derived.WalkKit
import Derived.ProofKit
import Derived.OpenShut
import Derived.ChangeArms
import Derived.Lib.SmallJoins
import Derived.Deep.Slices
namespace Go.Proofs.YtpdbkolbbkbbnabDoor
open Go.ChangeShapes Go.WideShapes Go.RowKit Go.Deep

/-- It is empty; or it leads to a row of pieces: a number, a width, and two words yes or no. -/
def IsPieces (w : World) (a : Option Addr) (len : Nat) (pn : Nat → Nat) (pw : Nat → Int) (pt pa : Nat → Bool) : Prop :=
  len = 0 ∨ ∃ b off, a = some ⟨b, off, none⟩ ∧ len ≤ maxLen ∧ ∀ i, i < len →
    w.cell? ⟨b, off + i * 4, none⟩ = some (.int .u32 (pn i : Nat)) ∧ w.cell? ⟨b, off + i * 4 + 1, none⟩ = some (.int .i64 (pw i)) ∧
    w.cell? ⟨b, off + i * 4 + 2, none⟩ = some (.bool (pt i)) ∧ w.cell? ⟨b, off + i * 4 + 3, none⟩ = some (.bool (pa i)) ∧
    pn i < 4294967296 ∧ -9223372036854775808 ≤ pw i ∧ pw i ≤ 9223372036854775807

theorem pieces_cells : Tryd.prog.cellsOf 30 = 4 := by kernel_rfl
theorem cells_u32 : Tryd.prog.cellsOf 28 = 1 := by kernel_rfl
theorem cells_int : Tryd.prog.cellsOf 3 = 1 := by kernel_rfl
theorem cells_bool : Tryd.prog.cellsOf 4 = 1 := by kernel_rfl

theorem four_of {α : Type} (l : List α) (h : l.length = 4) : ∃ a b c d, l = [a, b, c, d] :=
  match l, h with
  | [a, b, c, d], _ => ⟨a, b, c, d, rfl⟩

theorem open_pieces {H : Type} {enc : TypeId × Value → H} {w : World} {base : Nat} {spare : Nat → Bool} {held : Bool} {fuel : Nat} {a : Option Addr} {len cap : Nat} {x : DataW H × List MemPlace}
    (h : DataW.trod enc Tryd.prog w base spare held fuel 22 [.slice a len cap] = some x) :
    ∃ (pn : Nat → Nat) (pw : Nat → Int) (pt pa : Nat → Bool), IsPieces w a len pn pw pt pa := by
  rcases open_slice Tryd.underlying22 h with ⟨hcs, _⟩ | ⟨x, l, c, m, n, D, Pl, hcs, _, hl, hm, hmm, _, hx⟩
  · simp at hcs
    exact ⟨fun _ => 0, fun _ => 0, fun _ => true, fun _ => true, .inl hcs.2.1⟩
  simp at hcs
  obtain ⟨rfl, rfl, rfl⟩ := hcs
  have hlm : len ≤ m := by rw [hmm]; split <;> omega
  by_cases h0 : len = 0
  · exact ⟨fun _ => 0, fun _ => 0, fun _ => true, fun _ => true, .inl h0⟩
  have each : ∀ i, i < len → ∃ q : Nat × Int × Bool × Bool, w.cell? (x.add (4 * i)) = some (.int .u32 (q.1 : Nat)) ∧ w.cell? (x.add (4 * i + 1)) = some (.int .i64 q.2.1) ∧
      w.cell? (x.add (4 * i + 2)) = some (.bool q.2.2.1) ∧ w.cell? (x.add (4 * i + 3)) = some (.bool q.2.2.2) ∧ q.1 < 4294967296 ∧ -9223372036854775808 ≤ q.2.1 ∧ q.2.1 ≤ 9223372036854775807 := by
    intro i hi
    obtain ⟨cs', h1, h2⟩ := hx i (by omega)
    rw [pieces_cells] at h1
    obtain ⟨_, hlen, hcell⟩ := World.cells?_some h1
    obtain ⟨y0, y1, y2, y3, k, _, _, g0, g1, g2, g3⟩ := Joins.trod_struct4 Tryd.underlying30 h2
    obtain ⟨v0, v1, v2, v3, rfl⟩ := four_of cs' hlen
    · simp [cells_u32, cells_int, cells_bool] at g0 g1 g2 g3
      obtain ⟨n0, e0, _, wf0⟩ := DataW.trod_int Tryd.underlying28 g0
      obtain ⟨n1, e1, _, wf1⟩ := DataW.trod_int Tryd.underlying3 g1
      obtain ⟨b2, e2, _⟩ := DataW.trod_bool Tryd.underlying4 g2
      obtain ⟨b3, e3, _⟩ := DataW.trod_bool Tryd.underlying4 g3
      simp at e0 e1 e2 e3
      subst e0 e1 e2 e3
      have k0 := hcell 0 (by omega)
      have k1 := hcell 1 (by omega)
      have k2 := hcell 2 (by omega)
      have k3 := hcell 3 (by omega)
      rw [add_add, Nat.mul_comm] at k0 k1 k2 k3
      have u0 := bounds_u32 wf0
      have u1 := bounds_i64 wf1
      obtain ⟨m0, rfl⟩ := Int.eq_ofNat_of_zero_le u0.1
      exact ⟨(m0, n1, b2, b3), by simpa using k0, by simpa using k1, by simpa using k2, by simpa using k3, by omega, by show -9223372036854775808 ≤ n1; omega, by show n1 ≤ 9223372036854775807; omega⟩
  obtain ⟨q, hq⟩ := choose_lt each
  obtain ⟨b, off, spot⟩ := x
  have hspot : spot = none := by
    have := (hq 0 (by omega)).1
    simpa [Addr.add] using World.cell?_spot this
  subst hspot
  refine ⟨fun i => (q i).1, fun i => (q i).2.1, fun i => (q i).2.2.1, fun i => (q i).2.2.2, .inr ⟨b, off, rfl, by omega, fun i hi => ?_⟩⟩
  have hadd : ∀ j, (⟨b, off, none⟩ : Addr).add j = ⟨b, off + j, none⟩ := fun j => by unfold Addr.add; split <;> simp_all
  have := hq i hi
  simpa [hadd, Nat.add_assoc, Nat.mul_comm] using this

end Go.Proofs.YtpdbkolbbkbbnabDoor
