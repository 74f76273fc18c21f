/- What a walk is told of a slice of steps that came in. -/
import Derived.Test.YtkdckcengmkhhajDoorChecked
import Derived.WalkKit
import Derived.ProofKit
import Derived.OpenShut
import Derived.ChangeArms
import Derived.ChangeSame
import Derived.Lib.SmallJoins
import Derived.Deep.Slices
namespace Go.Proofs.YtkdckcengmkhhajDoor
open Go.ChangeShapes Go.WideShapes Go.RowKit Go.Deep

/-- It is empty; or it leads to a row of steps: a kind and a number. -/
def IsSteps (w : World) (a : Option Addr) (len : Nat) (k x : Nat → Int) : Prop :=
  len = 0 ∨ ∃ b off, a = some ⟨b, off, none⟩ ∧ len ≤ maxLen ∧ ∀ i, i < len →
    w.cell? ⟨b, off + i * 2, none⟩ = some (.int .i64 (k i)) ∧ w.cell? ⟨b, off + i * 2 + 1, none⟩ = some (.int .i64 (x i))

theorem IsSteps.below {w w' : World} {a : Option Addr} {len : Nat} {k x : Nat → Int} (h : IsSteps w a len k x) (hb : Below w.heap.size w w') : IsSteps w' a len k x := by
  rcases h with h | ⟨b, off, ha, hl, h⟩
  · exact .inl h
  · refine .inr ⟨b, off, ha, hl, fun i hi => ⟨?_, ?_⟩⟩
    · have h1 := (h i hi).1
      rw [hb.cell (World.block_lt_of_cell? _ _ h1)]; exact h1
    · have h1 := (h i hi).2
      rw [hb.cell (World.block_lt_of_cell? _ _ h1)]; exact h1

theorem steps_cells : Tryd.prog.cellsOf 65 = 2 := by kernel_rfl
theorem stp_int : Tryd.prog.cellsOf 3 = 1 := by kernel_rfl

theorem two_of {α : Type} (l : List α) (h : l.length = 2) : ∃ a b, l = [a, b] :=
  match l, h with
  | [a, b], _ => ⟨a, b, rfl⟩

theorem open_steps {H : Type} {enc : TypeId × Value → H} {w : World} {base : Nat} {spare : Nat → Bool} {held : Bool} {fuel : Nat} {a : Option Addr} {len cap : Nat} {x : DataW H × List MemPlace}
    (h : DataW.trod enc Tryd.prog w base spare held fuel 59 [.slice a len cap] = some x) :
    ∃ (k n : Nat → Int), IsSteps w a len k n := by
  rcases open_slice Tryd.underlying59 h with ⟨hcs, _⟩ | ⟨x, l, c, m, n, D, Pl, hcs, _, hl, hm, hmm, _, hx⟩
  · simp at hcs
    exact ⟨fun _ => 0, fun _ => 0, .inl hcs.2.1⟩
  simp at hcs
  obtain ⟨rfl, rfl, rfl⟩ := hcs
  have hlm : len ≤ m := by rw [hmm]; split <;> omega
  by_cases h0 : len = 0
  · exact ⟨fun _ => 0, fun _ => 0, .inl h0⟩
  have each : ∀ i, i < len → ∃ q : Int × Int, w.cell? (x.add (2 * i)) = some (.int .i64 q.1) ∧ w.cell? (x.add (2 * i + 1)) = some (.int .i64 q.2) := by
    intro i hi
    obtain ⟨cs', h1, h2⟩ := hx i (by omega)
    rw [steps_cells] at h1
    obtain ⟨_, hlen, hcell⟩ := World.cells?_some h1
    obtain ⟨y0, y1, k, _, _, g0, g1⟩ := trod_struct2 Tryd.underlying65 h2
    obtain ⟨v0, v1, rfl⟩ := two_of cs' hlen
    simp [stp_int] at g0 g1
    obtain ⟨n0, e0, _, _⟩ := DataW.trod_int Tryd.underlying3 g0
    obtain ⟨n1, e1, _, _⟩ := DataW.trod_int Tryd.underlying3 g1
    simp at e0 e1
    subst e0 e1
    have k0 := hcell 0 (by omega)
    have k1 := hcell 1 (by omega)
    rw [add_add, Nat.mul_comm] at k0 k1
    exact ⟨(n0, n1), by simpa using k0, by simpa using k1⟩
  obtain ⟨q, hq⟩ := choose_lt each
  obtain ⟨b, off, spot⟩ := x
  have hspot : spot = none := by
    have := (hq 0 (by omega)).1
    simpa [Addr.add] using World.cell?_spot this
  subst hspot
  refine ⟨fun i => (q i).1, fun i => (q i).2, .inr ⟨b, off, rfl, by omega, fun i hi => ?_⟩⟩
  have hadd : ∀ j, (⟨b, off, none⟩ : Addr).add j = ⟨b, off + j, none⟩ := fun j => by unfold Addr.add; split <;> simp_all
  have := hq i hi
  simpa [hadd, Nat.add_assoc, Nat.mul_comm] using this

end Go.Proofs.YtkdckcengmkhhajDoor
