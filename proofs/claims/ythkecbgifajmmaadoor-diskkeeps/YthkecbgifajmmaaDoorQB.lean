/- A statement that draws its order, reads, and calls functions that make memory of their own alone: walked once. -/
import Derived.Test.YthkecbgifajmmaaDoorBase
import Derived.Below
import Derived.Deep.QuietTactic
import Derived.BigQuiet
namespace Go.Proofs.YthkecbgifajmmaaDoor
open Go.RowKit

theorem below_drewN {B : Nat} {a w : World} (h : Below B a w) (n : Nat) : Below B a (w.drewN n) := h.trans ⟨rfl, rfl, rfl, Nat.le_refl _, fun _ _ => rfl⟩

/-- A world in which all that lies below B in w lies unturned. -/
structure BelowOf (B : Nat) (w : World) where
  wld : World
  prf : Below B w wld

theorem region_below {id : Nat} {Q : Exit → Act → World → Prop} {a : Act} {w : World} {l : List Oper} (B : Nat) (w0 : World) (hw : Below B w0 w) (hB : Region.lexB .any l.toArray = true)
    (h : wpQuiet Tryd.prog l.toArray (fun w' => ∃ p : BelowOf B w0, w' = p.wld) (fun a' => ∀ w', (∃ p : BelowOf B w0, w' = p.wld) → Q .normal a' w') l a) : (Code.region id l.toArray true).wp Tryd.prog Q a w :=
  wp_region_quiet (C := fun w' => ∃ p : BelowOf B w0, w' = p.wld) (by kernel_rfl) hB ⟨⟨w.drew, hw.drew⟩, rfl⟩ (by simpa using h)

theorem Calls.below_of {f : FuncId} {args : Array Value} {B : Nat} {w : World} {p : BelowOf B w} {v : Value} (hB : B ≤ w.heap.size)
    (h : Calls Tryd.prog f args p.wld fun e w' => e = .returned v ∧ Below p.wld.heap.size p.wld w') : Calls Tryd.prog f args p.wld fun e w'' => e = .returned v ∧ ∃ q : BelowOf B w, w'' = q.wld :=
  h.mono fun _ _ ⟨he, hb⟩ => ⟨he, ⟨_, p.prf.trans (hb.mono (Nat.le_trans hB p.prf.size))⟩, rfl⟩
end Go.Proofs.YthkecbgifajmmaaDoor
