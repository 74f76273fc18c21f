/- A package's two cells: what it costs, and its symbols; a row of such in the kit's words. -/
import Derived.Test.YtogpkpjdipeiiabDoorBase
import Derived.Test.YtogpkpjdipeiiabDoorSt
import Derived.Shelf.SlSortCmp.KitK
import Derived.Sort.WalkA
import Derived.Sort.WalkB2
import Derived.Sort.WalkB12
import Derived.Deep.LoopGhost
import Derived.RegionTactic
import Derived.ChangeAlike
import Derived.BigRegion
import Derived.BigQuiet
namespace Go.Proofs.YtogpkpjdipeiiabDoor
open Go.Shelf Go.RowKit Go.Lib Go.Sort St

/-- What it costs; where its symbols lie, how many, the room. -/
abbrev PkV := Int × Option Addr × Nat × Nat
def encP (x : PkV) : List Value := [.int .i64 x.1, .slice x.2.1 x.2.2.1 x.2.2.2]
theorem encP_len (x : PkV) : (encP x).length = 2 := rfl
theorem encP_one (x : PkV) : ∀ v ∈ encP x, v.oneCell' = true := fun v hv => by simp [encP] at hv; rcases hv with rfl | rfl <;> rfl

theorem cellsP {w0 W : World} {blk off : Nat} {dk d0 : Array PkV} (h : SWK encP 2 w0 blk off dk W) (R : RowK encP 2 w0 blk off d0) (hs : dk.size = d0.size) (i : Nat) (hi : i < dk.size) :
    W.cell? ⟨blk, off + i * 2, none⟩ = some (.int .i64 (dk[i]!).1) ∧ W.cell? ⟨blk, off + i * 2 + 1, none⟩ = some (.slice (dk[i]!).2.1 (dk[i]!).2.2.1 (dk[i]!).2.2.2) ∧ W.frozen? ⟨blk, off + i * 2, none⟩ = false ∧ W.frozen? ⟨blk, off + i * 2 + 1, none⟩ = false := by
  have hh := h.holds R.hblk R.hH hs
  obtain ⟨a1, a2⟩ := HoldsK.cell hh (i := i) (c := 0) hi (by omega)
  obtain ⟨b1, b2⟩ := HoldsK.cell hh (i := i) (c := 1) hi (by omega)
  exact ⟨a1, b1, a2, b2⟩

theorem gcellsP {w0 W : World} {blk off : Nat} {dk d0 : Array PkV} (h : SWK encP 2 w0 blk off dk W) (R : RowK encP 2 w0 blk off d0) (hs : dk.size = d0.size) (i : Nat) (hi : i < dk.size) :
    (∀ n os, (grow (W.drewN n) os).cell? ⟨blk, off + i * 2, none⟩ = some (.int .i64 (dk[i]!).1)) ∧ (∀ n os, (grow (W.drewN n) os).cell? ⟨blk, off + i * 2 + 1, none⟩ = some (.slice (dk[i]!).2.1 (dk[i]!).2.2.1 (dk[i]!).2.2.2)) :=
  ⟨fun n os => (cellsP (h.grown n os) R hs i hi).1, fun n os => (cellsP (h.grown n os) R hs i hi).2.1⟩

theorem some_set {w : World} {p q : Addr} {v u : Value} (h : w.cell? q = some u) : ∃ u', (w.setCell p v).cell? q = some u' := by
  by_cases e : p = q
  · subst e; exact ⟨v, World.cell?_setCell_same _ _ _ h⟩
  · exact ⟨u, (World.cell?_setCell_other _ _ _ _ e).trans h⟩

theorem afterP {w0 W : World} {blk off : Nat} {dk d0 : Array PkV} (h : SWK encP 2 w0 blk off dk W) (R : RowK encP 2 w0 blk off d0) (hs : dk.size = d0.size) (i j : Nat) (hi : i < dk.size) (hj : j < dk.size) (v0 v1 v2 : Value) :
    ∃ u1 u2 u3, (W.setCell ⟨blk, off + i * 2, none⟩ v0).cell? ⟨blk, off + i * 2 + 1, none⟩ = some u1 ∧
      ((W.setCell ⟨blk, off + i * 2, none⟩ v0).setCell ⟨blk, off + i * 2 + 1, none⟩ v1).cell? ⟨blk, off + j * 2, none⟩ = some u2 ∧
      (((W.setCell ⟨blk, off + i * 2, none⟩ v0).setCell ⟨blk, off + i * 2 + 1, none⟩ v1).setCell ⟨blk, off + j * 2, none⟩ v2).cell? ⟨blk, off + j * 2 + 1, none⟩ = some u3 := by
  obtain ⟨_, a1, _, _⟩ := cellsP h R hs i hi
  obtain ⟨b0, b1, _, _⟩ := cellsP h R hs j hj
  obtain ⟨u1, h1⟩ := some_set (p := ⟨blk, off + i * 2, none⟩) (v := v0) a1
  obtain ⟨q1, k1⟩ := some_set (p := ⟨blk, off + i * 2, none⟩) (v := v0) b0
  obtain ⟨u2, h2⟩ := some_set (p := ⟨blk, off + i * 2 + 1, none⟩) (v := v1) k1
  obtain ⟨q2, k2⟩ := some_set (p := ⟨blk, off + i * 2, none⟩) (v := v0) b1
  obtain ⟨q3, k3⟩ := some_set (p := ⟨blk, off + i * 2 + 1, none⟩) (v := v1) k2
  obtain ⟨u3, h3⟩ := some_set (p := ⟨blk, off + j * 2, none⟩) (v := v2) k3
  exact ⟨u1, u2, u3, h1, h2, h3⟩

theorem swappedP {w0 W : World} {blk off : Nat} {dk d0 : Array PkV} (h : SWK encP 2 w0 blk off dk W) (R : RowK encP 2 w0 blk off d0) (i j : Nat) (hi : i < dk.size) (hj : j < dk.size) :
    SWK encP 2 w0 blk off (swp dk i j) ((((W.setCell ⟨blk, off + i * 2, none⟩ (.int .i64 (dk[j]!).1)).setCell ⟨blk, off + i * 2 + 1, none⟩ (.slice (dk[j]!).2.1 (dk[j]!).2.2.1 (dk[j]!).2.2.2)).setCell ⟨blk, off + j * 2, none⟩ (.int .i64 (dk[i]!).1)).setCell ⟨blk, off + j * 2 + 1, none⟩ (.slice (dk[i]!).2.1 (dk[i]!).2.2.1 (dk[i]!).2.2.2)).drew :=
  h.swapped R i j hi hj
end Go.Proofs.YtogpkpjdipeiiabDoor
