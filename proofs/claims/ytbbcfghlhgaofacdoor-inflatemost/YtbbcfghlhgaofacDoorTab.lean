/- What the row's condition on the reader's tables gives a walk. -/
import Derived.Test.YtbbcfghlhgaofacDoorMg7
import Derived.Test.YtbbcfghlhgaofacDoorMg5
import Derived.Lib.LaidTab
namespace Go.Proofs.YtbbcfghlhgaofacDoor
open Go.RowKit Go.ChangeShapes Nf

/-- What the walks of packed texts want of the errors and the tables. -/
abbrev GlS (w : World) (a : Nat → Addr) : Prop := Gl w 153 (.pointer (some (a 0))) (.pointer (some (a 1))) (.pointer (some (a 2)))

theorem tab_of_laid {W : World} {l : List (String × DataW Unit)} (h : laidMet Tryd.prog l W) {n : String} {zs : List Int} {g : Nat} {t : TypeId} {m : Nat} (i : Nat) (hp : l[i]? = some (n, Lib.tabData .i64 zs)) (hg : Tryd.prog.globalNamed n = some g) (ht : (Tryd.prog.globals[g]?).map (·.type) = some t) (hu : Tryd.prog.underlying t = some (.array m 3)) (hct : Tryd.prog.cellsOf t = m) : Lib.TabIs Tryd.prog W n .i64 zs := by
  obtain ⟨ps, hv, hnd, hr⟩ := h
  obtain ⟨ms, rfl, hms⟩ := laidVars_parts W l ps hv
  obtain ⟨m, hm, g0, t0, cs, fuel, p, hg0, ht0, hv0, hd0, rfl⟩ := hms _ _ hp
  obtain rfl := Option.some.inj (hg.symm.trans hg0)
  obtain rfl := Option.some.inj (ht.symm.trans ht0)
  unfold Lib.TabIs
  rw [hv0, ← Lib.cells_of_tab hu Tryd.underlying3 ints_cells hct hd0]

theorem gl_of_laid {W : World} {l : List (String × DataW Unit)} {a : Nat → Addr} (h : laidMet Tryd.prog l W) (hS : Sent W a) (i2 i3 : Nat)
    (h2 : l[i2]? = some ("layercake/block.lengthFrom", Lib.tabData .i64 (lens.map Int.ofNat)))
    (h3 : l[i3]? = some ("layercake/block.distanceFrom", Lib.tabData .i64 (dists.map Int.ofNat))) : GlS W a := by
  have k2 := tab_of_laid (t := 146) h i2 h2 (g := 10) (by kernel_rfl) (by kernel_rfl) Tryd.underlying146 (by kernel_rfl)
  have k3 := tab_of_laid (t := 147) h i3 h3 (g := 11) (by kernel_rfl) (by kernel_rfl) Tryd.underlying147 (by kernel_rfl)
  have key : ∀ (l : List Nat) (i : Nat), i < l.length → (l.map Int.ofNat).getD i 0 = ((l.getD i 0 : Nat) : Int) := fun l i hi => by
    simp [List.getElem?_eq_getElem hi]
  refine ⟨hS.cell 0 (by omega), hS.cell 1 (by omega), hS.cell 2 (by omega), fun i hi => ?_, fun i hi => ?_⟩
  · rw [k2.cell (by kernel_rfl) i hi, key lens i hi]
  · rw [k3.cell (by kernel_rfl) i hi, key dists i hi]
end Go.Proofs.YtbbcfghlhgaofacDoor
