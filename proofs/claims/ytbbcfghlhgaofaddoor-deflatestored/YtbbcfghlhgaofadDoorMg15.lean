/- What the row's condition on some of the project's errors gives a walk, where no type's handle is listed. What the row's condition on the reader's tables gives a walk. What the row's condition on the reader's tables gives a walk, where some errors are listed and no type's handle. -/
import Derived.Test.YtbbcfghlhgaofadDoorLaid
import Derived.Test.YtbbcfghlhgaofadDoorMg10
import Derived.Lib.LaidTab
namespace Go.Proofs.YtbbcfghlhgaofadDoor
open Go.RowKit Go.ChangeShapes

/-- The variables of these errors hold errors of errors.New's make. -/
def Told (w : World) (l : List Nat) (a : Nat → Addr) : Prop := ∀ i, i ∈ l → w.cell? ⟨sentAt i, 0, none⟩ = some (sentV a i)

theorem Told.below {w w' : World} {l : List Nat} {a : Nat → Addr} (h : Told w l a) (hb : Below w.heap.size w w') : Told w' l a := fun i hi => by
  rw [hb.cell (cell_block (h i hi))]; exact h i hi

theorem told_of_laid {W : World} {l : List (String × DataW Unit)} (is : List Nat) (pos : Nat → Nat) (h : laidMetH Tryd.prog l W) (hne : (l.filter fun x => x.2.handleName?.isSome).isEmpty = true)
    (hp : ∀ i, i ∈ is → i < 9 ∧ l[pos i]? = some (sentName i, sentD (sentText i))) : ∃ a : Nat → Addr, Told W is a := by
  have h0 : laidMet Tryd.prog l W := by
    unfold laidMetH at h
    cases hf : (l.filter fun x => x.2.handleName?.isSome) with
    | nil => rw [hf] at h; exact h
    | cons x r => rw [hf] at hne; simp at hne
  obtain ⟨ps, hv, hnd, hr⟩ := h0
  obtain ⟨ms, rfl, hms⟩ := laidVars_parts W l ps hv
  have key : ∀ i, ∃ a : Addr, i ∈ is → W.cell? ⟨sentAt i, 0, none⟩ = some (.iface 169 (.pointer (some a))) := by
    intro i
    by_cases hi : i ∈ is
    · obtain ⟨m, hm1, ho⟩ := hms _ _ (hp i hi).2
      have hsub : ∀ b off, MemPlace.cell b off ∈ m → MemPlace.cell b off ∈ ms.flatten := fun b off hb => List.mem_flatten.2 ⟨m, List.mem_of_getElem? hm1, hb⟩
      obtain ⟨a, s, h1, _⟩ := one_sent ho (sentName_at i (hp i hi).1) (sentType_at i (hp i hi).1) (fun b off hb => hr b off (hsub b off hb))
      exact ⟨a, fun _ => h1⟩
    · exact ⟨⟨0, 0, none⟩, fun h => absurd h hi⟩
  exact ⟨fun i => Classical.choose (key i), fun i hi => Classical.choose_spec (key i) hi⟩
end Go.Proofs.YtbbcfghlhgaofadDoor
namespace Go.Proofs.YtbbcfghlhgaofadDoor
open Go.RowKit Go.ChangeShapes Nf

/-- What the walks of packed texts want of the errors and the tables. -/
abbrev GlS (w : World) (a : Nat → Addr) : Prop := Gl w 169 (.pointer (some (a 0))) (.pointer (some (a 1))) (.pointer (some (a 2)))

theorem tab_of_laid {W : World} {l : List (String × DataW Unit)} (h : laidMet Tryd.prog l W) {n : String} {zs : List Int} {g : Nat} {t : TypeId} {m : Nat} (i : Nat) (hp : l[i]? = some (n, Lib.tabData .i64 zs)) (hg : Tryd.prog.globalNamed n = some g) (ht : (Tryd.prog.globals[g]?).map (·.type) = some t) (hu : Tryd.prog.underlying t = some (.array m 3)) (hct : Tryd.prog.cellsOf t = m) : Lib.TabIs Tryd.prog W n .i64 zs := by
  obtain ⟨ps, hv, hnd, hr⟩ := h
  obtain ⟨ms, rfl, hms⟩ := laidVars_parts W l ps hv
  obtain ⟨m, hm, g0, t0, cs, fuel, p, hg0, ht0, hv0, hd0, rfl⟩ := hms _ _ hp
  obtain rfl := Option.some.inj (hg.symm.trans hg0)
  obtain rfl := Option.some.inj (ht.symm.trans ht0)
  unfold Lib.TabIs
  rw [hv0, ← Lib.cells_of_tab hu Tryd.underlying3 ints_cells hct hd0]

theorem gl_of_cells {W : World} {l : List (String × DataW Unit)} {a : Nat → Addr} (h : laidMet Tryd.prog l W) (c0 : W.cell? ⟨sentAt 0, 0, none⟩ = some (sentV a 0)) (c1 : W.cell? ⟨sentAt 1, 0, none⟩ = some (sentV a 1)) (c2 : W.cell? ⟨sentAt 2, 0, none⟩ = some (sentV a 2)) (i2 i3 : Nat)
    (h2 : l[i2]? = some ("layercake/block.lengthFrom", Lib.tabData .i64 (lens.map Int.ofNat)))
    (h3 : l[i3]? = some ("layercake/block.distanceFrom", Lib.tabData .i64 (dists.map Int.ofNat))) : GlS W a := by
  have k2 := tab_of_laid (t := 148) h i2 h2 (g := 10) (by kernel_rfl) (by kernel_rfl) Tryd.underlying148 (by kernel_rfl)
  have k3 := tab_of_laid (t := 149) h i3 h3 (g := 11) (by kernel_rfl) (by kernel_rfl) Tryd.underlying149 (by kernel_rfl)
  have key : ∀ (l : List Nat) (i : Nat), i < l.length → (l.map Int.ofNat).getD i 0 = ((l.getD i 0 : Nat) : Int) := fun l i hi => by
    simp [List.getElem?_eq_getElem hi]
  refine ⟨c0, c1, c2, fun i hi => ?_, fun i hi => ?_⟩
  · rw [k2.cell (by kernel_rfl) i hi, key lens i hi]
  · rw [k3.cell (by kernel_rfl) i hi, key dists i hi]
theorem gl_of_laid {W : World} {l : List (String × DataW Unit)} {a : Nat → Addr} (h : laidMet Tryd.prog l W) (hS : Sent W a) (i2 i3 : Nat)
    (h2 : l[i2]? = some ("layercake/block.lengthFrom", Lib.tabData .i64 (lens.map Int.ofNat)))
    (h3 : l[i3]? = some ("layercake/block.distanceFrom", Lib.tabData .i64 (dists.map Int.ofNat))) : GlS W a := gl_of_cells h (hS.cell 0 (by omega)) (hS.cell 1 (by omega)) (hS.cell 2 (by omega)) i2 i3 h2 h3
end Go.Proofs.YtbbcfghlhgaofadDoor
namespace Go.Proofs.YtbbcfghlhgaofadDoor
open Go.RowKit Go.ChangeShapes Nf

theorem gl_of_told {W : World} {l : List (String × DataW Unit)} {a : Nat → Addr} {is : List Nat} (h : laidMetH Tryd.prog l W) (hne : (l.filter fun x => x.2.handleName?.isSome).isEmpty = true) (hT : Told W is a) (hi : 0 ∈ is ∧ 1 ∈ is ∧ 2 ∈ is) (i2 i3 : Nat)
    (h2 : l[i2]? = some ("layercake/block.lengthFrom", Lib.tabData .i64 (lens.map Int.ofNat)))
    (h3 : l[i3]? = some ("layercake/block.distanceFrom", Lib.tabData .i64 (dists.map Int.ofNat))) : GlS W a := by
  have h0 : laidMet Tryd.prog l W := by
    unfold laidMetH at h
    cases hf : (l.filter fun x => x.2.handleName?.isSome) with
    | nil => rw [hf] at h; exact h
    | cons x r => rw [hf] at hne; simp at hne
  exact gl_of_cells h0 (hT 0 hi.1) (hT 1 hi.2.1) (hT 2 hi.2.2) i2 i3 h2 h3
end Go.Proofs.YtbbcfghlhgaofadDoor
