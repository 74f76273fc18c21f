/- A map of the call's own whose keys are three bytes. -/
import Derived.Test.YtlnglpphlcebdadDoorBase
import Derived.Maps.Own
import Derived.Maps.OwnSet
import Derived.Maps.Views
import Derived.DeepKeys4
namespace Go.Proofs.YtlnglpphlcebdadDoor
open Go.RowKit Go.Maps

theorem laidOut3 : laidOutB Tryd.prog = true := by kernel_rfl
theorem keyed3 : Keyed Tryd.prog 75 := Keyed.of_law (deep_law_laid laidOut3 (m := 2) (by omega) (of_decide_eq_true (by kernel_rfl)) (by kernel_rfl) (by rw [Tryd.underlying75]))
def keyV (x y z : Nat) : Value := .agg #[.int .u8 (x : Int), .int .u8 (y : Int), .int .u8 (z : Int)]
theorem cells3 : Tryd.prog.cellsOf 75 = 3 := by kernel_rfl
theorem cells1 : Tryd.prog.cellsOf 5 = 1 := by kernel_rfl
theorem keyT3 : Tryd.prog.keyType 75 = true := by kernel_rfl
theorem key3 (x y z : Nat) (hx : x < 256) (hy : y < 256) (hz : z < 256) : ∃ kl, keyOf Tryd.prog 75 (keyV x y z) = some kl := by
  have hf : (keyV x y z).formed Tryd.prog 75 = true := by simp [keyV, Value.formed, Tryd.underlying75, cells3]
  unfold keyOf
  rw [Tryd.underlying75]
  simp only [keyT3, hf, Bool.and_self, if_true]
  obtain ⟨m, hm⟩ : ∃ m, Tryd.prog.types.size = m + 1 := ⟨Tryd.prog.types.size - 1, by
    have : 0 < Tryd.prog.types.size := of_decide_eq_true (by kernel_rfl)
    omega⟩
  rw [hm]
  have wf8 : ∀ x : Nat, x < 256 → (Lit.int .u8 (x : Int)).wf = true := fun x hx => by
    have key : ∀ x : Fin 256, (Lit.int .u8 ((x.val : Nat) : Int)).wf = true := by decide +kernel
    exact key ⟨x, hx⟩
  have hr : List.range 3 = [0, 1, 2] := rfl
  simp [Program.keyLits, Tryd.underlying75, Tryd.underlying5, keyV, Value.cells, cells1, cells3, hr, wf8 x hx, wf8 y hy, wf8 z hz]

/-- The map at block bm tells f. -/
def LM (w : World) (bm nn : Nat) (f : Nat → Nat → Nat → Nat) : Prop :=
  ∃ D : DataW Unit, w.ownsMap Tryd.prog 75 (plainElem Tryd.prog 3) bm nn D ∧ ∀ x y z, x < 256 → y < 256 → z < 256 → ∀ kl, keyOf Tryd.prog 75 (keyV x y z) = some kl → D.atKey kl (.lit (.int .i64 0)) = .lit (.int .i64 (f x y z : Nat))

theorem LM.made (w : World) : LM (w.alloc (.map #[] 0)) w.heap.size 0 (fun _ _ _ => 0) := ⟨.map [], World.ownsMap_made _ _ _ _, fun _ _ _ _ _ _ _ _ => rfl⟩
theorem LM.kept {w w' : World} {bm nn : Nat} {f : Nat → Nat → Nat → Nat} {row : Option Nat} (h : LM w bm nn f) (hg : w.grownBy w' row) (hne : some bm ≠ row) : LM w' bm nn f := by
  obtain ⟨D, h1, h2⟩ := h
  exact ⟨D, h1.kept hg hne, h2⟩
theorem LM.lt {w : World} {bm nn : Nat} {f : Nat → Nat → Nat → Nat} (h : LM w bm nn f) : bm < w.heap.size := by
  obtain ⟨D, h1, _⟩ := h
  exact h1.lt
theorem LM.look {w : World} {bm nn : Nat} {f : Nat → Nat → Nat → Nat} (h : LM w bm nn f) (x y z : Nat) (hx : x < 256) (hy : y < 256) (hz : z < 256) :
    (Instr.lookup 70 (.map (some bm)) (keyV x y z) false).run Tryd.prog w = .ok (.int .i64 (f x y z : Nat)) w := by
  obtain ⟨D, h1, h2⟩ := h
  obtain ⟨kl, hk⟩ := key3 x y z hx hy hz
  obtain ⟨c, hrun, hat, _⟩ := h1.lookup_int keyed3 Tryd.underlying70 Tryd.underlying3 (by kernel_rfl) hk
  have := (h2 x y z hx hy hz kl hk).symm.trans hat
  simp only [DataW.lit.injEq, Lit.int.injEq, true_and] at this
  rw [hrun, ← this]
theorem LM.put {w : World} {bm nn : Nat} {f : Nat → Nat → Nat → Nat} (h : LM w bm nn f) (x y z v : Nat) (hx : x < 256) (hy : y < 256) (hz : z < 256) (hv : v ≤ 1000000) (hn : nn ≤ 1000000) :
    ∃ w', (Instr.mapUpdate 70 (.map (some bm)) (keyV x y z) (.int .i64 (v : Int))).run Tryd.prog w = .ok () w' ∧ LM w' bm (nn + 1) (fun a b c => if a = x ∧ b = y ∧ c = z then v else f a b c) ∧ w.grownBy w' (some bm) := by
  obtain ⟨D, h1, h2⟩ := h
  obtain ⟨kl, hk⟩ := key3 x y z hx hy hz
  have hwf : (Lit.int .i64 (v : Int)).wf = true := by
    have h0 : IntKind.i64.min = -9223372036854775808 := by decide
    have h9 : IntKind.i64.max = 9223372036854775807 := by decide
    simp only [Lit.wf, h0, h9, Bool.and_eq_true, decide_eq_true_eq]
    omega
  obtain ⟨w', hrun, hm, hg⟩ := h1.update keyed3 Tryd.underlying70 (by unfold maxLen; omega) hk (plainElem_int Tryd.underlying3 hwf)
  refine ⟨w', hrun, ⟨_, hm, fun a b c ha hb hc kl' hk' => ?_⟩, hg⟩
  show _ = DataW.lit (Lit.int .i64 (((if a = x ∧ b = y ∧ c = z then v else f a b c) : Nat) : Int))
  by_cases e : a = x ∧ b = y ∧ c = z
  · obtain ⟨rfl, rfl, rfl⟩ := e
    obtain rfl := Option.some.inj (hk.symm.trans hk')
    rw [atKey_put_same h1.isMap (keyed3.key hk), if_pos ⟨rfl, rfl, rfl⟩]
  · rw [if_neg e, atKey_put_other (fun q => e ?_)]
    · exact h2 a b c ha hb hc kl' hk'
    · subst q
      have := keyed3.inj hk' hk
      simp only [keyV, Value.agg.injEq, Array.mk.injEq, List.cons.injEq, Value.int.injEq, true_and, and_true] at this
      omega
end Go.Proofs.YtlnglpphlcebdadDoor
