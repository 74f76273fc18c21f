/- A map of the call's own whose keys are pairs of numbers. -/
import Derived.Test.YtmmilamaahmaoaeDoorBase
import Derived.Maps.Own
import Derived.Maps.OwnSet
import Derived.Maps.Views
import Derived.DeepKeys4
import Derived.MapKept
namespace Go.Proofs.YtmmilamaahmaoaeDoor
open Go.RowKit Go.Maps

theorem laidOutP : laidOutB Tryd.prog = true := by kernel_rfl
theorem keyedP : Keyed Tryd.prog 115 := Keyed.of_law (deep_law_laid laidOutP (m := 2) (by omega) (of_decide_eq_true (by kernel_rfl)) (by kernel_rfl) (by rw [Tryd.underlying115]))
def pairV (x y : Nat) : Value := .agg #[.int .i64 (x : Int), .int .i64 (y : Int)]
theorem cellsP : Tryd.prog.cellsOf 115 = 2 := by kernel_rfl
theorem cellsI : Tryd.prog.cellsOf 3 = 1 := by kernel_rfl
theorem keyTP : Tryd.prog.keyType 115 = true := by kernel_rfl
theorem wf64 (v : Nat) (hv : v ≤ 1000000) : (Lit.int .i64 (v : Int)).wf = true := by
  have h0 : IntKind.i64.min = -9223372036854775808 := by decide
  have h9 : IntKind.i64.max = 9223372036854775807 := by decide
  simp only [Lit.wf, h0, h9, Bool.and_eq_true, decide_eq_true_eq]
  omega
theorem keyP (x y : Nat) (hx : x ≤ 1000000) (hy : y ≤ 1000000) : ∃ kl, keyOf Tryd.prog 115 (pairV x y) = some kl := by
  have hf : (pairV x y).formed Tryd.prog 115 = true := by simp [pairV, Value.formed, Tryd.underlying115, cellsP]
  unfold keyOf
  rw [Tryd.underlying115]
  simp only [keyTP, hf, Bool.and_self, if_true]
  obtain ⟨m, hm⟩ : ∃ m, Tryd.prog.types.size = m + 1 := ⟨Tryd.prog.types.size - 1, by
    have : 0 < Tryd.prog.types.size := of_decide_eq_true (by kernel_rfl)
    omega⟩
  rw [hm]
  simp [Program.keyLits, Tryd.underlying115, Tryd.underlying3, pairV, Value.cells, cellsI, cellsP, wf64 x hx, wf64 y hy]

/-- The map at block bm tells f. -/
def LP (w : World) (bm nn : Nat) (f : Nat → Nat → Option Nat) : Prop :=
  ∃ D : DataW Unit, w.ownsMap Tryd.prog 115 (plainElem Tryd.prog 3) bm nn D ∧ ∀ x y, x ≤ 1000000 → y ≤ 1000000 → ∀ kl, keyOf Tryd.prog 115 (pairV x y) = some kl → Maps.has D kl = (f x y).isSome ∧ ∀ v, f x y = some v → D.atKey kl (.lit (.int .i64 0)) = .lit (.int .i64 (v : Nat))

theorem LP.made (w : World) : LP (w.alloc (.map #[] 0)) w.heap.size 0 (fun _ _ => none) := ⟨.map [], World.ownsMap_made _ _ _ _, fun _ _ _ _ _ _ => ⟨rfl, fun v h => by cases h⟩⟩
theorem LP.kept {w w' : World} {bm nn : Nat} {f : Nat → Nat → Option Nat} {row : Option Nat} (h : LP w bm nn f) (hg : w.grownBy w' row) (hne : some bm ≠ row) : LP w' bm nn f := by
  obtain ⟨D, h1, h2⟩ := h
  exact ⟨D, h1.kept hg hne, h2⟩
theorem LP.lt {w : World} {bm nn : Nat} {f : Nat → Nat → Option Nat} (h : LP w bm nn f) : bm < w.heap.size := by
  obtain ⟨D, h1, _⟩ := h
  exact h1.lt
theorem LP.look {w : World} {bm nn : Nat} {f : Nat → Nat → Option Nat} (h : LP w bm nn f) (x y : Nat) (hx : x ≤ 1000000) (hy : y ≤ 1000000) :
    (Instr.lookup 64 (.map (some bm)) (pairV x y) true).run Tryd.prog w = .ok (.tuple #[.int .i64 ((f x y).getD 0 : Nat), .bool (f x y).isSome]) w := by
  obtain ⟨D, h1, h2⟩ := h
  obtain ⟨kl, hk⟩ := keyP x y hx hy
  obtain ⟨v, ps, hrun, hv⟩ := h1.look_ok keyedP Tryd.underlying64 (Tryd.zeroValue3 w) (plainElem_int Tryd.underlying3 (by decide)) hk
  obtain ⟨c, rfl, hc, _⟩ := plainElem_int_inv Tryd.underlying3 hv
  obtain ⟨q1, q2⟩ := h2 x y hx hy kl hk
  have e2 := congrArg Prod.fst hc
  simp only at e2
  rw [hrun, q1]
  cases hf : f x y with
  | some v =>
    rw [q2 v hf] at e2
    simp only [DataW.lit.injEq, Lit.int.injEq, true_and] at e2
    rw [← e2]
    rfl
  | none =>
    rw [hf] at q1
    rw [atKey_of_not_has (by simpa using q1)] at e2
    simp only [DataW.lit.injEq, Lit.int.injEq, true_and] at e2
    rw [← e2]
    rfl
theorem LP.same {w w' : World} {bm nn : Nat} {f : Nat → Nat → Option Nat} (h : LP w bm nn f) (hb : w'.heap[bm]? = w.heap[bm]?) : LP w' bm nn f := by
  obtain ⟨D, ⟨es, clock, h1, F, hs, hD⟩, h2⟩ := h
  exact ⟨D, ⟨es, clock, hb.trans h1, F, hs, hD⟩, h2⟩
theorem LP.congr {w : World} {bm nn : Nat} {f g : Nat → Nat → Option Nat} (h : LP w bm nn f) (hfg : ∀ x y, f x y = g x y) : LP w bm nn g := by
  have : f = g := funext fun x => funext fun y => hfg x y
  rw [← this]; exact h
theorem LP.put {w : World} {bm nn : Nat} {f : Nat → Nat → Option Nat} (h : LP w bm nn f) (x y v : Nat) (hx : x ≤ 1000000) (hy : y ≤ 1000000) (hv : v ≤ 1000000) (hn : nn ≤ 1000000) :
    ∃ w', (Instr.mapUpdate 64 (.map (some bm)) (pairV x y) (.int .i64 (v : Int))).run Tryd.prog w = .ok () w' ∧ LP w' bm (nn + 1) (fun a b => if a = x ∧ b = y then some v else f a b) ∧ w.grownBy w' (some bm) := by
  obtain ⟨D, h1, h2⟩ := h
  obtain ⟨kl, hk⟩ := keyP x y hx hy
  obtain ⟨w', hrun, hm, hg⟩ := h1.update keyedP Tryd.underlying64 (by unfold maxLen; omega) hk (plainElem_int Tryd.underlying3 (wf64 v hv))
  refine ⟨w', hrun, ⟨_, hm, fun a b ha hb kl' hk' => ?_⟩, hg⟩
  by_cases e : a = x ∧ b = y
  · obtain ⟨rfl, rfl⟩ := e
    obtain rfl := Option.some.inj (hk.symm.trans hk')
    refine ⟨?_, fun v' h' => ?_⟩
    · rw [has_put_same h1.isMap (keyedP.key hk)]; simp
    · simp only [and_self, if_true, Option.some.injEq] at h'
      subst h'
      rw [atKey_put_same h1.isMap (keyedP.key hk)]
  · have hne : kl' ≠ kl := fun q => e (by
      subst q
      have := keyedP.inj hk' hk
      simp only [pairV, Value.agg.injEq, Array.mk.injEq, List.cons.injEq, Value.int.injEq, true_and, and_true] at this
      omega)
    obtain ⟨q1, q2⟩ := h2 a b ha hb kl' hk'
    simp only [if_neg e]
    exact ⟨by rw [has_put_other hne]; exact q1, fun v' h' => by rw [atKey_put_other hne]; exact q2 v' h'⟩
theorem LP.cleared {w : World} {bm nn : Nat} {f : Nat → Nat → Option Nat} (h : LP w bm nn f) (ty : TypeId) :
    ∃ w', (Builtin.clear_ #[64] ty #[.map (some bm)]).run Tryd.prog w = .ok (.tuple #[]) w' ∧ LP w' bm 0 (fun _ _ => none) ∧ w.grownBy w' (some bm) := by
  obtain ⟨D, ⟨es, clock, hb, _⟩, _⟩ := h
  have hlt : bm < w.heap.size := by
    rcases Nat.lt_or_ge bm w.heap.size with h' | h'
    · exact h'
    · simp [Array.getElem?_eq_none h'] at hb
  have hrun : (Builtin.clear_ #[64] ty #[.map (some bm)]).run Tryd.prog w = .ok (.tuple #[]) { w with heap := w.heap.setIfInBounds bm (.map #[] clock) } := by
    simp [Builtin.clear_, run_underlying Tryd.underlying64, MapKept.run_getObj_map hb, MapKept.run_setObj_map _ hb, Result.andThen]
  refine ⟨_, hrun, ⟨.map [], ⟨#[], clock, by simp [hlt], ⟨by simp, MapKept.stamped_empty clock, by simp⟩, Nat.le_refl _, rfl⟩, fun _ _ _ _ _ _ => ⟨rfl, fun v h => by cases h⟩⟩, ⟨rfl, rfl, rfl, by simp, fun k hk hne => ?_⟩⟩
  have : bm ≠ k := fun e => hne (by rw [e])
  simp [this]
end Go.Proofs.YtmmilamaahmaoaeDoor
