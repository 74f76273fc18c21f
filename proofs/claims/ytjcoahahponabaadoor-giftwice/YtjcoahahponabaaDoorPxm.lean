/- A map of the call's own whose keys are pixels. -/
import Derived.Test.YtjcoahahponabaaDoorMg1
import Derived.Maps.Own
import Derived.Maps.OwnSet
import Derived.Maps.Views
import Derived.DeepKeys4
import Derived.MapKept
namespace Go.Proofs.YtjcoahahponabaaDoor
open Go.RowKit Go.Maps

theorem laidOutPx : laidOutB Tryd.prog = true := by kernel_rfl
theorem keyedPx : Keyed Tryd.prog 44 := Keyed.of_law (deep_law_laid laidOutPx (m := 2) (by omega) (of_decide_eq_true (by kernel_rfl)) (by kernel_rfl) (by rw [Tryd.underlying44]))
theorem keyTPx : Tryd.prog.keyType 44 = true := by kernel_rfl
theorem cellsIPx : Tryd.prog.cellsOf 3 = 1 := by kernel_rfl
theorem wfPx (v : Nat) (hv : v ≤ 1000000) : (Lit.int .i64 (v : Int)).wf = true := by
  have h0 : IntKind.i64.min = -9223372036854775808 := by decide
  have h9 : IntKind.i64.max = 9223372036854775807 := by decide
  simp only [Lit.wf, h0, h9, Bool.and_eq_true, decide_eq_true_eq]
  omega
theorem wfU8 (v : UInt8) : (Lit.int .u8 (v.toNat : Int)).wf = true := by
  have h0 : IntKind.u8.min = 0 := by decide
  have h9 : IntKind.u8.max = 255 := by decide
  have := v.toNat_lt
  simp only [Lit.wf, h0, h9, Bool.and_eq_true, decide_eq_true_eq]
  omega
theorem keyPx (p : Px) : ∃ kl, keyOf Tryd.prog 44 p.val = some kl := by
  have hf : p.val.formed Tryd.prog 44 = true := by simp [Px.val, Value.formed, Tryd.underlying44, px_cells]
  unfold keyOf
  rw [Tryd.underlying44]
  simp only [keyTPx, hf, Bool.and_self, if_true]
  obtain ⟨m, hm⟩ : ∃ m, Tryd.prog.types.size = m + 1 := ⟨Tryd.prog.types.size - 1, by
    have : 0 < Tryd.prog.types.size := of_decide_eq_true (by kernel_rfl)
    omega⟩
  rw [hm]
  simp [Program.keyLits, Tryd.underlying44, Tryd.underlying5, Px.val, Value.cells, px_cells_u8, px_cells, wfU8]
theorem px_inj {p q : Px} (h : p.val = q.val) : p = q := by
  cases p; cases q
  simp only [Px.val, Value.agg.injEq, Array.mk.injEq, List.cons.injEq, Value.int.injEq, true_and, and_true] at h
  obtain ⟨h1, h2, h3, h4⟩ := h
  congr 1
  · exact UInt8.toNat_inj.1 (by omega)
  · exact UInt8.toNat_inj.1 (by omega)
  · exact UInt8.toNat_inj.1 (by omega)
  · exact UInt8.toNat_inj.1 (by omega)

/-- The map at block bm tells f. -/
def LQ (w : World) (bm nn : Nat) (f : Px → Option Nat) : Prop :=
  ∃ D : DataW Unit, w.ownsMap Tryd.prog 44 (plainElem Tryd.prog 3) bm nn D ∧ ∀ p kl, keyOf Tryd.prog 44 p.val = some kl → Maps.has D kl = (f p).isSome ∧ ∀ v, f p = some v → D.atKey kl (.lit (.int .i64 0)) = .lit (.int .i64 (v : Nat))

theorem LQ.made (w : World) : LQ (w.alloc (.map #[] 0)) w.heap.size 0 (fun _ => none) := ⟨.map [], World.ownsMap_made _ _ _ _, fun _ _ _ => ⟨rfl, fun v h => by cases h⟩⟩
theorem LQ.lt {w : World} {bm nn : Nat} {f : Px → Option Nat} (h : LQ w bm nn f) : bm < w.heap.size := by
  obtain ⟨D, h1, _⟩ := h
  exact h1.lt
theorem LQ.look {w : World} {bm nn : Nat} {f : Px → Option Nat} (h : LQ w bm nn f) (p : Px) :
    (Instr.lookup 105 (.map (some bm)) p.val true).run Tryd.prog w = .ok (.tuple #[.int .i64 ((f p).getD 0 : Nat), .bool (f p).isSome]) w := by
  obtain ⟨D, h1, h2⟩ := h
  obtain ⟨kl, hk⟩ := keyPx p
  obtain ⟨v, ps, hrun, hv⟩ := h1.look_ok keyedPx Tryd.underlying105 (Tryd.zeroValue3 w) (plainElem_int Tryd.underlying3 (by decide)) hk
  obtain ⟨c, rfl, hc, _⟩ := plainElem_int_inv Tryd.underlying3 hv
  obtain ⟨q1, q2⟩ := h2 p kl hk
  have e2 := congrArg Prod.fst hc
  simp only at e2
  rw [hrun, q1]
  cases hf : f p with
  | some v =>
    rw [q2 v hf] at e2
    simp only [DataW.lit.injEq, Lit.int.injEq, true_and] at e2
    rw [← e2]
    rfl
  | none =>
    rw [hf] at q1
    rw [atKey_of_not_has (by simpa using q1)] at e2
    simp only [DataW.lit.injEq, Lit.int.injEq, true_and] at e2
    rw [← e2]
    rfl
theorem LQ.same {w w' : World} {bm nn : Nat} {f : Px → Option Nat} (h : LQ w bm nn f) (hb : w'.heap[bm]? = w.heap[bm]?) : LQ w' bm nn f := by
  obtain ⟨D, ⟨es, clock, h1, F, hs, hD⟩, h2⟩ := h
  exact ⟨D, ⟨es, clock, hb.trans h1, F, hs, hD⟩, h2⟩
theorem LQ.congr {w : World} {bm nn : Nat} {f g : Px → Option Nat} (h : LQ w bm nn f) (hfg : ∀ x, f x = g x) : LQ w bm nn g := by
  have : f = g := funext fun x => hfg x
  rw [← this]; exact h
theorem LQ.put {w : World} {bm nn : Nat} {f : Px → Option Nat} (h : LQ w bm nn f) (p : Px) (v : Nat) (hv : v ≤ 1000000) (hn : nn ≤ 1000000) :
    ∃ w', (Instr.mapUpdate 105 (.map (some bm)) p.val (.int .i64 (v : Int))).run Tryd.prog w = .ok () w' ∧ LQ w' bm (nn + 1) (fun a => if a = p then some v else f a) ∧ w.grownBy w' (some bm) := by
  obtain ⟨D, h1, h2⟩ := h
  obtain ⟨kl, hk⟩ := keyPx p
  obtain ⟨w', hrun, hm, hg⟩ := h1.update keyedPx Tryd.underlying105 (by unfold maxLen; omega) hk (plainElem_int Tryd.underlying3 (wfPx v hv))
  refine ⟨w', hrun, ⟨_, hm, fun a kl' hk' => ?_⟩, hg⟩
  by_cases e : a = p
  · subst e
    obtain rfl := Option.some.inj (hk.symm.trans hk')
    refine ⟨?_, fun v' h' => ?_⟩
    · rw [has_put_same h1.isMap (keyedPx.key hk)]; simp
    · simp only [if_true, Option.some.injEq] at h'
      subst h'
      rw [atKey_put_same h1.isMap (keyedPx.key hk)]
  · have hne : kl' ≠ kl := fun q => e (by
      subst q
      exact px_inj (keyedPx.inj hk' hk))
    obtain ⟨q1, q2⟩ := h2 a kl' hk'
    simp only [if_neg e]
    exact ⟨by rw [has_put_other hne]; exact q1, fun v' h' => by rw [atKey_put_other hne]; exact q2 v' h'⟩
end Go.Proofs.YtjcoahahponabaaDoor
