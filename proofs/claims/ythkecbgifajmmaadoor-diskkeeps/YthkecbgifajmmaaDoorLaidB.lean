/- What the row's condition on listed errors gives a walk, one by one. -/
import Derived.Test.YthkecbgifajmmaaDoorRows
import Derived.Test.YthkecbgifajmmaaDoorBase
import Derived.LaidLaws
import Derived.LaidHandle
import Derived.Stop.Joined
namespace Go.Proofs.YthkecbgifajmmaaDoor
open Go.RowKit Go.ChangeShapes

/-- The reading of one listed variable, and the places that it met. -/
def One (w : World) (x : String × DataW Unit) (m : List MemPlace) : Prop :=
  ∃ g t cs fuel p, Tryd.prog.globalNamed x.1 = some g ∧ (Tryd.prog.globals[g]?).map (·.type) = some t ∧ w.var? Tryd.prog x.1 = some cs ∧ DataW.trod (fun _ => ()) Tryd.prog w 0 (fun _ => true) false fuel t cs.toList = some (x.2, p) ∧ m = MemPlace.row ⟨g, 0, none⟩ cs.size ++ p

theorem laidVars_parts (w : World) : ∀ (l : List (String × DataW Unit)) (ps : List MemPlace), DataW.LaidVars Tryd.prog w l ps →
    ∃ ms : List (List MemPlace), ps = ms.flatten ∧ ∀ (i : Nat) x, l[i]? = some x → ∃ m, ms[i]? = some m ∧ One w x m := by
  intro l
  induction l with
  | nil => intro ps h; exact ⟨[], h, fun i x hx => by simp at hx⟩
  | cons x r ih =>
    intro ps h
    obtain ⟨n, d⟩ := x
    obtain ⟨g, t, cs, fuel, p, q, hg, ht, hv, hd, hq, rfl⟩ := h
    obtain ⟨ms, rfl, hms⟩ := ih q hq
    refine ⟨(MemPlace.row ⟨g, 0, none⟩ cs.size ++ p) :: ms, rfl, fun i x hx => ?_⟩
    cases i with
    | zero =>
      simp only [List.getElem?_cons_zero, Option.some.injEq] at hx
      subst hx
      exact ⟨_, rfl, g, t, cs, fuel, p, hg, ht, hv, hd, rfl⟩
    | succ i =>
      simp only [List.getElem?_cons_succ] at hx ⊢
      exact hms i x hx

theorem nameE : Tryd.prog.typeName? 3 110 = some "*errors.errorString" := by kernel_rfl
theorem cellsES : Tryd.prog.cellsOf 131 = 1 := by kernel_rfl
theorem cellsStr : Tryd.prog.cellsOf 9 = 1 := by kernel_rfl
theorem starE : "*" ++ "errors.errorString" = "*errors.errorString" := by decide
theorem rowE (u : TypeId) (h : Tryd.prog.typeName? 3 u = some "*errors.errorString") : u = 110 :=
  typeName_ptr_named (nm := "errors.errorString") (by rw [starE]; kernel_rfl) (by kernel_rfl) (by decide) u (by rw [starE]; exact h)

/-- An error of errors.New's make, as a datum. -/
def sentD (text : List UInt8) : DataW Unit := .iface "*errors.errorString" (.ptr (.agg [.lit (.string text)]))

set_option maxRecDepth 100000 in
theorem one_sent {W : World} {n : String} {text : List UInt8} {m : List MemPlace} {g : Nat} (h : One W (n, sentD text) m) (hg : Tryd.prog.globalNamed n = some g) (ht : (Tryd.prog.globals[g]?).map (·.type) = some 27)
    (hr : ∀ b off, MemPlace.cell b off ∈ m → (∃ c t, W.heap[b]? = some (.cells c t (0, 0))) ∧ ∀ u v, W.cell? ⟨b, off, none⟩ = some (.iface u v) → Value.okWide Tryd.prog W .any 0 u v) :
    ∃ (a : Addr) (s : ByteArray), W.cell? ⟨g, 0, none⟩ = some (.iface 110 (.pointer (some a))) ∧ W.cell? a = some (.string s) ∧ s.data.toList = text ∧ MemPlace.cell a.block a.off ∈ m ∧ ∃ c t, W.heap[a.block]? = some (.cells c t (0, 0)) := by
  obtain ⟨g0, t0, cs0, f0, p0, hg0, ht0, hv0, hd0, rfl⟩ := h
  obtain rfl := Option.some.inj (hg.symm.trans hg0)
  obtain rfl := Option.some.inj (ht.symm.trans ht0)
  obtain ⟨l0⟩ := cs0
  have ok0 : ∀ u v, l0 = [.iface u v] → Value.okWide Tryd.prog W .any 0 u v := fun u v e => by
    subst e
    exact (hr g 0 (by simp [MemPlace.row])).2 u v (by simpa using World.var?_cell hg0 hv0 0)
  have hd1 : DataW.trod (fun _ => ()) Tryd.prog W 0 (fun _ => true) false f0 27 l0 = some (.iface "*errors.errorString" (.ptr (.agg [.lit (.string text)])), p0) := hd0
  obtain ⟨a0, s0, rfl, hc0, hs0, hz0, rfl⟩ := errorString_of_trod Tryd.underlying27 rowE Tryd.underlying110 Tryd.underlying131 rfl rfl Tryd.underlying9 cellsES cellsStr hd1 ok0
  have hm : MemPlace.cell a0.block a0.off ∈ MemPlace.row ⟨g, 0, none⟩ 1 ++ MemPlace.row a0 1 := by simp [MemPlace.row]
  exact ⟨a0, s0, by simpa using World.var?_cell hg0 hv0 0, hc0, hs0, hm, (hr _ _ hm).1⟩

/-- The errors' names in their order, and their texts. -/
def sentNames : List (String × List UInt8) := [
  ("layercake/api.ErrText", [108, 97, 121, 101, 114, 99, 97, 107, 101, 58, 32, 116, 101, 120, 116]),
  ("layercake/api.ErrBound", [108, 97, 121, 101, 114, 99, 97, 107, 101, 58, 32, 98, 111, 117, 110, 100]),
  ("layercake/api.ErrShape", [108, 97, 121, 101, 114, 99, 97, 107, 101, 58, 32, 115, 104, 97, 112, 101]),
  ("layercake/api.ErrSum", [108, 97, 121, 101, 114, 99, 97, 107, 101, 58, 32, 115, 117, 109]),
  ("layercake/api.ErrName", [108, 97, 121, 101, 114, 99, 97, 107, 101, 58, 32, 110, 97, 109, 101]),
  ("layercake/api.ErrNone", [108, 97, 121, 101, 114, 99, 97, 107, 101, 58, 32, 110, 111, 110, 101]),
  ("layercake/api.ErrColors", [108, 97, 121, 101, 114, 99, 97, 107, 101, 58, 32, 99, 111, 108, 111, 114, 115]),
  ("layercake/api.ErrFull", [108, 97, 121, 101, 114, 99, 97, 107, 101, 58, 32, 102, 117, 108, 108]),
  ("layercake/api.ErrPower", [108, 97, 121, 101, 114, 99, 97, 107, 101, 58, 32, 112, 111, 119, 101, 114])]
def sentName (i : Nat) : String := (sentNames.getD i default).1
def sentText (i : Nat) : List UInt8 := (sentNames.getD i default).2

theorem met_bare {W : World} {l : List (String × DataW Unit)} (h : laidMetH Tryd.prog l W) (hne : (l.filter fun x => x.2.handleName?.isSome).isEmpty = true) : laidMet Tryd.prog l W := by
  unfold laidMetH at h
  cases hf : (l.filter fun x => x.2.handleName?.isSome) with
  | nil => rw [hf] at h; exact h
  | cons x r => rw [hf] at hne; simp at hne
theorem err_of_laid {W : World} {l : List (String × DataW Unit)} (h : laidMet Tryd.prog l W) {n : String} {text : List UInt8} {g : Nat} (i : Nat) (hp : l[i]? = some (n, sentD text)) (hg : Tryd.prog.globalNamed n = some g) (ht : (Tryd.prog.globals[g]?).map (·.type) = some 27) :
    ∃ a : Addr, W.cell? ⟨g, 0, none⟩ = some (.iface 110 (.pointer (some a))) := by
  obtain ⟨ps, hv, hnd, hr⟩ := h
  obtain ⟨ms, rfl, hms⟩ := laidVars_parts W l ps hv
  obtain ⟨m, hm1, ho⟩ := hms _ _ hp
  have hsub : ∀ b off, MemPlace.cell b off ∈ m → MemPlace.cell b off ∈ ms.flatten := fun b off hb => List.mem_flatten.2 ⟨m, List.mem_of_getElem? hm1, hb⟩
  obtain ⟨a, s, h1, _⟩ := one_sent ho hg ht (fun b off hb => hr b off (hsub b off hb))
  exact ⟨a, h1⟩
end Go.Proofs.YthkecbgifajmmaaDoor
