/- What the row's condition on listed errors gives a walk, one by one. What the row's condition on the project's errors gives a walk: each variable a pointer to an error of errors.New's make, no two the same one. -/
import Derived.Test.YtjcoahahponabaaGreatDoorRows
import Derived.Test.YtjcoahahponabaaGreatDoorMh1
import Derived.LaidLaws
import Derived.LaidHandle
import Derived.Stop.Joined
import Derived.Test.YtjcoahahponabaaGreatDoorMh28
namespace Go.Proofs.YtjcoahahponabaaGreatDoor
open Go.RowKit Go.ChangeShapes

/-- The reading of one listed variable, and the places that it met. -/
def One (w : World) (x : String × DataW Unit) (m : List MemPlace) : Prop :=
  ∃ g t cs fuel p, Tryz.prog.globalNamed x.1 = some g ∧ (Tryz.prog.globals[g]?).map (·.type) = some t ∧ w.var? Tryz.prog x.1 = some cs ∧ DataW.trod (fun _ => ()) Tryz.prog w 0 (fun _ => true) false fuel t cs.toList = some (x.2, p) ∧ m = MemPlace.row ⟨g, 0, none⟩ cs.size ++ p

theorem laidVars_parts (w : World) : ∀ (l : List (String × DataW Unit)) (ps : List MemPlace), DataW.LaidVars Tryz.prog w l ps →
    ∃ ms : List (List MemPlace), ps = ms.flatten ∧ ∀ (i : Nat) x, l[i]? = some x → ∃ m, ms[i]? = some m ∧ One w x m := by
  intro l
  induction l with
  | nil => intro ps h; exact ⟨[], h, fun i x hx => by simp at hx⟩
  | cons x r ih =>
    intro ps h
    obtain ⟨n, d⟩ := x
    obtain ⟨g, t, cs, fuel, p, q, hg, ht, hv, hd, hq, rfl⟩ := h
    obtain ⟨ms, rfl, hms⟩ := ih q hq
    refine ⟨(MemPlace.row ⟨g, 0, none⟩ cs.size ++ p) :: ms, rfl, fun i x hx => ?_⟩
    cases i with
    | zero =>
      simp only [List.getElem?_cons_zero, Option.some.injEq] at hx
      subst hx
      exact ⟨_, rfl, g, t, cs, fuel, p, hg, ht, hv, hd, rfl⟩
    | succ i =>
      simp only [List.getElem?_cons_succ] at hx ⊢
      exact hms i x hx

theorem nameE : Tryz.prog.typeName? 3 268 = some "*errors.errorString" := by kernel_rfl
theorem cellsES : Tryz.prog.cellsOf 286 = 1 := by kernel_rfl
theorem cellsStr : Tryz.prog.cellsOf 9 = 1 := by kernel_rfl
theorem starE : "*" ++ "errors.errorString" = "*errors.errorString" := by decide
theorem rowE (u : TypeId) (h : Tryz.prog.typeName? 3 u = some "*errors.errorString") : u = 268 :=
  typeName_ptr_named (nm := "errors.errorString") (by rw [starE]; kernel_rfl) (by kernel_rfl) (by decide) u (by rw [starE]; exact h)

/-- An error of errors.New's make, as a datum. -/
def sentD (text : List UInt8) : DataW Unit := .iface "*errors.errorString" (.ptr (.agg [.lit (.string text)]))

set_option maxRecDepth 100000 in
theorem one_sent {W : World} {n : String} {text : List UInt8} {m : List MemPlace} {g : Nat} (h : One W (n, sentD text) m) (hg : Tryz.prog.globalNamed n = some g) (ht : (Tryz.prog.globals[g]?).map (·.type) = some 41)
    (hr : ∀ b off, MemPlace.cell b off ∈ m → (∃ c t, W.heap[b]? = some (.cells c t (0, 0))) ∧ ∀ u v, W.cell? ⟨b, off, none⟩ = some (.iface u v) → Value.okWide Tryz.prog W .any 0 u v) :
    ∃ (a : Addr) (s : ByteArray), W.cell? ⟨g, 0, none⟩ = some (.iface 268 (.pointer (some a))) ∧ W.cell? a = some (.string s) ∧ s.data.toList = text ∧ MemPlace.cell a.block a.off ∈ m ∧ ∃ c t, W.heap[a.block]? = some (.cells c t (0, 0)) := by
  obtain ⟨g0, t0, cs0, f0, p0, hg0, ht0, hv0, hd0, rfl⟩ := h
  obtain rfl := Option.some.inj (hg.symm.trans hg0)
  obtain rfl := Option.some.inj (ht.symm.trans ht0)
  obtain ⟨l0⟩ := cs0
  have ok0 : ∀ u v, l0 = [.iface u v] → Value.okWide Tryz.prog W .any 0 u v := fun u v e => by
    subst e
    exact (hr g 0 (by simp [MemPlace.row])).2 u v (by simpa using World.var?_cell hg0 hv0 0)
  have hd1 : DataW.trod (fun _ => ()) Tryz.prog W 0 (fun _ => true) false f0 41 l0 = some (.iface "*errors.errorString" (.ptr (.agg [.lit (.string text)])), p0) := hd0
  obtain ⟨a0, s0, rfl, hc0, hs0, hz0, rfl⟩ := errorString_of_trod Tryz.underlying41 rowE Tryz.underlying268 Tryz.underlying286 rfl rfl Tryz.underlying9 cellsES cellsStr hd1 ok0
  have hm : MemPlace.cell a0.block a0.off ∈ MemPlace.row ⟨g, 0, none⟩ 1 ++ MemPlace.row a0 1 := by simp [MemPlace.row]
  exact ⟨a0, s0, by simpa using World.var?_cell hg0 hv0 0, hc0, hs0, hm, (hr _ _ hm).1⟩

/-- The errors' names in their order, and their texts. -/
def sentNames : List (String × List UInt8) := [
  ("layercake/api.ErrText", [108, 97, 121, 101, 114, 99, 97, 107, 101, 58, 32, 116, 101, 120, 116]),
  ("layercake/api.ErrBound", [108, 97, 121, 101, 114, 99, 97, 107, 101, 58, 32, 98, 111, 117, 110, 100]),
  ("layercake/api.ErrShape", [108, 97, 121, 101, 114, 99, 97, 107, 101, 58, 32, 115, 104, 97, 112, 101]),
  ("layercake/api.ErrSum", [108, 97, 121, 101, 114, 99, 97, 107, 101, 58, 32, 115, 117, 109]),
  ("layercake/api.ErrName", [108, 97, 121, 101, 114, 99, 97, 107, 101, 58, 32, 110, 97, 109, 101]),
  ("layercake/api.ErrNone", [108, 97, 121, 101, 114, 99, 97, 107, 101, 58, 32, 110, 111, 110, 101]),
  ("layercake/api.ErrColors", [108, 97, 121, 101, 114, 99, 97, 107, 101, 58, 32, 99, 111, 108, 111, 114, 115]),
  ("layercake/api.ErrFull", [108, 97, 121, 101, 114, 99, 97, 107, 101, 58, 32, 102, 117, 108, 108]),
  ("layercake/api.ErrPower", [108, 97, 121, 101, 114, 99, 97, 107, 101, 58, 32, 112, 111, 119, 101, 114])]
def sentName (i : Nat) : String := (sentNames.getD i default).1
def sentText (i : Nat) : List UInt8 := (sentNames.getD i default).2

theorem met_bare {W : World} {l : List (String × DataW Unit)} (h : laidMetH Tryz.prog l W) (hne : (l.filter fun x => x.2.handleName?.isSome).isEmpty = true) : laidMet Tryz.prog l W := by
  unfold laidMetH at h
  cases hf : (l.filter fun x => x.2.handleName?.isSome) with
  | nil => rw [hf] at h; exact h
  | cons x r => rw [hf] at hne; simp at hne
theorem err_of_laid {W : World} {l : List (String × DataW Unit)} (h : laidMet Tryz.prog l W) {n : String} {text : List UInt8} {g : Nat} (i : Nat) (hp : l[i]? = some (n, sentD text)) (hg : Tryz.prog.globalNamed n = some g) (ht : (Tryz.prog.globals[g]?).map (·.type) = some 41) :
    ∃ a : Addr, W.cell? ⟨g, 0, none⟩ = some (.iface 268 (.pointer (some a))) := by
  obtain ⟨ps, hv, hnd, hr⟩ := h
  obtain ⟨ms, rfl, hms⟩ := laidVars_parts W l ps hv
  obtain ⟨m, hm1, ho⟩ := hms _ _ hp
  have hsub : ∀ b off, MemPlace.cell b off ∈ m → MemPlace.cell b off ∈ ms.flatten := fun b off hb => List.mem_flatten.2 ⟨m, List.mem_of_getElem? hm1, hb⟩
  obtain ⟨a, s, h1, _⟩ := one_sent ho hg ht (fun b off hb => hr b off (hsub b off hb))
  exact ⟨a, h1⟩
end Go.Proofs.YtjcoahahponabaaGreatDoor
namespace Go.Proofs.YtjcoahahponabaaGreatDoor
open Go.RowKit Go.ChangeShapes

/-- Two listed errors are not the same pointer: no place is met twice. -/
theorem parts_apart {ms : List (List MemPlace)} (hnd : ms.flatten.Nodup) {i j : Nat} (hij : i < j) {m m' : List MemPlace} (hi : ms[i]? = some m) (hj : ms[j]? = some m') {p : MemPlace} (h1 : p ∈ m) (h2 : p ∈ m') : False := by
  have hp : ms.flatten.Pairwise (fun a b => a ≠ b) := hnd
  rw [List.pairwise_flatten] at hp
  have hil := (List.getElem?_eq_some_iff.1 hi)
  have hjl := (List.getElem?_eq_some_iff.1 hj)
  obtain ⟨h3, h4⟩ := hil
  obtain ⟨h5, h6⟩ := hjl
  have := List.pairwise_iff_getElem.1 hp.2 i j h3 h5 hij
  rw [h4, h6] at this
  exact this p h1 p h2 rfl

theorem sentName_at : ∀ i, i < 9 → Tryz.prog.globalNamed (sentName i) = some (sentAt i)
  | 0, _ => by kernel_rfl
  | 1, _ => by kernel_rfl
  | 2, _ => by kernel_rfl
  | 3, _ => by kernel_rfl
  | 4, _ => by kernel_rfl
  | 5, _ => by kernel_rfl
  | 6, _ => by kernel_rfl
  | 7, _ => by kernel_rfl
  | 8, _ => by kernel_rfl
  | n + 9, h => absurd h (by omega)
theorem sentType_at : ∀ i, i < 9 → (Tryz.prog.globals[sentAt i]?).map (·.type) = some 41
  | 0, _ => by kernel_rfl
  | 1, _ => by kernel_rfl
  | 2, _ => by kernel_rfl
  | 3, _ => by kernel_rfl
  | 4, _ => by kernel_rfl
  | 5, _ => by kernel_rfl
  | 6, _ => by kernel_rfl
  | 7, _ => by kernel_rfl
  | 8, _ => by kernel_rfl
  | n + 9, h => absurd h (by omega)

theorem gErrType : Tryz.prog.globalNamed "errors.errorType" = some 9 := by kernel_rfl
theorem gRtype : (Tryz.prog.cutTypes.find? (·.1 == "internal/reflectlite.rtype")).map (·.2) = some 226 := by kernel_rfl
theorem tSize : Tryz.prog.types.size = 298 := by kernel_rfl
theorem oneRow : ((List.range 298).filter fun t => Tryz.prog.rowNamed t [101, 114, 114, 111, 114]) = [41] := by kernel_rfl

/-- The handle's own cell. -/
theorem handle_of {W : World} {hs : List (String × DataW Unit)} (h : handlesMet Tryz.prog hs W) (hm : ("errors.errorType", (.iface "internal/reflectlite.rtype" (.agg [.ptr (.lit (.string [101, 114, 114, 111, 114]))]) : DataW Unit)) ∈ hs) :
    W.cell? ⟨9, 0, none⟩ = some (.iface 226 (.agg #[.pointer (some ⟨10, 41, none⟩)])) := by
  obtain ⟨name, u, ty, e1, e2, e3, e4, e5⟩ := h _ hm
  have en : name = [101, 114, 114, 111, 114] := (Option.some.inj e1).symm
  subst en
  obtain rfl := Option.some.inj (gRtype.symm.trans e2)
  have hm2 : ty ∈ (List.range 298).filter fun t => Tryz.prog.rowNamed t [101, 114, 114, 111, 114] := List.mem_filter.2 ⟨List.mem_range.2 (by rw [← tSize]; exact e3), e4⟩
  rw [oneRow] at hm2
  obtain rfl := List.mem_singleton.1 hm2
  have hh : typeHandle Tryz.prog 41 = .pointer (some ⟨10, 41, none⟩) := by kernel_rfl
  rw [hh] at e5
  simpa using World.var?_cell gErrType e5 0

theorem laidMetH_split {l : List (String × DataW Unit)} {W : World} (h : laidMetH Tryz.prog l W) (hne : (l.filter fun x => x.2.handleName?.isSome).isEmpty = false) :
    laidMet Tryz.prog (l.filter fun x => x.2.handleName?.isNone) W ∧ handlesMet Tryz.prog (l.filter fun x => x.2.handleName?.isSome) W := by
  unfold laidMetH at h
  cases hf : (l.filter fun x => x.2.handleName?.isSome) with
  | nil => rw [hf] at hne; simp at hne
  | cons x r => rw [hf] at h; exact h

/-- ALL OF IT, where the list of what is laid holds the nine at the places 'pos' tells, and the handle. -/
theorem sent_of_laid {W : World} {l hs : List (String × DataW Unit)} (pos : Nat → Nat) (h : laidMet Tryz.prog l W) (hh : handlesMet Tryz.prog hs W)
    (hm : ("errors.errorType", (.iface "internal/reflectlite.rtype" (.agg [.ptr (.lit (.string [101, 114, 114, 111, 114]))]) : DataW Unit)) ∈ hs)
    (hp : ∀ i, i < 9 → l[pos i]? = some (sentName i, sentD (sentText i))) (hinj : ∀ i j, i < 9 → j < 9 → i ≠ j → pos i ≠ pos j) :
    ∃ a : Nat → Addr, Sent W a ∧ ∀ i, i < 9 → ∃ s : ByteArray, W.cell? (a i) = some (.string s) ∧ s.data.toList = sentText i := by
  obtain ⟨ps, hv, hnd, hr⟩ := h
  obtain ⟨ms, rfl, hms⟩ := laidVars_parts W l ps hv
  have key : ∀ i, ∃ a : Addr, i < 9 → ∃ m, ms[pos i]? = some m ∧ MemPlace.cell a.block a.off ∈ m ∧ W.cell? ⟨sentAt i, 0, none⟩ = some (.iface 268 (.pointer (some a))) ∧ (∃ s : ByteArray, W.cell? a = some (.string s) ∧ s.data.toList = sentText i) ∧ ∃ c t, W.heap[a.block]? = some (.cells c t (0, 0)) := by
    intro i
    by_cases hi : i < 9
    · obtain ⟨m, hm1, ho⟩ := hms _ _ (hp i hi)
      have hsub : ∀ b off, MemPlace.cell b off ∈ m → MemPlace.cell b off ∈ ms.flatten := fun b off hb => List.mem_flatten.2 ⟨m, List.mem_of_getElem? hm1, hb⟩
      obtain ⟨a, s, h1, h2, h3, h4, h5⟩ := one_sent ho (sentName_at i hi) (sentType_at i hi) (fun b off hb => hr b off (hsub b off hb))
      exact ⟨a, fun _ => ⟨m, hm1, h4, h1, ⟨s, h2, h3⟩, h5⟩⟩
    · exact ⟨⟨0, 0, none⟩, fun h => absurd h hi⟩
  refine ⟨fun i => Classical.choose (key i), ⟨fun i hi => ?_, fun i hi => ?_, fun i j hi hj hij e => ?_, handle_of hh hm⟩, fun i hi => ?_⟩
  · obtain ⟨m, _, _, h1, _⟩ := Classical.choose_spec (key i) hi
    exact h1
  · obtain ⟨m, _, _, _, _, h5⟩ := Classical.choose_spec (key i) hi
    exact h5
  · obtain ⟨m, hm1, h4, _⟩ := Classical.choose_spec (key i) hi
    obtain ⟨m', hm2, h4', _⟩ := Classical.choose_spec (key j) hj
    have e' : Classical.choose (key i) = Classical.choose (key j) := e
    rw [e'] at h4
    rcases Nat.lt_or_gt_of_ne (hinj i j hi hj hij) with hlt | hlt
    · exact parts_apart hnd hlt hm1 hm2 h4 h4'
    · exact parts_apart hnd hlt hm2 hm1 h4' h4
  · obtain ⟨m, _, _, _, h2, _⟩ := Classical.choose_spec (key i) hi
    exact h2
end Go.Proofs.YtjcoahahponabaaGreatDoor
