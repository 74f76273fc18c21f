/- What the row's condition on the project's errors gives a walk: each variable a pointer to an error of errors.New's make, no two the same one. -/
import Derived.Test.YthkecbgifajmmaaDoorLaidB
import Derived.Test.YthkecbgifajmmaaDoorCode
import Derived.LaidLaws
import Derived.LaidHandle
import Derived.Stop.Joined
namespace Go.Proofs.YthkecbgifajmmaaDoor
open Go.RowKit Go.ChangeShapes

/-- Two listed errors are not the same pointer: no place is met twice. -/
theorem parts_apart {ms : List (List MemPlace)} (hnd : ms.flatten.Nodup) {i j : Nat} (hij : i < j) {m m' : List MemPlace} (hi : ms[i]? = some m) (hj : ms[j]? = some m') {p : MemPlace} (h1 : p ∈ m) (h2 : p ∈ m') : False := by
  have hp : ms.flatten.Pairwise (fun a b => a ≠ b) := hnd
  rw [List.pairwise_flatten] at hp
  have hil := (List.getElem?_eq_some_iff.1 hi)
  have hjl := (List.getElem?_eq_some_iff.1 hj)
  obtain ⟨h3, h4⟩ := hil
  obtain ⟨h5, h6⟩ := hjl
  have := List.pairwise_iff_getElem.1 hp.2 i j h3 h5 hij
  rw [h4, h6] at this
  exact this p h1 p h2 rfl

theorem sentName_at : ∀ i, i < 9 → Tryd.prog.globalNamed (sentName i) = some (sentAt i)
  | 0, _ => by kernel_rfl
  | 1, _ => by kernel_rfl
  | 2, _ => by kernel_rfl
  | 3, _ => by kernel_rfl
  | 4, _ => by kernel_rfl
  | 5, _ => by kernel_rfl
  | 6, _ => by kernel_rfl
  | 7, _ => by kernel_rfl
  | 8, _ => by kernel_rfl
  | n + 9, h => absurd h (by omega)
theorem sentType_at : ∀ i, i < 9 → (Tryd.prog.globals[sentAt i]?).map (·.type) = some 27
  | 0, _ => by kernel_rfl
  | 1, _ => by kernel_rfl
  | 2, _ => by kernel_rfl
  | 3, _ => by kernel_rfl
  | 4, _ => by kernel_rfl
  | 5, _ => by kernel_rfl
  | 6, _ => by kernel_rfl
  | 7, _ => by kernel_rfl
  | 8, _ => by kernel_rfl
  | n + 9, h => absurd h (by omega)

theorem gErrType : Tryd.prog.globalNamed "errors.errorType" = some 9 := by kernel_rfl
theorem gRtype : (Tryd.prog.cutTypes.find? (·.1 == "internal/reflectlite.rtype")).map (·.2) = some 97 := by kernel_rfl
theorem tSize : Tryd.prog.types.size = 143 := by kernel_rfl
theorem oneRow : ((List.range 143).filter fun t => Tryd.prog.rowNamed t [101, 114, 114, 111, 114]) = [27] := by kernel_rfl

/-- The handle's own cell. -/
theorem handle_of {W : World} {hs : List (String × DataW Unit)} (h : handlesMet Tryd.prog hs W) (hm : ("errors.errorType", (.iface "internal/reflectlite.rtype" (.agg [.ptr (.lit (.string [101, 114, 114, 111, 114]))]) : DataW Unit)) ∈ hs) :
    W.cell? ⟨9, 0, none⟩ = some (.iface 97 (.agg #[.pointer (some ⟨10, 27, none⟩)])) := by
  obtain ⟨name, u, ty, e1, e2, e3, e4, e5⟩ := h _ hm
  have en : name = [101, 114, 114, 111, 114] := (Option.some.inj e1).symm
  subst en
  obtain rfl := Option.some.inj (gRtype.symm.trans e2)
  have hm2 : ty ∈ (List.range 143).filter fun t => Tryd.prog.rowNamed t [101, 114, 114, 111, 114] := List.mem_filter.2 ⟨List.mem_range.2 (by rw [← tSize]; exact e3), e4⟩
  rw [oneRow] at hm2
  obtain rfl := List.mem_singleton.1 hm2
  have hh : typeHandle Tryd.prog 27 = .pointer (some ⟨10, 27, none⟩) := by kernel_rfl
  rw [hh] at e5
  simpa using World.var?_cell gErrType e5 0

theorem laidMetH_split {l : List (String × DataW Unit)} {W : World} (h : laidMetH Tryd.prog l W) (hne : (l.filter fun x => x.2.handleName?.isSome).isEmpty = false) :
    laidMet Tryd.prog (l.filter fun x => x.2.handleName?.isNone) W ∧ handlesMet Tryd.prog (l.filter fun x => x.2.handleName?.isSome) W := by
  unfold laidMetH at h
  cases hf : (l.filter fun x => x.2.handleName?.isSome) with
  | nil => rw [hf] at hne; simp at hne
  | cons x r => rw [hf] at h; exact h

/-- ALL OF IT, where the list of what is laid holds the nine at the places 'pos' tells, and the handle. -/
theorem sent_of_laid {W : World} {l hs : List (String × DataW Unit)} (pos : Nat → Nat) (h : laidMet Tryd.prog l W) (hh : handlesMet Tryd.prog hs W)
    (hm : ("errors.errorType", (.iface "internal/reflectlite.rtype" (.agg [.ptr (.lit (.string [101, 114, 114, 111, 114]))]) : DataW Unit)) ∈ hs)
    (hp : ∀ i, i < 9 → l[pos i]? = some (sentName i, sentD (sentText i))) (hinj : ∀ i j, i < 9 → j < 9 → i ≠ j → pos i ≠ pos j) :
    ∃ a : Nat → Addr, Sent W a ∧ ∀ i, i < 9 → ∃ s : ByteArray, W.cell? (a i) = some (.string s) ∧ s.data.toList = sentText i := by
  obtain ⟨ps, hv, hnd, hr⟩ := h
  obtain ⟨ms, rfl, hms⟩ := laidVars_parts W l ps hv
  have key : ∀ i, ∃ a : Addr, i < 9 → ∃ m, ms[pos i]? = some m ∧ MemPlace.cell a.block a.off ∈ m ∧ W.cell? ⟨sentAt i, 0, none⟩ = some (.iface 110 (.pointer (some a))) ∧ (∃ s : ByteArray, W.cell? a = some (.string s) ∧ s.data.toList = sentText i) ∧ ∃ c t, W.heap[a.block]? = some (.cells c t (0, 0)) := by
    intro i
    by_cases hi : i < 9
    · obtain ⟨m, hm1, ho⟩ := hms _ _ (hp i hi)
      have hsub : ∀ b off, MemPlace.cell b off ∈ m → MemPlace.cell b off ∈ ms.flatten := fun b off hb => List.mem_flatten.2 ⟨m, List.mem_of_getElem? hm1, hb⟩
      obtain ⟨a, s, h1, h2, h3, h4, h5⟩ := one_sent ho (sentName_at i hi) (sentType_at i hi) (fun b off hb => hr b off (hsub b off hb))
      exact ⟨a, fun _ => ⟨m, hm1, h4, h1, ⟨s, h2, h3⟩, h5⟩⟩
    · exact ⟨⟨0, 0, none⟩, fun h => absurd h hi⟩
  refine ⟨fun i => Classical.choose (key i), ⟨fun i hi => ?_, fun i hi => ?_, fun i j hi hj hij e => ?_, handle_of hh hm⟩, fun i hi => ?_⟩
  · obtain ⟨m, _, _, h1, _⟩ := Classical.choose_spec (key i) hi
    exact h1
  · obtain ⟨m, _, _, _, _, h5⟩ := Classical.choose_spec (key i) hi
    exact h5
  · obtain ⟨m, hm1, h4, _⟩ := Classical.choose_spec (key i) hi
    obtain ⟨m', hm2, h4', _⟩ := Classical.choose_spec (key j) hj
    have e' : Classical.choose (key i) = Classical.choose (key j) := e
    rw [e'] at h4
    rcases Nat.lt_or_gt_of_ne (hinj i j hi hj hij) with hlt | hlt
    · exact parts_apart hnd hlt hm1 hm2 h4 h4'
    · exact parts_apart hnd hlt hm2 hm1 h4' h4
  · obtain ⟨m, _, _, _, h2, _⟩ := Classical.choose_spec (key i) hi
    exact h2
end Go.Proofs.YthkecbgifajmmaaDoor
