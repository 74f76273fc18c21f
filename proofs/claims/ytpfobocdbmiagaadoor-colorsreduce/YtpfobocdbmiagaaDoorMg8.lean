/- Colors that are used most first: one order, and what is chosen one by one. Plain. Results that lie in cells. Pictures: the program's small tests, and a pixel at a place. -/
import Derived.Test.YtpfobocdbmiagaaDoorCm2
import Derived.Test.YtpfobocdbmiagaaDoorMg1
import Derived.Test.YtpfobocdbmiagaaDoorSh
import Derived.Test.YtpfobocdbmiagaaDoorMg6
namespace Go.Proofs.YtpfobocdbmiagaaDoor

/-- Used more often; of such that are used as often the first. -/
def ltU (U : List Px) (x y : Us) : Bool := decide (y.t < x.t ∨ (y.t = x.t ∧ U.idxOf x.c < U.idxOf y.c))
theorem ltU_iff (U : List Px) (x y : Us) : ltU U x y = true ↔ (y.t < x.t ∨ (y.t = x.t ∧ U.idxOf x.c < U.idxOf y.c)) := by unfold ltU; exact decide_eq_true_iff
theorem ltU_irrefl (U : List Px) (x : Us) : ltU U x x = false := decide_eq_false (by omega)
theorem ltU_trans (U : List Px) (x y z : Us) (h1 : ltU U x y = true) (h2 : ltU U y z = true) : ltU U x z = true := by
  rw [ltU_iff] at *
  omega
theorem ltU_ntrans (U : List Px) (x y z : Us) (h1 : ltU U x y = false) (h2 : ltU U y z = false) : ltU U x z = false := by
  have g1 := of_decide_eq_false h1
  have g2 := of_decide_eq_false h2
  exact decide_eq_false (by omega)
theorem ltU_total {U : List Px} {x y : Us} (hx : x.c ∈ U) (_hy : y.c ∈ U) (h : x.c ≠ y.c) : ltU U x y = true ∨ ltU U y x = true := by
  rw [ltU_iff, ltU_iff]
  have hne : U.idxOf x.c ≠ U.idxOf y.c := fun e => h (by
    have hl := List.idxOf_lt_length_of_mem hx
    have e1 : U[U.idxOf x.c]'hl = x.c := List.getElem_idxOf _
    have hl2 : U.idxOf y.c < U.length := by rw [← e]; exact hl
    have e2 : U[U.idxOf y.c]'hl2 = y.c := List.getElem_idxOf _
    rw [← e1, ← e2]
    congr 1)
  omega
/-- In order. -/
def OrdU (U : List Px) (D : List Us) : Prop := D.Pairwise fun x y => ltU U x y = true
theorem ord_only {U : List Px} : ∀ {D E : List Us}, OrdU U D → OrdU U E → D.Perm E → D = E
  | [], E, _, _, h => by rw [List.nil_perm.1 h]
  | x :: D, [], _, _, h => absurd h.length_eq (by simp)
  | x :: D, y :: E, hD, hE, h => by
    have hd := List.pairwise_cons.1 hD
    have he := List.pairwise_cons.1 hE
    have hxy : x = y := by
      have hx : x ∈ y :: E := h.mem_iff.1 (List.mem_cons_self ..)
      have hy : y ∈ x :: D := h.mem_iff.2 (List.mem_cons_self ..)
      rcases List.mem_cons.1 hx with e | e
      · exact e
      · rcases List.mem_cons.1 hy with e2 | e2
        · exact e2.symm
        · have a1 := he.1 x e
          have a2 := hd.1 y e2
          have := ltU_trans U x y x a2 a1
          rw [ltU_irrefl] at this
          cases this
    subst hxy
    rw [ord_only hd.2 he.2 (List.Perm.cons_inv h)]
/-- What is least among those that are left is the next. -/
theorem next_is {U : List Px} {D : List Us} (hD : OrdU U D) (k : Nat) (hk : k < D.length) (x : Us) (hx : x ∈ D.drop k) (h : ∀ y, y ∈ D.drop k → y ≠ x → ltU U x y = true) : x = D[k] := by
  have hm : D[k] ∈ D.drop k := by
    rw [List.drop_eq_getElem_cons hk]
    exact List.mem_cons_self ..
  rcases (Classical.em (D[k] = x)) with e | e
  · exact e.symm
  · have h1 := h _ hm e
    have hs : OrdU U (D.drop k) := List.Pairwise.sublist (List.drop_sublist k D) hD
    rw [List.drop_eq_getElem_cons hk] at hs hx
    have hc := List.pairwise_cons.1 hs
    rcases List.mem_cons.1 hx with q | q
    · exact q
    · have h2 := hc.1 x q
      have := ltU_trans U x D[k] x h1 h2
      rw [ltU_irrefl] at this
      cases this
/-- The uses of pixels, those used most first. -/
def mostL (p : Nat → Px) (n : Nat) : List Us := (ucnt p n).mergeSort fun x y => !(ltU (ulk p n) y x)
theorem mostL_perm (p : Nat → Px) (n : Nat) : (mostL p n).Perm (ucnt p n) := List.mergeSort_perm _ _
theorem ucnt_colors (p : Nat → Px) (n : Nat) : (ucnt p n).map (·.c) = ulk p n := by
  unfold ucnt cntH
  rw [List.map_map]
  exact List.map_id _
theorem ucnt_mem {p : Nat → Px} {n : Nat} {x : Us} (h : x ∈ ucnt p n) : x.c ∈ ulk p n := by
  rw [← ucnt_colors]
  exact List.mem_map_of_mem h
/-- Unlike uses have unlike colors: in order means one behind the other. -/
theorem ord_of {p : Nat → Px} {n : Nat} {D : List Us} (hp : D.Perm (ucnt p n)) (h : D.Pairwise fun x y => ltU (ulk p n) y x = false) : OrdU (ulk p n) D := by
  have hnd : (D.map (·.c)).Nodup := by
    have := (hp.map (·.c)).nodup_iff.2 (by rw [ucnt_colors]; exact ulk_nodup p n)
    exact this
  have h2 : D.Pairwise fun x y => x.c ≠ y.c := List.pairwise_map.1 hnd
  have hm : ∀ x ∈ D, x.c ∈ ulk p n := fun x hx => ucnt_mem (hp.mem_iff.1 hx)
  have h3 := List.Pairwise.and_mem.1 (h.and h2)
  refine h3.imp (fun {x y} hxy => ?_)
  obtain ⟨hx, hy, h4, h5⟩ := hxy
  rcases ltU_total (hm x hx) (hm y hy) h5 with q | q
  · exact q
  · rw [q] at h4; cases h4
theorem mostL_ord (p : Nat → Px) (n : Nat) : OrdU (ulk p n) (mostL p n) := by
  refine ord_of (mostL_perm p n) ?_
  have h := List.pairwise_mergeSort (le := fun x y => !(ltU (ulk p n) y x)) (fun a b c h1 h2 => by
    simp only [Bool.not_eq_true'] at h1 h2 ⊢
    exact ltU_ntrans (ulk p n) c b a h2 h1) (fun a b => by
    by_cases q : ltU (ulk p n) b a = true
    · have : ltU (ulk p n) a b = false := by
        rcases h2 : ltU (ulk p n) a b with _ | _
        · rfl
        · have := ltU_trans (ulk p n) a b a h2 q
          rw [ltU_irrefl] at this
          cases this
      simp [this]
    · simp only [Bool.not_eq_true] at q
      simp [q]) (ucnt p n)
  exact h.imp (fun {x y} hxy => by simpa using hxy)
theorem most_only {p : Nat → Px} {n : Nat} {D : List Us} (hp : D.Perm (ucnt p n)) (h : D.Pairwise fun x y => ltU (ulk p n) y x = false) : D = mostL p n :=
  ord_only (ord_of hp h) (mostL_ord p n) (hp.trans (mostL_perm p n).symm)
theorem mostL_length (p : Nat → Px) (n : Nat) : (mostL p n).length = (ulk p n).length := by rw [(mostL_perm p n).length_eq, ucnt_length]
end Go.Proofs.YtpfobocdbmiagaaDoor
namespace Go.Proofs.YtpfobocdbmiagaaDoor
open Go.RowKit

theorem results_c {fn : Func} {p : Tmp} {ty : TypeId} (h : fn.results = #[.cell p ty]) (tmps : Array Value) (P : Program) (w : World) :
    (results fn tmps).run P w = ((asAddr (tmps.getD p undef)).run P w).andThen fun a w₁ => (loadVar ty a).run P w₁ := by
  simp only [results, h]
  simp [Sem.run_bind, Result.andThen]
theorem results_tc {fn : Func} {p u : Tmp} {ty : TypeId} (h : fn.results = #[.tmp u, .cell p ty]) (tmps : Array Value) (P : Program) (w : World) :
    (results fn tmps).run P w = ((asAddr (tmps.getD p undef)).run P w).andThen fun a w₁ => ((loadVar ty a).run P w₁).andThen fun v w₂ => .ok (.tuple #[tmps.getD u undef, v]) w₂ := by
  simp only [results, h]
  simp [Sem.run_bind, Result.andThen]
theorem results_ct {fn : Func} {p u : Tmp} {ty : TypeId} (h : fn.results = #[.cell p ty, .tmp u]) (tmps : Array Value) (P : Program) (w : World) :
    (results fn tmps).run P w = ((asAddr (tmps.getD p undef)).run P w).andThen fun a w₁ => ((loadVar ty a).run P w₁).andThen fun v w₂ => .ok (.tuple #[v, tmps.getD u undef]) w₂ := by
  simp only [results, h]
  simp [Sem.run_bind, Result.andThen]
end Go.Proofs.YtpfobocdbmiagaaDoor
namespace Go.Proofs.YtpfobocdbmiagaaDoor
open Go.RowKit



theorem below_two (w : World) (o o2 : Obj) : Below w.heap.size w ((w.alloc o).alloc o2) := ((Below.refl _ _).alloc (Nat.le_refl _) _).alloc (by simp) _

end Go.Proofs.YtpfobocdbmiagaaDoor
