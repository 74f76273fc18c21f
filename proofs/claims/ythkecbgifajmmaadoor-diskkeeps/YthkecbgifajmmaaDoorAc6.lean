/- Several disks beside each other: what each call does to all. -/
import Derived.Test.YthkecbgifajmmaaDoorAc5
namespace Go.Proofs.YthkecbgifajmmaaDoor
open Go.RowKit

/-- A disk of the program's, or of the document's. -/
inductive Dv where
  | pr (q : Nat) (D : DkS)
  | md (p : Nat) (D : DkS)
def Dv.at_ (n : Nat) (w : World) (fp : List Nat) : Dv → Prop
  | .pr q D => DAt w q n fp D
  | .md p D => MAt w p n fp D
theorem Dv.lt {n : Nat} {w : World} {fp : List Nat} {v : Dv} (h : v.at_ n w fp) : ∀ k, k ∈ fp → k < w.heap.size := by
  cases v with
  | pr q D => exact DAt.lt h
  | md p D => exact MAt.lt h
theorem Dv.keep {n : Nat} {w w' : World} {fp : List Nat} {v : Dv} (h : v.at_ n w fp) (hb : ∀ k, k ∈ fp → w'.heap[k]? = w.heap[k]?) : v.at_ n w' fp := by
  cases v with
  | pr q D => exact DAt.keep h hb
  | md p D => exact MAt.keep h hb
structure Sys (n B : Nat) (w0 w : World) (l : List (List Nat × Dv)) : Prop where
  each : ∀ x ∈ l, x.2.at_ n w x.1
  dj : l.Pairwise (fun x y => Dj x.1 y.1)
  bd : ∀ x ∈ l, ∀ k, k ∈ x.1 → B ≤ k
  bel : Below B w0 w
  bz : B ≤ w.heap.size

variable {n B : Nat} {w0 w w' : World} {l l1 l2 : List (List Nat × Dv)} {fp fp' : List Nat} {v v' : Dv}

theorem Sys.below (h : Sys n B w0 w l) (hb : Below w.heap.size w w') : Sys n B w0 w' l :=
  ⟨fun x hx => Dv.keep (h.each x hx) (fun k hk => hb.block k (Dv.lt (h.each x hx) k hk)), h.dj, h.bd, h.bel.trans (hb.mono h.bz), Nat.le_trans h.bz hb.size⟩
theorem Sys.get (h : Sys n B w0 w (l1 ++ (fp, v) :: l2)) : v.at_ n w fp := h.each (fp, v) (by simp)
theorem Sys.upd (h : Sys n B w0 w (l1 ++ (fp, v) :: l2)) (hm : Mv fp fp' w w') (hv : v'.at_ n w' fp') : Sys n B w0 w' (l1 ++ (fp', v') :: l2) := by
  have hdj := h.dj
  rw [List.pairwise_append, List.pairwise_cons] at hdj
  obtain ⟨d1, ⟨d2, d3⟩, d4⟩ := hdj
  have lt : ∀ x, x ∈ l1 ∨ x ∈ l2 → ∀ k, k ∈ x.1 → k < w.heap.size := fun x hx => Dv.lt (h.each x (by rcases hx with q | q; exact List.mem_append_left _ q; exact List.mem_append_right _ (List.mem_cons_of_mem _ q)))
  have e1 : ∀ x, x ∈ l1 → Dj x.1 fp := fun x hx => d4 x hx (fp, v) (by simp)
  have e2 : ∀ x, x ∈ l2 → Dj fp x.1 := fun x hx => d2 x hx
  have ap : ∀ x, x ∈ l1 ∨ x ∈ l2 → Dj x.1 fp := fun x hx => by
    rcases hx with q | q
    · exact e1 x q
    · exact (e2 x q).symm
  refine ⟨fun x hx => ?_, ?_, fun x hx => ?_, h.bel.trans (hm.below h.bz (h.bd (fp, v) (by simp))), Nat.le_trans h.bz hm.but.size⟩
  · have other : ∀ x, x ∈ l1 ∨ x ∈ l2 → x.2.at_ n w' x.1 := fun x hx => Dv.keep (h.each x (by rcases hx with q | q; exact List.mem_append_left _ q; exact List.mem_append_right _ (List.mem_cons_of_mem _ q))) (fun k hk => hm.but.block k (lt x hx k hk) (ap x hx k hk))
    rcases List.mem_append.1 hx with q | q
    · exact other x (.inl q)
    rcases List.mem_cons.1 q with rfl | q
    · exact hv
    · exact other x (.inr q)
  · rw [List.pairwise_append, List.pairwise_cons]
    refine ⟨d1, ⟨fun x hx => hm.dj (lt x (.inr hx)) (e2 x hx), d3⟩, fun x hx y hy => ?_⟩
    rcases List.mem_cons.1 hy with rfl | hy
    · exact (hm.dj (lt x (.inl hx)) (e1 x hx).symm).symm
    · exact d4 x hx y (List.mem_cons_of_mem _ hy)
  · rcases List.mem_append.1 hx with q | q
    · exact h.bd x (List.mem_append_left _ q)
    rcases List.mem_cons.1 q with rfl | q
    · exact hm.from_ h.bz (h.bd (fp, v) (by simp))
    · exact h.bd x (List.mem_append_right _ (List.mem_cons_of_mem _ q))
theorem Sys.add (h : Sys n B w0 w l) (hb : Below w.heap.size w w') (hf : ∀ k, k ∈ fp → w.heap.size ≤ k) (hv : v.at_ n w' fp) : Sys n B w0 w' ((fp, v) :: l) := by
  have h' := h.below hb
  refine ⟨fun x hx => ?_, ?_, fun x hx k hk => ?_, h'.bel, h'.bz⟩
  · rcases List.mem_cons.1 hx with rfl | hx
    · exact hv
    · exact h'.each x hx
  · rw [List.pairwise_cons]
    exact ⟨fun x hx k hk hx2 => by have := hf k hk; have := Dv.lt (h.each x hx) k hx2; omega, h.dj⟩
  · rcases List.mem_cons.1 hx with rfl | hx
    · exact Nat.le_trans h.bz (hf k hk)
    · exact h.bd x hx k hk
theorem Sys.nil (n : Nat) (hb : Below w0.heap.size w0 w) : Sys n w0.heap.size w0 w [] := ⟨fun x hx => (by cases hx), List.Pairwise.nil, fun x hx => (by cases hx), hb, hb.size⟩

/-- What an act names lies apart from all disks. -/
theorem act_far {x : ActV} (hB : B = w0.heap.size) (h : Sys n B w0 w (l1 ++ (fp, v) :: l2)) (hx : ActOk w0 x) : 0 < x.kn → ∀ k, k ∈ (blkS x.ks).toList → k ∉ fp := fun h0 k hk hm => by
  rcases hx.keep with e | ⟨g, off, e, _, hc⟩
  · omega
  · have h1 := World.block_lt_of_cell? _ _ (hc 0 h0)
    rw [e] at hk
    simp [blkS] at hk
    have := h.bd (fp, v) (by simp) k hm
    simp only at h1
    omega
theorem sys_do {p : Nat} {D : DkS} (x : ActV) (hB : B = w0.heap.size) (h : Sys n B w0 w (l1 ++ (fp, .md p D) :: l2)) (hok : DkOk n D) (hx : ActOk w0 x) (hkn : x.kn ≤ 1000000) (hn : 0 < n) (hn2 : n ≤ 4000) (hf : D.ws.length < 1000) :
    Calls Tryd.prog 11 #[.pointer (some ⟨p, 0, none⟩), .agg #[.string x.kind, .int .i64 x.N, .string x.S, .slice x.ks x.kn x.kc]] w fun e w' => e = .returned (.int .i64 ((stepS n D x).1 : Int)) ∧ ∃ fp', Sys n B w0 w' (l1 ++ (fp', .md p (stepS n D x).2) :: l2) := by
  subst hB
  refine (do_any p n fp D x w h.get hok (hx.below h.bel) (act_far rfl h hx) hkn hn hn2 hf).mono ?_
  rintro e w' ⟨rfl, fp', hA, hM⟩
  exact ⟨rfl, fp', h.upd hM hA⟩
theorem sys_act {q : Nat} {D : DkS} (x : ActV) (a : Nat → Addr) (hB : B = w0.heap.size) (hS : Told w0 [1, 2, 8] a) (h : Sys n B w0 w (l1 ++ (fp, .pr q D) :: l2)) (hok : DkOk n D) (hx : ActOk w0 x) (hkn : x.kn ≤ 1000000) (hf : D.ws.length < 1000) :
    Calls Tryd.prog 12 #[.pointer (some ⟨q, 0, none⟩), .agg #[.string x.kind, .int .i64 x.N, .string x.S, .slice x.ks x.kn x.kc]] w fun e w' => e = .returned (errN a (stepS n D x).1) ∧ ∃ fp', Sys n B w0 w' (l1 ++ (fp', .pr q (stepS n D x).2) :: l2) := by
  subst hB
  refine (act_any q n fp D x w a (hS.below h.bel) h.get hok (hx.below h.bel) hkn hf).mono ?_
  rintro e w' ⟨rfl, fp', hA, hM⟩
  exact ⟨rfl, fp', h.upd hM hA⟩
theorem step_code (D : DkS) (x : ActV) : (stepS n D x).1 = 0 ∨ (stepS n D x).1 = 2 ∨ (stepS n D x).1 = 3 ∨ (stepS n D x).1 = 9 := by
  by_cases h1 : x.kind = kWrite
  · rw [step_write n D x h1]
    unfold wrS
    split
    · simp
    split
    · simp
    split <;> simp
  by_cases h2 : x.kind = kFlush
  · rw [step_flush n D x h2]
    unfold flS
    split <;> simp
  by_cases h3 : x.kind = kFail
  · rw [step_fail n D x h3]
    split <;> simp
  by_cases h4 : x.kind = kCrash
  · rw [step_crash n D x h4]; simp
  · rw [step_else n D x h1 h2 h3 h4]; simp
/-- An error as its number says. -/
theorem coded_errN (a : Nat → Addr) (c : Nat) (hc : c = 0 ∨ c = 2 ∨ c = 3 ∨ c = 9) (w : World) (hS : Sent w a) :
    Calls Tryd.prog 9 #[errN a c, .int .i64 (c : Int)] w fun e w' => e = .returned (.bool true) ∧ Below w.heap.size w w' := by
  rcases hc with rfl | rfl | rfl | rfl
  · refine (coded4_nil w).mono ?_
    rintro e w' ⟨rfl, rfl⟩
    exact ⟨rfl, Below.refl _ _⟩
  · exact coded4_sent 1 2 w a hS (by omega) rfl
  · exact coded4_sent 2 3 w a hS (by omega) rfl
  · exact coded4_sent 8 9 w a hS (by omega) rfl
end Go.Proofs.YthkecbgifajmmaaDoor
