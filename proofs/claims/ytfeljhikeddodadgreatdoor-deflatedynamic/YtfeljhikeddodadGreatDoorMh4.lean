/- The head of a dynamic block, plainly: steps of a row of lengths, and how they are read. No Go stands here. All is as it was but for some blocks. A call as one step of a statement that draws its order. Walks of what blocks are made of: rows of lengths and distances. -/
import Derived.Test.YtfeljhikeddodadGreatDoorMh3
import Derived.Test.YtfeljhikeddodadGreatDoorMh1
import Derived.Below
import Derived.BigQuiet
import Derived.Deep.RegionHeld
import Derived.OwnWalk
import Derived.Shelf.Abstract
namespace Go.Proofs.YtfeljhikeddodadGreatDoor.Ps
open Pm Cn Nf

/-! ### Steps -/
abbrev Sp := Nat × Nat
/-- How many bits tell how many times more. -/
def more (i : Nat) : Nat := if i < 16 then 0 else againBits i
def stpP (w0 : Nat → Pc) (s : Sp) : List Pc := [w0 s.1, (s.2, more s.1)]
/-- A step more: what the row is. -/
def dec (row : List Nat) (s : Sp) : List Nat := if s.1 < 16 then row ++ [s.1] else row ++ List.replicate (againFrom s.1 + s.2) (againOf s.1 row)
/-- What a step may be, behind a row. -/
def OkS (row : List Nat) (s : Sp) : Prop := s.1 < 19 ∧ s.2 < 2 ^ more s.1 ∧ (s.1 = 16 → 0 < row.length)
/-- Steps, each behind what those ahead of it tell. -/
inductive Dec : List Nat → List Sp → List Nat → Prop where
  | nil (r : List Nat) : Dec r [] r
  | cons {r : List Nat} {s : Sp} {ss : List Sp} {r' : List Nat} (h : OkS r s) (t : Dec (dec r s) ss r') : Dec r (s :: ss) r'
theorem Dec.append {r m r' : List Nat} {a b : List Sp} (h : Dec r a m) (g : Dec m b r') : Dec r (a ++ b) r' := by
  induction h with
  | nil => exact g
  | cons h _ ih => exact .cons h (ih g)
theorem Dec.one {r : List Nat} {s : Sp} (h : OkS r s) : Dec r [s] (dec r s) := .cons h (.nil _)
theorem dec_more (r : List Nat) (s : Sp) : r.length < (dec r s).length := by
  unfold dec
  split
  · simp
  · rw [List.length_append, List.length_replicate]
    have : 3 ≤ againFrom s.1 := by unfold againFrom; split <;> omega
    omega
theorem Dec.le {r r' : List Nat} {ss : List Sp} (h : Dec r ss r') : r.length + ss.length ≤ r'.length := by
  induction h with
  | nil => simp
  | @cons r s ss r' h _ ih =>
    have := dec_more r s
    rw [List.length_cons]
    omega
theorem Dec.each {r r' : List Nat} {ss : List Sp} (h : Dec r ss r') : ∀ s ∈ ss, s.1 < 19 ∧ s.2 < 2 ^ more s.1 := by
  induction h with
  | nil => intro s hs; cases hs
  | cons h _ ih =>
    intro s hs
    rcases List.mem_cons.1 hs with rfl | hs
    · exact ⟨h.1, h.2.1⟩
    · exact ih s hs
theorem steps_fit {l0 : Nat → Nat} {ss : List Sp} (h : ∀ s ∈ ss, s.1 < 19 ∧ s.2 < 2 ^ more s.1) : Fit (ss.flatMap (stpP (word l0 19))) := by
  intro p hp
  obtain ⟨s, hs, hq⟩ := List.mem_flatMap.1 hp
  simp only [stpP, List.mem_cons, List.not_mem_nil, or_false] at hq
  rcases hq with rfl | rfl
  · exact word_fit _ _ _
  · exact (h s hs).2
/-- Steps are read. -/
theorem rows_run {V nb tot : Nat} {l0 : Nat → Nat} (hl : ∀ x, x < 19 → l0 x ≤ 15) (hk : all l0 19 ≤ 2 ^ 15) {r r' : List Nat} {ss : List Sp} (h : Dec r ss r') : ∀ {k : Nat}, (∀ s ∈ ss, 0 < l0 s.1) → At V nb k (ss.flatMap (stpP (word l0 19))) → r'.length = tot →
    Run (rowStep V nb tot l0) (k, r) (some (k + len (ss.flatMap (stpP (word l0 19))), r')) := by
  induction h with
  | nil r =>
    intro k _ _ ht
    refine .done ?_
    unfold rowStep
    rw [if_pos (by show tot ≤ r.length; omega)]
    rfl
  | @cons r s ss r' hs t ih =>
    intro k hp hat ht
    have h1 := t.le
    have h2 := dec_more r s
    obtain ⟨o1, o2, o3⟩ := hs
    have hcat : (s :: ss).flatMap (stpP (word l0 19)) = word l0 19 s.1 :: (s.2, more s.1) :: ss.flatMap (stpP (word l0 19)) := by simp [stpP]
    rw [hcat] at hat ⊢
    obtain ⟨a1, hat⟩ := At.cons (word_fit _ _ _) hat
    obtain ⟨a2, hat⟩ := At.cons o2 hat
    have h0 := hp s (by simp)
    have hw := At.word hl o1 h0 (code_lt l0 19 s.1 o1 h0 (hl _ o1) hk) a1
    have hg := a2.got
    simp only [word] at hg hat
    have ih2 := ih (fun x hx => hp x (by simp [hx])) hat ht
    have hlen : len (word l0 19 s.1 :: (s.2, more s.1) :: ss.flatMap (stpP (word l0 19))) = l0 s.1 + more s.1 + len (ss.flatMap (stpP (word l0 19))) := by
      simp only [len, word]; omega
    rw [hlen, show k + (l0 s.1 + more s.1 + len (ss.flatMap (stpP (word l0 19)))) = k + l0 s.1 + more s.1 + len (ss.flatMap (stpP (word l0 19))) by omega]
    refine .more ?_ ih2
    unfold rowStep
    rw [if_neg (by show ¬ tot ≤ r.length; omega)]
    simp only [hw]
    by_cases c : s.1 < 16
    · rw [if_pos c]
      have e : more s.1 = 0 := by unfold more; rw [if_pos c]
      unfold dec
      rw [if_pos c, e]
      rfl
    · rw [if_neg c]
      have e : more s.1 = againBits s.1 := by unfold more; rw [if_neg c]
      rw [e] at hg ⊢
      have hd : dec r s = r ++ List.replicate (againFrom s.1 + s.2) (againOf s.1 r) := by unfold dec; rw [if_neg c]
      have hdl : (dec r s).length = r.length + (againFrom s.1 + s.2) := by rw [hd, List.length_append, List.length_replicate]
      rw [if_neg (fun q => by have := o3 q.1; have := q.2; omega), hg]
      simp only
      rw [if_neg (by omega), hd]
/-! ### Codes without words at their ends -/
theorem upto_trim (f : Nat → Nat) {n N : Nat} (hn : n ≤ N) (h : ∀ j, n ≤ j → j < N → f j = 0) : upto f N = upto f n := by
  induction N with
  | zero => have : n = 0 := by omega
            subst this; rfl
  | succ N ih =>
    by_cases e : n = N + 1
    · subst e; rfl
    · show f N + upto f N = _
      rw [ih (by omega) (fun j h1 h2 => h j h1 (by omega)), h N (by omega) (by omega), Nat.zero_add]
theorem acc_trim (l : Nat → Nat) {n N : Nat} (hn : n ≤ N) (h : ∀ j, n ≤ j → j < N → l j = 0) (m i : Nat) : acc l N m i = acc l n m i := by
  unfold acc
  exact upto_trim _ hn (fun j h1 h2 => by rw [if_neg]; rw [h j h1 h2]; omega)
theorem code_trim (l : Nat → Nat) {n N : Nat} (hn : n ≤ N) (h : ∀ j, n ≤ j → j < N → l j = 0) (i : Nat) : code l N i = code l n i := by
  unfold code
  rw [acc_trim l hn h]
theorem all_trim (l : Nat → Nat) {n N : Nat} (hn : n ≤ N) (h : ∀ j, n ≤ j → j < N → l j = 0) : all l N = all l n := by
  unfold all
  exact upto_trim _ hn (fun j h1 h2 => by rw [if_neg]; rw [h j h1 h2]; omega)
theorem word_trim (l : Nat → Nat) {n N : Nat} (hn : n ≤ N) (h : ∀ j, n ≤ j → j < N → l j = 0) : word l N = word l n := by
  funext i
  unfold word
  rw [code_trim l hn h]
theorem right_trim (l : Nat → Nat) {n N : Nat} (hn : n ≤ N) (h : ∀ j, n ≤ j → j < N → l j = 0) (hr : Right l N) : Right l n := by
  have e1 : cnt l N = cnt l n := by
    unfold cnt
    exact upto_trim _ hn (fun j h1 h2 => by rw [if_neg]; rw [h j h1 h2]; omega)
  have e2 : ones l N = ones l n := by
    unfold ones
    exact upto_trim _ hn (fun j h1 h2 => by rw [if_neg]; rw [h j h1 h2]; omega)
  unfold Right at *
  rw [e1, e2, all_trim l hn h] at hr
  exact hr
theorem right_congr {l l' : Nat → Nat} {n : Nat} (h : ∀ i, i < n → l i = l' i) (hr : Right l n) : Right l' n := by
  have e1 : cnt l n = cnt l' n := upto_congr n (fun j hj => by rw [h j hj])
  have e2 : ones l n = ones l' n := upto_congr n (fun j hj => by rw [h j hj])
  have e3 : all l n = all l' n := upto_congr n (fun j hj => by rw [h j hj])
  unfold Right at *
  rw [e1, e2, e3] at hr
  exact hr
/-! ### The lengths of lengths -/
theorem len_threes (g : Nat → Nat) (n : Nat) : len ((List.range n).map fun j => (g j, 3)) = 3 * n := by
  induction n with
  | zero => rfl
  | succ n ih =>
    rw [List.range_succ, List.map_append, len_append, ih]
    simp [len]
    omega
theorem threes_fit (g : Nat → Nat) (n : Nat) (h : ∀ j, j < n → g j < 8) : Fit ((List.range n).map fun j => (g j, 3)) := by
  intro p hp
  obtain ⟨j, hj, rfl⟩ := List.mem_map.1 hp
  exact h j (List.mem_range.1 hj)
theorem threes_at {V nb k : Nat} (g : Nat → Nat) : ∀ (n : Nat), (∀ j, j < n → g j < 8) → At V nb k ((List.range n).map fun j => (g j, 3)) → ∀ c, c < n → V / 2 ^ (k + 3 * c) % 2 ^ 3 = g c := by
  intro n
  induction n with
  | zero => intro _ _ c hc; omega
  | succ n ih =>
    intro hg hat c hc
    rw [List.range_succ, List.map_append] at hat
    obtain ⟨h1, h2⟩ := At.split (threes_fit g n (fun j hj => hg j (by omega))) hat
    by_cases e : c = n
    · subst e
      rw [len_threes] at h2
      exact h2.one.2
    · exact ih (fun j hj => hg j (by omega)) h1 c (by omega)
theorem order_inj : ∀ a, a < 19 → ∀ b, b < 19 → order.getD a 0 = order.getD b 0 → a = b := by decide
theorem order_all : ∀ x, x < 19 → ∃ a, a < 19 ∧ order.getD a 0 = x := by decide
theorem small_at {V k : Nat} {l0 : Nat → Nat} : ∀ (n : Nat), n ≤ 19 → (∀ c, c < n → V / 2 ^ (k + 3 * c) % 2 ^ 3 = l0 (order.getD c 0)) → ∀ a, a < 19 → small V k n (order.getD a 0) = if a < n then l0 (order.getD a 0) else 0 := by
  intro n
  induction n with
  | zero => intro _ _ a _; rw [if_neg (by omega)]; rfl
  | succ n ih =>
    intro hn h a ha
    unfold small
    by_cases e : a = n
    · subst e
      rw [if_pos rfl, if_pos (by omega)]
      exact h a (by omega)
    · rw [if_neg (fun q => e (order_inj a ha n (by omega) q)), ih (by omega) (fun c hc => h c (by omega)) a ha]
      by_cases c : a < n
      · rw [if_pos c, if_pos (by omega)]
      · rw [if_neg c, if_neg (by omega)]
theorem small_is {V nb k nc : Nat} {l0 : Nat → Nat} (hn : nc ≤ 19) (h7 : ∀ x, x < 19 → l0 x ≤ 7) (hz : ∀ j, nc ≤ j → j < 19 → l0 (order.getD j 0) = 0) (hat : At V nb k ((List.range nc).map fun j => (l0 (order.getD j 0), 3))) : ∀ x, x < 19 → small V k nc x = l0 x := by
  intro x hx
  obtain ⟨a, ha, rfl⟩ := order_all x hx
  have ho : ∀ j, j < 19 → order.getD j 0 < 19 := by decide
  have h1 := threes_at (fun j => l0 (order.getD j 0)) nc (fun j hj => by have := h7 _ (ho j (by omega)); show l0 _ < 8; omega) hat
  rw [small_at nc hn h1 a ha]
  by_cases c : a < nc
  · rw [if_pos c]
  · rw [if_neg c, hz a (by omega) ha]
/-! ### The head, and the block -/
/-- What a dynamic block begins with, behind its kind. -/
def headP (ns nd nc : Nat) (l0 : Nat → Nat) (ss : List Sp) : List Pc :=
  [(ns - 257, 5), (nd - 1, 5), (nc - 4, 4)] ++ (((List.range nc).map fun j => (l0 (order.getD j 0), 3)) ++ ss.flatMap (stpP (word l0 19)))
/-- What is asked of them. -/
structure Hd (ns nd nc : Nat) (l0 l1 l2 : Nat → Nat) (ss : List Sp) : Prop where
  s : 257 ≤ ns ∧ ns ≤ 286
  d : 1 ≤ nd ∧ nd ≤ 30
  c : 4 ≤ nc ∧ nc ≤ 19
  seven : ∀ x, x < 19 → l0 x ≤ 7
  r0 : Right l0 19
  k0 : all l0 19 ≤ 2 ^ 15
  trim : ∀ j, nc ≤ j → j < 19 → l0 (order.getD j 0) = 0
  dec : Dec [] ss ((List.range ns).map l1 ++ (List.range nd).map l2)
  has : ∀ s ∈ ss, 0 < l0 s.1
  r1 : Right l1 ns
  r2 : Right l2 nd
  e : 0 < l1 256
theorem Hd.fit {ns nd nc : Nat} {l0 l1 l2 : Nat → Nat} {ss : List Sp} (h : Hd ns nd nc l0 l1 l2 ss) : Fit (headP ns nd nc l0 ss) := by
  have ho : ∀ j, j < 19 → order.getD j 0 < 19 := by decide
  have hs := h.s
  have hd := h.d
  have hc := h.c
  refine Fit.append (Fit.cons (by show ns - 257 < 2 ^ 5; omega) (Fit.cons (by show nd - 1 < 2 ^ 5; omega) (Fit.cons (by show nc - 4 < 2 ^ 4; omega) Fit.nil))) (Fit.append (threes_fit _ _ (fun j hj => by have := h.seven _ (ho j (by omega)); omega)) (steps_fit h.dec.each))
theorem row_one (l1 l2 : Nat → Nat) (ns nd i : Nat) (h : i < ns) : ((List.range ns).map l1 ++ (List.range nd).map l2).getD i 0 = l1 i := by
  rw [List.getD_eq_getElem?_getD, List.getElem?_append_left (by simpa using h)]
  simp [h]
theorem row_two (l1 l2 : Nat → Nat) (ns nd i : Nat) (h : i < nd) : ((List.range ns).map l1 ++ (List.range nd).map l2).getD (ns + i) 0 = l2 i := by
  rw [List.getD_eq_getElem?_getD, List.getElem?_append_right (by simp)]
  simp [h]
theorem dyn_head {V nb k ns nd nc : Nat} {l0 l1 l2 : Nat → Nat} {ss : List Sp} (h : Hd ns nd nc l0 l1 l2 ss) (hat : At V nb k (headP ns nd nc l0 ss)) :
    dyn V nb k = some (k + len (headP ns nd nc l0 ss), (List.range ns).map l1 ++ (List.range nd).map l2, ns) := by
  obtain ⟨s1, s2⟩ := h.s
  obtain ⟨d1, d2⟩ := h.d
  obtain ⟨c1, c2⟩ := h.c
  have ho : ∀ j, j < 19 → order.getD j 0 < 19 := by decide
  unfold headP at hat
  obtain ⟨a0, hat⟩ := At.split (Fit.cons (by show ns - 257 < 2 ^ 5; omega) (Fit.cons (by show nd - 1 < 2 ^ 5; omega) (Fit.cons (by show nc - 4 < 2 ^ 4; omega) Fit.nil))) hat
  obtain ⟨x1, a0⟩ := At.cons (by show ns - 257 < 2 ^ 5; omega) a0
  obtain ⟨x2, x3⟩ := At.cons (by show nd - 1 < 2 ^ 5; omega) a0
  have y1 := x1.one
  have y2 := x2.one
  have y3 := x3.one
  simp only at y1 y2 y3
  have hl3 : len [(ns - 257, 5), (nd - 1, 5), (nc - 4, 4)] = 14 := rfl
  rw [hl3] at hat
  obtain ⟨b1, b2⟩ := At.split (threes_fit _ _ (fun j hj => by have := h.seven _ (ho j (by omega)); omega)) hat
  rw [len_threes] at b2
  have hsm := small_is (V := V) (nb := nb) (k := k + 14) c2 h.seven h.trim b1
  have hb1 := b1.1
  rw [len_threes] at hb1
  have hrow := h.dec
  have htot : ((List.range ns).map l1 ++ (List.range nd).map l2).length = ns + nd := by simp
  have hrun := rows_run (V := V) (nb := nb) (tot := ns + nd) (fun x hx => by have := h.seven x hx; omega) h.k0 h.dec h.has b2 htot
  have e1 : V / 2 ^ k % 2 ^ 5 + 257 = ns := by rw [y1.2]; omega
  have e2 : V / 2 ^ (k + 5) % 2 ^ 5 + 1 = nd := by rw [y2.2]; omega
  have e3 : V / 2 ^ (k + 10) % 2 ^ 4 + 4 = nc := by
    have := y3.2
    rw [show k + 5 + 5 = k + 10 by omega] at this
    rw [this]; omega
  have hstep : rowStep V nb (ns + nd) (small V (k + 14) nc) = rowStep V nb (ns + nd) l0 := by
    funext s
    unfold rowStep
    rw [wd_congr hsm]
    split
    · rfl
    · split
      · rfl
      · next i hi => rw [hsm i (of_wd hi).1]
  unfold dyn
  rw [e1, e2, e3, hstep, if_neg (by have := y3.1; omega), if_neg (by omega), if_neg (by omega), if_neg (not_not_intro (right_congr (fun i hi => (hsm i hi).symm) h.r0)), run_of hrun]
  simp only
  rw [if_neg]
  · unfold headP
    rw [len_append, len_append, hl3, len_threes]
    congr 2
    omega
  · rintro (q | q | q)
    · exact q (right_congr (fun i hi => (row_one l1 l2 ns nd i hi).symm) h.r1)
    · exact q (right_congr (fun i hi => (row_two l1 l2 ns nd i hi).symm) h.r2)
    · rw [row_one l1 l2 ns nd 256 (by omega)] at q
      have := h.e
      omega
end Go.Proofs.YtfeljhikeddodadGreatDoor.Ps
namespace Go.Proofs.YtfeljhikeddodadGreatDoor
open Go.RowKit

/-- Of what was there all is as it was but for the blocks S; the streams are as they were; no block has gone. -/
structure But (S : Nat → Prop) (w w' : World) : Prop where
  os : w'.os = w.os
  tape : w'.tape = w.tape
  output : w'.output = w.output
  size : w.heap.size ≤ w'.heap.size
  block : ∀ k, k < w.heap.size → ¬ S k → w'.heap[k]? = w.heap[k]?
theorem But.refl (S : Nat → Prop) (w : World) : But S w w := ⟨rfl, rfl, rfl, Nat.le_refl _, fun _ _ _ => rfl⟩
theorem But.trans {S : Nat → Prop} {a b c : World} (h : But S a b) (k : But S b c) : But S a c :=
  ⟨k.os.trans h.os, k.tape.trans h.tape, k.output.trans h.output, Nat.le_trans h.size k.size, fun i hi hs => (k.block i (Nat.lt_of_lt_of_le hi h.size) hs).trans (h.block i hi hs)⟩
theorem But.mono {S T : Nat → Prop} {w w' : World} (h : But S w w') (hs : ∀ k, k < w.heap.size → S k → T k) : But T w w' := ⟨h.os, h.tape, h.output, h.size, fun k hk ht => h.block k hk (fun s => ht (hs k hk s))⟩
theorem But.drew {S : Nat → Prop} {a w : World} (h : But S a w) : But S a w.drew := ⟨h.os, h.tape, h.output, h.size, h.block⟩
theorem But.drewN {S : Nat → Prop} {a w : World} (h : But S a w) (n : Nat) : But S a (w.drewN n) := h.trans ⟨rfl, rfl, rfl, Nat.le_refl _, fun _ _ _ => rfl⟩
theorem But.alloc {S : Nat → Prop} {a w : World} (h : But S a w) (o : Obj) : But S a (w.alloc o) :=
  h.trans ⟨rfl, rfl, rfl, by simp, fun k hk _ => Below.heap_alloc _ _ _ hk⟩
theorem But.setCell {S : Nat → Prop} {a w : World} (h : But S a w) {p : Addr} (hp : S p.block) (u : Value) : But S a (w.setCell p u) :=
  h.trans ⟨rfl, rfl, rfl, by simp [World.setCell], fun k _ hs => Below.heap_setCell _ _ _ _ (fun e => hs (by rw [e]; exact hp))⟩
theorem But.cell {S : Nat → Prop} {w w' : World} (h : But S w w') {p : Addr} (h0 : p.block < w.heap.size) (hs : ¬ S p.block) : w'.cell? p = w.cell? p := World.cell?_of_block (w := w) (h.block p.block h0 hs)
theorem But.frozen {S : Nat → Prop} {w w' : World} (h : But S w w') {p : Addr} (h0 : p.block < w.heap.size) (hs : ¬ S p.block) : w'.frozen? p = w.frozen? p := World.frozen?_of_block (w := w) (h.block p.block h0 hs)
theorem But.grown {S : Nat → Prop} {a w w' : World} {row : Option Nat} (h : But S a w) (hg : w.grownBy w' row) (hr : ∀ k, row = some k → k < a.heap.size → S k) : But S a w' :=
  ⟨hg.os.trans h.os, hg.tape.trans h.tape, hg.output.trans h.output, Nat.le_trans h.size hg.size, fun k hk hs => by rw [hg.block k (Nat.lt_of_lt_of_le hk h.size) (fun e => hs (hr k e.symm hk))]; exact h.block k hk hs⟩
theorem But.of_below {S : Nat → Prop} {a w w' : World} (h : But S a w) {B : Nat} (hb : Below B w w') (hB : ∀ k, k < a.heap.size → B ≤ k → S k) : But S a w' :=
  ⟨hb.os.trans h.os, hb.tape.trans h.tape, hb.output.trans h.output, Nat.le_trans h.size hb.size, fun k hk hs => by
    rw [hb.block k (by rcases Nat.lt_or_ge k B with c | c; exact c; exact absurd (hB k hk c) hs)]; exact h.block k hk hs⟩
theorem But.below {S : Nat → Prop} {w w' : World} (h : But S w w') {B : Nat} (hB : B ≤ w.heap.size) (hs : ∀ k, k < B → ¬ S k) : Below B w w' :=
  ⟨h.os, h.tape, h.output, h.size, fun k hk => h.block k (by omega) (hs k hk)⟩
theorem But.grownBy {w w' : World} {g : Nat} (h : But (· = g) w w') : w.grownBy w' (some g) := ⟨h.os, h.tape, h.output, h.size, fun k hk e => h.block k hk (fun q => e (by rw [q]))⟩
theorem own_rebase {w : World} {base base' size n : Nat} {e : TypeId} {v : Value} {xs : List Value} (h : w.ownsRow base e size v n xs) (hb : base' ≤ base) : w.ownsRow base' e size v n xs := by
  refine ⟨h.1, ?_⟩
  rcases h.2 with h2 | ⟨g, cap, cur, e, hg, r⟩
  · exact .inl h2
  · exact .inr ⟨g, cap, cur, e, by omega, r⟩
end Go.Proofs.YtfeljhikeddodadGreatDoor
namespace Go.Proofs.YtfeljhikeddodadGreatDoor
open Go.RowKit

set_option maxRecDepth 100000 in
/-- A call of a Go function, as one step of a statement that draws its order. -/
theorem step_calls {ops : Array Oper} {o : Oper} {a : Act} {w : World} {K : Act → World → Prop} {Q : Exit → Act → World → Prop} {E : Prop} (hgd : o.guard = none) (f : Nat) (xs : List Operand) (ts : Array TypeId)
    (ho : o.op = .call { callee := .value (.func f), args := xs.toArray, argTypes := ts }) (us : List Value) (hx : xs.map a.eval = us) (ent : ∀ args w, (callFunc f args).run Tryz.prog w = .ok (.enter f args) w)
    (h : Calls Tryz.prog f us.toArray w fun e w' => (∃ v, e = .returned v ∧ K (a.put o.dst v) w') ∨ ∃ ch, e = .panicked ch ∧ Q (.panic ch) a w') : if Region.wanted o (yielded ops a.tmps) = true then Oper.wp Tryz.prog o a w K Q else E := by
  have hw : Region.wanted o (yielded ops a.tmps) = true := by simp [Region.wanted, hgd]
  rw [if_pos hw]
  unfold Oper.wp execOp
  have e1 : a.eval (.func f) = Value.func (.func f) #[] #[] := rfl
  have e2 : ∀ ar : Array Value, ar ++ #[] = ar := fun ar => by simp
  have e3 : ∀ ar : Array Value, #[] ++ ar = ar := fun ar => by simp
  simp only [ho, resolve, invoke, Deferred.ofValue, e1, e2, e3, Sem.run_bind, Sem.run_pure, Result.andThen_ok, List.map_toArray, hx, ent]
  rw [Oper.upon_enter]
  refine h.mono ?_
  rintro e w' (⟨v, rfl, hk⟩ | ⟨ch, rfl, hq⟩)
  · exact hk
  · exact hq
end Go.Proofs.YtfeljhikeddodadGreatDoor
namespace Go.Proofs.YtfeljhikeddodadGreatDoor
open Go.RowKit Nf

/-- What the package's two rows hold. -/
structure Bl (w : World) : Prop where
  lenF : ∀ i, i < 29 → w.cell? ⟨10, i, none⟩ = some (.int .i64 (lens.getD i 0 : Nat))
  distF : ∀ i, i < 30 → w.cell? ⟨11, i, none⟩ = some (.int .i64 (dists.getD i 0 : Nat))
theorem Bl.of {w w' : World} (h : Bl w) (k : ∀ (a : Addr) (v : Value), a.block < 12 → w.cell? a = some v → w'.cell? a = some v) : Bl w' :=
  ⟨fun i hi => k _ _ (by simp) (h.lenF i hi), fun i hi => k _ _ (by simp) (h.distF i hi)⟩
theorem Bl.below {w w' : World} {B : Nat} (h : Bl w) (hb : Below B w w') (hB : 12 ≤ B) : Bl w' :=
  h.of fun _ _ ha hc => (hb.cell (by omega)).trans hc
theorem Bl.but {w w' : World} {S : Nat → Prop} (h : Bl w) (hb : But S w w') (hs : ∀ k, k < 12 → ¬ S k) : Bl w' :=
  h.of fun _ _ ha hc => (hb.cell (World.block_lt_of_cell? _ _ hc) (hs _ ha)).trans hc
theorem lengthBits_any (c : Nat) (w : World) (hc : c < 29) :
    Calls Tryz.prog 139 #[.int .i64 (c : Int)] w fun e w' => e = .returned (.int .i64 (lenBits c : Nat)) ∧ w' = w := by
  rcases (show c = 0 ∨ c = 1 ∨ c = 2 ∨ c = 3 ∨ c = 4 ∨ c = 5 ∨ c = 6 ∨ c = 7 ∨ c = 8 ∨ c = 9 ∨ c = 10 ∨ c = 11 ∨ c = 12 ∨ c = 13 ∨ c = 14 ∨ c = 15 ∨ c = 16 ∨ c = 17 ∨ c = 18 ∨ c = 19 ∨ c = 20 ∨ c = 21 ∨ c = 22 ∨ c = 23 ∨ c = 24 ∨ c = 25 ∨ c = 26 ∨ c = 27 ∨ c = 28 by omega) with rfl | rfl | rfl | rfl | rfl | rfl | rfl | rfl | rfl | rfl | rfl | rfl | rfl | rfl | rfl | rfl | rfl | rfl | rfl | rfl | rfl | rfl | rfl | rfl | rfl | rfl | rfl | rfl | rfl <;>
  (go_enter Tryz.func139, Tryz.ntmps139
   go_wp2
   go_ret
   exact ⟨rfl, rfl⟩)
theorem distanceBits_any (c : Nat) (w : World) (hc : c < 30) :
    Calls Tryz.prog 140 #[.int .i64 (c : Int)] w fun e w' => e = .returned (.int .i64 (distBits c : Nat)) ∧ w' = w := by
  rcases (show c = 0 ∨ c = 1 ∨ c = 2 ∨ c = 3 ∨ c = 4 ∨ c = 5 ∨ c = 6 ∨ c = 7 ∨ c = 8 ∨ c = 9 ∨ c = 10 ∨ c = 11 ∨ c = 12 ∨ c = 13 ∨ c = 14 ∨ c = 15 ∨ c = 16 ∨ c = 17 ∨ c = 18 ∨ c = 19 ∨ c = 20 ∨ c = 21 ∨ c = 22 ∨ c = 23 ∨ c = 24 ∨ c = 25 ∨ c = 26 ∨ c = 27 ∨ c = 28 ∨ c = 29 by omega) with rfl | rfl | rfl | rfl | rfl | rfl | rfl | rfl | rfl | rfl | rfl | rfl | rfl | rfl | rfl | rfl | rfl | rfl | rfl | rfl | rfl | rfl | rfl | rfl | rfl | rfl | rfl | rfl | rfl | rfl <;>
  (go_enter Tryz.func140, Tryz.ntmps140
   go_wp2
   go_ret
   exact ⟨rfl, rfl⟩)
theorem lenBits_le (c : Nat) (h : c < 29) : lenBits c ≤ 5 := by unfold lenBits; split <;> omega
theorem distBits_le (c : Nat) (h : c < 30) : distBits c ≤ 13 := by unfold distBits; split <;> omega
set_option maxRecDepth 10000 in
theorem lens_le : ∀ c, c < 29 → 3 ≤ lens.getD c 0 ∧ lens.getD c 0 ≤ 258 := by decide
set_option maxRecDepth 10000 in
theorem dists_le : ∀ c, c < 30 → 1 ≤ dists.getD c 0 ∧ dists.getD c 0 ≤ 24577 := by decide
set_option maxHeartbeats 1000000 in
set_option maxRecDepth 100000 in
theorem blockLength_yes (i c : Nat) (w : World) (hB : Bl w) (hc : c < 29) (hi : i = c + 257) :
    Calls Tryz.prog 99 #[.int .i64 (i : Int)] w fun e w' => e = .returned (.tuple #[.int .i64 (lens.getD c 0 : Nat), .int .i64 (lenBits c : Nat), .bool true]) ∧ ∃ n, w' = w.drewN n := by
  have zc : (i : Int) - 256 - 1 = (c : Int) := by omega
  have hw1 : IntKind.i64.wrap ((i : Int) - 256) = (i : Int) - 256 := by rw [IntKind.wrap_i64]; omega
  have d0 : decide ((c : Int) < 0) = false := by simp
  have d1 : decide ((29 : Int) ≤ (c : Int)) = false := by simp; omega
  have d2 : decide ((c : Int) ≥ 29) = false := d1
  have hc29 : (c : Int) < 29 := by omega
  have c10 := hB.lenF c hc
  have hll := lens_le c hc
  have hil : (i : Int) ≤ 1000 := by omega
  have HL := hide (fun w => lengthBits_any c w hc)
  obtain ⟨lc, hlc⟩ : ∃ q, q = lens.getD c 0 := ⟨_, rfl⟩
  obtain ⟨lb, hlb⟩ : ∃ q, q = lenBits c := ⟨_, rfl⟩
  rw [← hlc] at c10 hll ⊢
  rw [← hlb] at HL ⊢
  clear hB hlc hlb hi
  go_enter Tryz.func99, Tryz.ntmps99
  go_wp2
  go_quiet (first | (go_at_call 139; exact Calls.quiet_of_same (unhide HL _)))
  go_wp2
  go_ret3
  exact ⟨rfl, _, rfl⟩
set_option maxHeartbeats 1000000 in
set_option maxRecDepth 100000 in
theorem blockDistance_yes (c : Nat) (w : World) (hB : Bl w) (hc : c < 30) :
    Calls Tryz.prog 100 #[.int .i64 (c : Int)] w fun e w' => e = .returned (.tuple #[.int .i64 (dists.getD c 0 : Nat), .int .i64 (distBits c : Nat), .bool true]) ∧ ∃ n, w' = w.drewN n := by
  have d0 : decide ((c : Int) < 0) = false := by simp
  have d1 : decide ((30 : Int) ≤ (c : Int)) = false := by simp; omega
  have d2 : decide ((c : Int) ≥ 30) = false := d1
  have hc30 : (c : Int) < 30 := by omega
  have c10 := hB.distF c hc
  have hll := dists_le c hc
  have HL := hide (fun w => distanceBits_any c w hc)
  obtain ⟨lc, hlc⟩ : ∃ q, q = dists.getD c 0 := ⟨_, rfl⟩
  obtain ⟨lb, hlb⟩ : ∃ q, q = distBits c := ⟨_, rfl⟩
  rw [← hlc] at c10 hll ⊢
  rw [← hlb] at HL ⊢
  clear hB hlc hlb
  go_enter Tryz.func100, Tryz.ntmps100
  go_wp2
  go_quiet (first | (go_at_call 140; exact Calls.quiet_of_same (unhide HL _)))
  go_wp2
  go_ret3
  exact ⟨rfl, _, rfl⟩
/-- How often a symbol of the code of lengths tells a length, at least; and how many bits tell how often more. -/
def leastT (i : Nat) : Nat := if i = 16 then 3 else if i = 17 then 3 else if i = 18 then 11 else 1
def widthT (i : Nat) : Nat := if i = 16 then 2 else if i = 17 then 3 else if i = 18 then 7 else 0
theorem times_any (i : Nat) (w : World) :
    Calls Tryz.prog 123 #[.int .i64 (i : Int)] w fun e w' => e = .returned (.tuple #[.int .i64 (leastT i : Nat), .int .i64 (widthT i : Nat)]) ∧ w' = w := by
  unfold leastT widthT
  by_cases h1 : i = 16
  · subst h1
    go_enter Tryz.func123, Tryz.ntmps123
    go_wp2
    go_ret2
    exact ⟨rfl, rfl⟩
  have g1 : ((i : Int) == 16) = false := by simp; omega
  by_cases h2 : i = 17
  · subst h2
    go_enter Tryz.func123, Tryz.ntmps123
    go_wp2
    go_ret2
    exact ⟨rfl, rfl⟩
  have g2 : ((i : Int) == 17) = false := by simp; omega
  by_cases h3 : i = 18
  · subst h3
    go_enter Tryz.func123, Tryz.ntmps123
    go_wp2
    go_ret2
    exact ⟨rfl, rfl⟩
  have g3 : ((i : Int) == 18) = false := by simp; omega
  rw [if_neg h1, if_neg h2, if_neg h3, if_neg h1, if_neg h2, if_neg h3]
  clear h1 h2 h3
  go_enter Tryz.func123, Tryz.ntmps123
  go_wp2
  go_ret2
  exact ⟨rfl, rfl⟩
end Go.Proofs.YtfeljhikeddodadGreatDoor
