/- The document's own reading of packed texts in memory. -/
import Derived.Test.YtfeljhikeddodadGreatDoorMh22
import Derived.Test.YtfeljhikeddodadGreatDoorMh24
namespace Go.Proofs.YtfeljhikeddodadGreatDoor
open Go.RowKit Pm Cn Cd Nf

/-- Where the row of the field at this place lies. -/
def rowA (w : World) (R f : Nat) : Nat :=
  match w.cell? ⟨R, f, none⟩ with
  | some (.slice (some a) _ _) => a.block
  | _ => R
theorem rowA_own {w : World} {R f k : Nat} {v : Value} (h : w.cell? ⟨R, f, none⟩ = some v) (hk : v.ownBlock = some k) : rowA w R f = k := by
  unfold rowA; rw [h]
  unfold Value.ownBlock at hk
  split at hk
  · simpa using hk
  · simp at hk
theorem rowA_same {w w' : World} {R f : Nat} (h : w'.cell? ⟨R, f, none⟩ = w.cell? ⟨R, f, none⟩) : rowA w' R f = rowA w R f := by
  unfold rowA; rw [h]
/-- A slice. -/
abbrev Slc := { v : Value // ∃ a n c, v = Value.slice a n c }
abbrev slc (a : Option Addr) (n c : Nat) : Slc := ⟨.slice a n c, a, n, c, rfl⟩
/-- What else a reading holds: how many tokens, and what is counted. -/
structure Ex where
  q : Nat
  u7 : Slc
  u8 : Slc
  ts : List Value
  m5 : Slc
  m6 : Slc
  n9 : Int
  n10 : Int
/-- The reading at block R: so many bits read, this written, no error yet. -/
structure Rg (w : World) (R : Nat) (s : ByteArray) (k : Nat) (out : List UInt8) (most : Nat) (x : Ex) : Prop where
  bits : w.cell? ⟨R, 0, none⟩ = some (.string (bt (8 * s.size) (tv s)))
  at_ : w.cell? ⟨R, 1, none⟩ = some (.int .i64 (k : Int))
  text : ∃ v, w.cell? ⟨R, 2, none⟩ = some v ∧ w.ownsRow (R + 1) 5 1 v out.length (byteVals out)
  mst : w.cell? ⟨R, 3, none⟩ = some (.int .i64 (most : Int))
  err : w.cell? ⟨R, 4, none⟩ = some (.int .i64 0)
  f5 : w.cell? ⟨R, 5, none⟩ = some x.m5.1
  f6 : w.cell? ⟨R, 6, none⟩ = some x.m6.1
  uses7 : w.cell? ⟨R, 7, none⟩ = some x.u7.1
  uses8 : w.cell? ⟨R, 8, none⟩ = some x.u8.1
  f9 : w.cell? ⟨R, 9, none⟩ = some (.int .i64 x.n9)
  f10 : w.cell? ⟨R, 10, none⟩ = some (.int .i64 x.n10)
  tok : ∃ v, w.cell? ⟨R, 11, none⟩ = some v ∧ w.ownsRow (R + 1) 51 3 v x.q x.ts
  free : ∀ j, w.frozen? ⟨R, j, none⟩ = false
  apart : rowA w R 2 = rowA w R 11 → rowA w R 2 = R
  small : out.length ≤ most
  low : most ≤ 300000
  within : k ≤ 8 * s.size
  few : s.size ≤ 20000
/-- The reading at block R has an error. -/
structure Rf (w : World) (R er : Nat) : Prop where
  err : w.cell? ⟨R, 4, none⟩ = some (.int .i64 (er : Int))
  pos : er = 1 ∨ er = 2
  others : ∀ j, j = 5 ∨ j = 6 ∨ j = 7 ∨ j = 8 → ∃ v, w.cell? ⟨R, j, none⟩ = some v
  free : ∀ j, w.frozen? ⟨R, j, none⟩ = false
/-- All is as it was but for the reading, its bytes and its tokens (and the blocks S); these lie where they lay, or in new memory. -/
structure KR (R : Nat) (S : Nat → Prop) (w w' : World) : Prop where
  but : But (fun k => S k ∨ k = R ∨ k = rowA w R 2 ∨ k = rowA w R 11) w w'
  row2 : rowA w' R 2 = rowA w R 2 ∨ w.heap.size ≤ rowA w' R 2
  row11 : rowA w' R 11 = rowA w R 11 ∨ w.heap.size ≤ rowA w' R 11
/-- The rows lie where they lay. -/
def Rw (R : Nat) (w w' : World) : Prop := rowA w' R 2 = rowA w R 2 ∧ rowA w' R 11 = rowA w R 11
theorem Rw.refl (R : Nat) (w : World) : Rw R w w := ⟨rfl, rfl⟩
theorem Rw.trans {R : Nat} {a b c : World} (h : Rw R a b) (g : Rw R b c) : Rw R a c := ⟨g.1.trans h.1, g.2.trans h.2⟩
section
variable {w w' : World} {R : Nat} {s : ByteArray} {k : Nat} {out : List UInt8} {most : Nat} {x : Ex} {S : Nat → Prop}

theorem Rg.others (h : Rg w R s k out most x) (j : Nat) (hj : j = 5 ∨ j = 6) : ∃ v : Slc, w.cell? ⟨R, j, none⟩ = some v.1 := by
  rcases hj with rfl | rfl
  · exact ⟨_, h.f5⟩
  · exact ⟨_, h.f6⟩
theorem Rg.counts (h : Rg w R s k out most x) (j : Nat) (hj : j = 9 ∨ j = 10) : ∃ x : Int, w.cell? ⟨R, j, none⟩ = some (.int .i64 x) := by
  rcases hj with rfl | rfl
  · exact ⟨_, h.f9⟩
  · exact ⟨_, h.f10⟩
theorem Rg.toks (h : Rg w R s k out most x) : ∃ v xs, w.cell? ⟨R, 11, none⟩ = some v ∧ w.ownsRow (R + 1) 51 3 v x.q xs := by
  obtain ⟨v, h1, h2⟩ := h.tok
  exact ⟨v, _, h1, h2⟩
theorem Rg.lt (h : Rg w R s k out most x) : R < w.heap.size := World.block_lt_of_cell? _ _ h.at_
theorem row_in {e : TypeId} {sz n f : Nat} {v : Value} {xs : List Value} (hR : R < w.heap.size) (hv : w.cell? ⟨R, f, none⟩ = some v) (hown : w.ownsRow (R + 1) e sz v n xs) : R ≤ rowA w R f ∧ rowA w R f < w.heap.size := by
  rcases hown.2 with ⟨e, _⟩ | ⟨g, cap, cur, e, hb, hg, _⟩
  · subst e
    have : rowA w R f = R := by unfold rowA; rw [hv]
    omega
  · subst e
    have e2 : rowA w R f = g := rowA_own hv rfl
    have := (hown.lt g rfl).2
    omega
theorem Rg.row2 (h : Rg w R s k out most x) : R ≤ rowA w R 2 ∧ rowA w R 2 < w.heap.size := by
  obtain ⟨v, hv, hown⟩ := h.text
  exact row_in h.lt hv hown
theorem Rg.row11 (h : Rg w R s k out most x) : R ≤ rowA w R 11 ∧ rowA w R 11 < w.heap.size := by
  obtain ⟨v, xs, hv, hown⟩ := h.toks
  exact row_in h.lt hv hown
theorem KR.of (hb : But (· = R) w w') (hr : Rw R w w') : KR R S w w' := ⟨hb.mono (fun _ _ q => .inr (.inl q)), .inl hr.1, .inl hr.2⟩
theorem KR.refl (R : Nat) (S : Nat → Prop) (w : World) : KR R S w w := ⟨But.refl _ _, .inl rfl, .inl rfl⟩
theorem KR.trans {a b c : World} (h : KR R S a b) (g : KR R S b c) : KR R S a c := by
  have hs := h.but.size
  refine ⟨⟨g.but.os.trans h.but.os, g.but.tape.trans h.but.tape, g.but.output.trans h.but.output, Nat.le_trans hs g.but.size, fun i hi hn => ?_⟩, ?_, ?_⟩
  · rw [g.but.block i (by omega) (fun q => by
      rcases q with q | q | q | q
      · exact hn (.inl q)
      · exact hn (.inr (.inl q))
      · rcases h.row2 with e | e
        · exact hn (.inr (.inr (.inl (q.trans e))))
        · omega
      · rcases h.row11 with e | e
        · exact hn (.inr (.inr (.inr (q.trans e))))
        · omega), h.but.block i hi hn]
  · rcases g.row2 with e | e
    · rcases h.row2 with e' | e'
      · exact .inl (e.trans e')
      · exact .inr (by omega)
    · exact .inr (by omega)
  · rcases g.row11 with e | e
    · rcases h.row11 with e' | e'
      · exact .inl (e.trans e')
      · exact .inr (by omega)
    · exact .inr (by omega)
theorem KR.mono {T : Nat → Prop} (h : KR R S w w') (hT : ∀ k, k < w.heap.size → S k → T k ∨ k = R) : KR R T w w' :=
  ⟨h.but.mono (fun k hk q => by
    rcases q with q | q
    · rcases hT k hk q with q | q
      · exact .inl q
      · exact .inr (.inl q)
    · exact .inr q), h.row2, h.row11⟩
theorem KR.below (h : KR R S w w') (hI : Rg w R s k out most x) (hS : ∀ k, S k → R ≤ k) : Below R w w' :=
  h.but.below (by have := hI.lt; omega) (fun i hi q => by
    have h1 := hI.row2.1
    have h2 := hI.row11.1
    rcases q with q | q | q | q
    · have := hS i q; omega
    · omega
    · omega
    · omega)
/-- What lies apart from the reading is as it was. -/
theorem KR.cell (h : KR R S w w') {p : Addr} (hp : p.block < w.heap.size) (h0 : ¬ S p.block) (h1 : p.block ≠ R) (h2 : p.block ≠ rowA w R 2) (h3 : p.block ≠ rowA w R 11) : w'.cell? p = w.cell? p :=
  h.but.cell hp (fun q => by
    rcases q with q | q | q | q
    · exact h0 q
    · exact h1 q
    · exact h2 q
    · exact h3 q)
/-- Only cells of the reading are turned, and they hold what is asked. -/
theorem Rg.turned {k' : Nat} {x' : Ex} (h : Rg w R s k out most x) (hb : But (· = R) w w') (hc : ∀ j, j ≠ 1 → j < 5 ∨ j = 11 → w'.cell? ⟨R, j, none⟩ = w.cell? ⟨R, j, none⟩) (h1 : w'.cell? ⟨R, 1, none⟩ = some (.int .i64 (k' : Int))) (ho : w'.cell? ⟨R, 5, none⟩ = some x'.m5.1 ∧ w'.cell? ⟨R, 6, none⟩ = some x'.m6.1) (h7 : w'.cell? ⟨R, 7, none⟩ = some x'.u7.1) (h8 : w'.cell? ⟨R, 8, none⟩ = some x'.u8.1) (hq : x'.q = x.q ∧ x'.ts = x.ts) (ht : w'.cell? ⟨R, 9, none⟩ = some (.int .i64 x'.n9) ∧ w'.cell? ⟨R, 10, none⟩ = some (.int .i64 x'.n10)) (hf : ∀ j, w'.frozen? ⟨R, j, none⟩ = w.frozen? ⟨R, j, none⟩) (hw : k' ≤ 8 * s.size) : Rg w' R s k' out most x' ∧ Rw R w w' := by
  have hl := h.lt
  have e2 : rowA w' R 2 = rowA w R 2 := rowA_same (hc 2 (by omega) (by omega))
  have e11 : rowA w' R 11 = rowA w R 11 := rowA_same (hc 11 (by omega) (by omega))
  obtain ⟨v, hv, hown⟩ := h.text
  obtain ⟨u, hu, hown2⟩ := h.tok
  have keep : ∀ {e : TypeId} {sz n : Nat} {v : Value} {xs : List Value}, w.ownsRow (R + 1) e sz v n xs → w'.ownsRow (R + 1) e sz v n xs := fun {e sz n v xs} hown => by
    refine hown.kept (row := some R) hb.grownBy ?_
    cases e : v.ownBlock with
    | none => exact .inl rfl
    | some b => exact .inr (fun q => by injection q with q; have := (hown.lt b e).1; omega)
  refine ⟨⟨(hc 0 (by omega) (by omega)).trans h.bits, h1, ⟨v, (hc 2 (by omega) (by omega)).trans hv, keep hown⟩, (hc 3 (by omega) (by omega)).trans h.mst, (hc 4 (by omega) (by omega)).trans h.err, ho.1, ho.2, h7, h8, ht.1, ht.2, ⟨u, (hc 11 (by omega) (by omega)).trans hu, by rw [hq.1, hq.2]; exact keep hown2⟩, fun j => (hf j).trans (h.free j), by rw [e2, e11]; exact h.apart, h.small, h.low, hw, h.few⟩, e2, e11⟩
theorem Rg.still (h : Rg w R s k out most x) (hb : Below w.heap.size w w') : Rg w' R s k out most x ∧ Rw R w w' := by
  have hl := h.lt
  have hc : ∀ j, w'.cell? ⟨R, j, none⟩ = w.cell? ⟨R, j, none⟩ := fun j => hb.cell (p := ⟨R, j, none⟩) hl
  exact h.turned ((But.refl _ _).of_below hb (fun k h1 h2 => by omega)) (fun j _ _ => hc j) ((hc 1).trans h.at_) ⟨(hc 5).trans h.f5, (hc 6).trans h.f6⟩ ((hc 7).trans h.uses7) ((hc 8).trans h.uses8) ⟨rfl, rfl⟩ ⟨(hc 9).trans h.f9, (hc 10).trans h.f10⟩ (fun j => hb.frozen (p := ⟨R, j, none⟩) hl) h.within
/-- What is turned lies apart from the reading and its rows. -/
theorem Rg.aparts (h : Rg w R s k out most x) (hb : But S w w') (h1 : ¬ S R) (h2 : ¬ S (rowA w R 2)) (h3 : ¬ S (rowA w R 11)) : Rg w' R s k out most x ∧ Rw R w w' := by
  have hl := h.lt
  have hc : ∀ j, w'.cell? ⟨R, j, none⟩ = w.cell? ⟨R, j, none⟩ := fun j => hb.cell (p := ⟨R, j, none⟩) hl h1
  have e2 : rowA w' R 2 = rowA w R 2 := rowA_same (hc 2)
  have e11 : rowA w' R 11 = rowA w R 11 := rowA_same (hc 11)
  obtain ⟨v, hv, hown⟩ := h.text
  obtain ⟨u, hu, hown2⟩ := h.tok
  have keep : ∀ {e : TypeId} {sz n f : Nat} {v : Value} {xs : List Value}, w.cell? ⟨R, f, none⟩ = some v → ¬ S (rowA w R f) → w.ownsRow (R + 1) e sz v n xs → w'.ownsRow (R + 1) e sz v n xs := fun {e sz n f v xs} hv hs hown => by
    obtain ⟨h1, h2⟩ := hown
    refine ⟨h1, ?_⟩
    rcases h2 with h2 | ⟨g, cap, cur, hve, hg, hh, r⟩
    · exact Or.inl h2
    · exact Or.inr ⟨g, cap, cur, hve, hg, by
        have hgl : g < w.heap.size := by
          rcases Nat.lt_or_ge g w.heap.size with c | c
          · exact c
          · rw [Array.getElem?_eq_none c] at hh; cases hh
        rw [hb.block g hgl (by have e := rowA_own (k := g) hv (by rw [hve]; rfl); rw [← e]; exact hs)]; exact hh, r⟩
  exact ⟨⟨(hc 0).trans h.bits, (hc 1).trans h.at_, ⟨v, (hc 2).trans hv, keep hv h2 hown⟩, (hc 3).trans h.mst, (hc 4).trans h.err, (hc 5).trans h.f5, (hc 6).trans h.f6, (hc 7).trans h.uses7, (hc 8).trans h.uses8, (hc 9).trans h.f9, (hc 10).trans h.f10, ⟨u, (hc 11).trans hu, keep hu h3 hown2⟩, fun j => (hb.frozen (p := ⟨R, j, none⟩) hl h1).trans (h.free j), by rw [e2, e11]; exact h.apart, h.small, h.low, h.within, h.few⟩, e2, e11⟩
theorem cell_set (w : World) (R j i : Nat) (v u : Value) (h : w.cell? ⟨R, j, none⟩ = some u) : (w.setCell ⟨R, j, none⟩ v).cell? ⟨R, i, none⟩ = if i = j then some v else w.cell? ⟨R, i, none⟩ := by
  by_cases e : i = j
  · subst e; rw [if_pos rfl]; exact World.cell?_setCell_same _ _ _ h
  · rw [if_neg e]; exact World.cell?_setCell_other _ _ _ _ (fun q => e (by injection q with _ q; exact q.symm))
theorem frozen_set (w : World) (p q : Addr) (v : Value) : (w.setCell p v).frozen? q = w.frozen? q := by simp
/-- Bits are read. -/
theorem Rg.moved {k' : Nat} (h : Rg w R s k out most x) (hw : k' ≤ 8 * s.size) : Rg (w.setCell ⟨R, 1, none⟩ (.int .i64 (k' : Int))) R s k' out most x ∧ Rw R w (w.setCell ⟨R, 1, none⟩ (.int .i64 (k' : Int))) := by
  have hc := fun i => cell_set w R 1 i (.int .i64 (k' : Int)) _ h.at_
  refine h.turned ((But.refl (· = R) w).setCell (p := ⟨R, 1, none⟩) rfl _) (fun j hj _ => by rw [hc, if_neg hj]) (by rw [hc, if_pos rfl]) ⟨by rw [hc, if_neg (by omega)]; exact h.f5, by rw [hc, if_neg (by omega)]; exact h.f6⟩ (by rw [hc, if_neg (by omega)]; exact h.uses7) (by rw [hc, if_neg (by omega)]; exact h.uses8) ⟨rfl, rfl⟩ ⟨by rw [hc, if_neg (by omega)]; exact h.f9, by rw [hc, if_neg (by omega)]; exact h.f10⟩ (fun j => frozen_set _ _ _ _) hw
/-- An error is set down. -/
theorem Rg.failed {er : Nat} (h : Rg w R s k out most x) (he : er = 1 ∨ er = 2) : Rf (w.setCell ⟨R, 4, none⟩ (.int .i64 (er : Int))) R er := by
  have hc := fun i => cell_set w R 4 i (.int .i64 (er : Int)) _ h.err
  exact ⟨by rw [hc, if_pos rfl], he, fun j hj => by
    rw [hc, if_neg (by omega)]
    rcases hj with e | e | e | e
    · obtain ⟨v, hv⟩ := h.others j (.inl e); exact ⟨v.1, hv⟩
    · obtain ⟨v, hv⟩ := h.others j (.inr e); exact ⟨v.1, hv⟩
    · rw [e]; exact ⟨_, h.uses7⟩
    · rw [e]; exact ⟨_, h.uses8⟩, fun j => by rw [frozen_set]; exact h.free j⟩
theorem Rf.below {er B : Nat} (h : Rf w R er) (hb : Below B w w') (hR : R < B) : Rf w' R er :=
  ⟨(hb.cell (p := ⟨R, 4, none⟩) hR).trans h.err, h.pos, fun j hj => by rw [hb.cell (p := ⟨R, j, none⟩) hR]; exact h.others j hj, fun j => by rw [hb.frozen (p := ⟨R, j, none⟩) hR]; exact h.free j⟩
theorem Rg.drew (h : Rg w R s k out most x) : Rg w.drew R s k out most x := (h.still ((Below.refl _ _).drew)).1
theorem Rf.lt {er : Nat} (h : Rf w R er) : R < w.heap.size := World.block_lt_of_cell? _ _ h.err
theorem Rf.drew {er : Nat} (h : Rf w R er) : Rf w.drew R er := h.below ((Below.refl _ _).drew) h.lt
theorem own_here {w w' : World} {base size n : Nat} {e : TypeId} {v : Value} {xs : List Value} (h : w.ownsRow base e size v n xs) (hb : ∀ g, v.ownBlock = some g → w'.heap[g]? = w.heap[g]?) : w'.ownsRow base e size v n xs := by
  obtain ⟨h1, h2⟩ := h
  refine ⟨h1, ?_⟩
  rcases h2 with h2 | ⟨g, cap, cur, hv, hg, hh, r⟩
  · exact Or.inl h2
  · exact Or.inr ⟨g, cap, cur, hv, hg, by rw [hb g (by rw [hv]; rfl)]; exact hh, r⟩
theorem own_some {e : TypeId} {base sz n : Nat} {v : Value} {xs : List Value} (h : w.ownsRow base e sz v n xs) (hn : 0 < n) : ∃ g, v.ownBlock = some g ∧ base ≤ g ∧ g < w.heap.size := by
  rcases h.2 with ⟨_, e⟩ | ⟨g, cap, cur, e, _⟩
  · omega
  · subst e; exact ⟨g, rfl, h.lt g rfl⟩
theorem rowA_nil {f : Nat} {e : TypeId} {base sz n : Nat} {v : Value} {xs : List Value} (hv : w.cell? ⟨R, f, none⟩ = some v) (hown : w.ownsRow base e sz v n xs) : rowA w R f = match v.ownBlock with | some g => g | none => R := by
  cases eb : v.ownBlock with
  | some g => exact rowA_own hv eb
  | none =>
    unfold rowA; rw [hv]
    rcases hown.2 with ⟨e, _⟩ | ⟨g, cap, cur, e, _⟩
    · subst e; rfl
    · subst e; cases eb
/-- A row of the reading has grown. -/
theorem Rg.grow {w0 w1 : World} {f f' : Nat} {e e' : TypeId} {sz sz' n n' m : Nat} {v v' u : Value} {xs xs' ys : List Value} (hR : R < w.heap.size) (hff : f ≠ f')
    (hv : w.cell? ⟨R, f, none⟩ = some v) (hownv : w.ownsRow (R + 1) e sz v n xs) (hu : w.cell? ⟨R, f', none⟩ = some u) (hownu : w.ownsRow (R + 1) e' sz' u m ys) (hap : rowA w R f = rowA w R f' → rowA w R f = R)
    (h0 : Below w.heap.size w w0) (hg : w0.grownBy w1 v.ownBlock) (hown : w1.ownsRow (R + 1) e sz v' n' xs') (hn : 0 < n') (hat : v'.ownBlock = v.ownBlock ∨ v'.ownBlock = some w0.heap.size) :
    But (fun k => k = R ∨ k = rowA w R f) w (w1.setCell ⟨R, f, none⟩ v') ∧ (rowA (w1.setCell ⟨R, f, none⟩ v') R f = rowA w R f ∨ w.heap.size ≤ rowA (w1.setCell ⟨R, f, none⟩ v') R f) ∧ (∀ j, j ≠ f → (w1.setCell ⟨R, f, none⟩ v').cell? ⟨R, j, none⟩ = w.cell? ⟨R, j, none⟩) ∧ (w1.setCell ⟨R, f, none⟩ v').cell? ⟨R, f, none⟩ = some v' ∧ (∀ j, (w1.setCell ⟨R, f, none⟩ v').frozen? ⟨R, j, none⟩ = w.frozen? ⟨R, j, none⟩) ∧
    (w1.setCell ⟨R, f, none⟩ v').ownsRow (R + 1) e sz v' n' xs' ∧ (w1.setCell ⟨R, f, none⟩ v').ownsRow (R + 1) e' sz' u m ys ∧ rowA (w1.setCell ⟨R, f, none⟩ v') R f ≠ rowA (w1.setCell ⟨R, f, none⟩ v') R f' := by
  have hz0 := h0.size
  have hz1 := hg.size
  have hrow : ∀ g, v.ownBlock = some g → R + 1 ≤ g ∧ g < w.heap.size := fun g e => hownv.lt g e
  have hblk : ∀ i, i < w.heap.size → v.ownBlock ≠ some i → w1.heap[i]? = w.heap[i]? := fun i hi hn => by
    rw [hg.block i (by omega) (fun q => hn q.symm), h0.block i hi]
  have hnR : v.ownBlock ≠ some R := fun q => by have := hrow R q; omega
  have cR : ∀ o, w1.cell? ⟨R, o, none⟩ = w.cell? ⟨R, o, none⟩ := fun o => World.cell?_of_block (hblk R hR hnR)
  have fR : ∀ o, w1.frozen? ⟨R, o, none⟩ = w.frozen? ⟨R, o, none⟩ := fun o => World.frozen?_of_block (hblk R hR hnR)
  have hne : ∀ o, o ≠ f → (w1.setCell ⟨R, f, none⟩ v').cell? ⟨R, o, none⟩ = w.cell? ⟨R, o, none⟩ := fun o ho => by
    rw [World.cell?_setCell_other _ _ _ _ (by intro q; injection q with _ q; exact ho q.symm), cR]
  have ho' : (w1.setCell ⟨R, f, none⟩ v').ownsRow (R + 1) e sz v' n' xs' := ownsRow_setCell_below hown (by show R < R + 1; omega) _
  have c1 : (w1.setCell ⟨R, f, none⟩ v').cell? ⟨R, f, none⟩ = some v' := World.cell?_setCell_same _ _ _ ((cR f).trans hv)
  have hrw := rowA_nil hv hownv
  have hru := rowA_nil hu hownu
  have hnu : ∀ g, u.ownBlock = some g → v.ownBlock ≠ some g := fun g e q => by
    rw [q] at hrw
    rw [e] at hru
    simp only at hrw hru
    have := hap (hrw.trans hru.symm)
    have := hrow g q
    omega
  have hu' : (w1.setCell ⟨R, f, none⟩ v').ownsRow (R + 1) e' sz' u m ys := own_here hownu (fun g e => by
    have h1 := hownu.lt g e
    rw [Below.heap_setCell _ _ _ _ (by show g ≠ R; omega), hblk g h1.2 (hnu g e)])
  have hr' : rowA (w1.setCell ⟨R, f, none⟩ v') R f = rowA w R f ∨ w.heap.size ≤ rowA (w1.setCell ⟨R, f, none⟩ v') R f := by
    rcases hat with q | q
    · obtain ⟨g, eb, _⟩ := own_some ho' hn
      left
      rw [rowA_own c1 eb, hrw, ← q, eb]
    · right
      rw [rowA_own c1 q]; omega
  refine ⟨⟨hg.os.trans h0.os, hg.tape.trans h0.tape, hg.output.trans h0.output, by simp [World.setCell]; omega, fun i hi hn => ?_⟩, hr', hne, c1, fun j => by rw [World.frozen?_setCell, fR], ho', hu', ?_⟩
  · rw [Below.heap_setCell _ _ _ _ (fun q => hn (.inl q))]
    refine hblk i hi (fun q => hn (.inr ?_))
    rw [hrw, q]
  · have e2 : rowA (w1.setCell ⟨R, f, none⟩ v') R f' = rowA w R f' := rowA_same (hne f' (fun q => hff q.symm))
    have hin := row_in hR hu hownu
    obtain ⟨g, eb, hgR, _⟩ := own_some ho' hn
    have e1 := rowA_own c1 eb
    rw [e2]
    rcases hr' with q | q
    · intro hq
      have := hap (q.symm.trans hq)
      omega
    · omega
theorem Rg.pushed {w0 w1 : World} {v v' : Value} {b : UInt8} (h : Rg w R s k out most x) (hv : w.cell? ⟨R, 2, none⟩ = some v) (h0 : Below w.heap.size w w0)
    (hown : w1.ownsRow (R + 1) 5 1 v' (out ++ [b]).length (byteVals (out ++ [b]))) (hg : w0.grownBy w1 v.ownBlock) (hat : v'.ownBlock = v.ownBlock ∨ v'.ownBlock = some w0.heap.size) (hm : out.length + 1 ≤ most) :
    Rg (w1.setCell ⟨R, 2, none⟩ v') R s k (out ++ [b]) most x ∧ KR R S w (w1.setCell ⟨R, 2, none⟩ v') := by
  obtain ⟨v2, hv2, hown2⟩ := h.text
  have e : v2 = v := by rw [hv] at hv2; injection hv2 with e; exact e.symm
  subst e
  obtain ⟨u, hu, hownu⟩ := h.tok
  obtain ⟨a1, a2, a3, a4, a5, a6, a7, a8⟩ := Rg.grow (f := 2) (f' := 11) h.lt (by omega) hv hown2 hu hownu h.apart h0 hg hown (by simp) hat
  refine ⟨⟨(a3 0 (by omega)).trans h.bits, (a3 1 (by omega)).trans h.at_, ⟨v', a4, a6⟩, (a3 3 (by omega)).trans h.mst, (a3 4 (by omega)).trans h.err, (a3 5 (by omega)).trans h.f5, (a3 6 (by omega)).trans h.f6, (a3 7 (by omega)).trans h.uses7, (a3 8 (by omega)).trans h.uses8, (a3 9 (by omega)).trans h.f9, (a3 10 (by omega)).trans h.f10, ⟨u, (a3 11 (by omega)).trans hu, a7⟩, fun j => (a5 j).trans (h.free j), fun q => absurd q a8, by simp; omega, h.low, h.within, h.few⟩, ⟨a1.mono (fun i _ q => by rcases q with q | q; exact .inr (.inl q); exact .inr (.inr (.inl q))), a2, .inl (rowA_same (a3 11 (by omega)))⟩⟩
theorem Rg.tokened {w0 w1 : World} {v v' : Value} {xs' : List Value} (h : Rg w R s k out most x) (hv : w.cell? ⟨R, 11, none⟩ = some v) (h0 : Below w.heap.size w w0)
    (hown : w1.ownsRow (R + 1) 51 3 v' (x.q + 1) xs') (hg : w0.grownBy w1 v.ownBlock) (hat : v'.ownBlock = v.ownBlock ∨ v'.ownBlock = some w0.heap.size) :
    Rg (w1.setCell ⟨R, 11, none⟩ v') R s k out most { x with q := x.q + 1, ts := xs' } ∧ KR R S w (w1.setCell ⟨R, 11, none⟩ v') := by
  obtain ⟨v2, xs, hv2, hown2⟩ := h.toks
  have e : v2 = v := by rw [hv] at hv2; injection hv2 with e; exact e.symm
  subst e
  obtain ⟨u, hu, hownu⟩ := h.text
  obtain ⟨a1, a2, a3, a4, a5, a6, a7, a8⟩ := Rg.grow (f := 11) (f' := 2) h.lt (by omega) hv hown2 hu hownu (fun q => q.trans (h.apart q.symm)) h0 hg hown (by omega) hat
  refine ⟨⟨(a3 0 (by omega)).trans h.bits, (a3 1 (by omega)).trans h.at_, ⟨u, (a3 2 (by omega)).trans hu, a7⟩, (a3 3 (by omega)).trans h.mst, (a3 4 (by omega)).trans h.err, (a3 5 (by omega)).trans h.f5, (a3 6 (by omega)).trans h.f6, (a3 7 (by omega)).trans h.uses7, (a3 8 (by omega)).trans h.uses8, (a3 9 (by omega)).trans h.f9, (a3 10 (by omega)).trans h.f10, ⟨v', a4, a6⟩, fun j => (a5 j).trans (h.free j), fun q => absurd q.symm a8, h.small, h.low, h.within, h.few⟩, ⟨a1.mono (fun i _ q => by rcases q with q | q; exact .inr (.inl q); exact .inr (.inr (.inr q))), .inl (rowA_same (a3 2 (by omega))), a2⟩⟩
end
end Go.Proofs.YtfeljhikeddodadGreatDoor
