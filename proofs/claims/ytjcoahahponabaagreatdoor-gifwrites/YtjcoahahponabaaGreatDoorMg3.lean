/- Pieces of bits: numbers of so many bits, end to end: plain. Numbers packed by a growing list: plain. What is packed is unpacked (WELCH). All is as it was but for some blocks. A statement that draws its order, reads, and calls functions that make memory of their own alone: walked once. Rows of pixels: their cells, and a copy of one's own. -/
import Derived.Test.YtjcoahahponabaaGreatDoorMg2
import Derived.Test.YtjcoahahponabaaGreatDoorLzd
import Derived.Test.YtjcoahahponabaaGreatDoorMg1
import Derived.Below
import Derived.BigQuiet
import Derived.Deep.QuietTactic
import Derived.Deep.OwnRows
import Derived.Deep.AppendLies
import Derived.Laws.OwnMore
import Derived.Laws.ResultCell
namespace Go.Proofs.YtjcoahahponabaaGreatDoor.Ps

/-! ### Pieces: a number, and how many bits -/
abbrev Pc := Nat × Nat
def len : List Pc → Nat
  | [] => 0
  | p :: l => p.2 + len l
def val : List Pc → Nat
  | [] => 0
  | p :: l => p.1 + 2 ^ p.2 * val l
def Fit (l : List Pc) : Prop := ∀ p ∈ l, p.1 < 2 ^ p.2

theorem Fit.nil : Fit [] := fun _ h => by cases h
theorem Fit.cons {p : Pc} {l : List Pc} (h : p.1 < 2 ^ p.2) (hl : Fit l) : Fit (p :: l) := fun q hq => by
  rcases List.mem_cons.1 hq with e | e
  · rw [e]; exact h
  · exact hl q e
theorem Fit.append {a b : List Pc} (h : Fit a) (g : Fit b) : Fit (a ++ b) := fun q hq => by
  rcases List.mem_append.1 hq with e | e
  · exact h q e
  · exact g q e
theorem Fit.left {a b : List Pc} (h : Fit (a ++ b)) : Fit a := fun q hq => h q (List.mem_append.2 (.inl hq))
theorem Fit.right {a b : List Pc} (h : Fit (a ++ b)) : Fit b := fun q hq => h q (List.mem_append.2 (.inr hq))

theorem len_append (a b : List Pc) : len (a ++ b) = len a + len b := by
  induction a with
  | nil => simp [len]
  | cons p a ih => simp only [List.cons_append, len, ih]; omega
theorem val_append (a b : List Pc) : val (a ++ b) = val a + 2 ^ len a * val b := by
  induction a with
  | nil => simp [len, val]
  | cons p a ih =>
    simp only [List.cons_append, len, val, ih]
    rw [Nat.pow_add, Nat.mul_add, Nat.add_assoc, Nat.mul_assoc]
theorem val_lt {l : List Pc} (h : Fit l) : val l < 2 ^ len l := by
  induction l with
  | nil => simp [len, val]
  | cons p l ih => exact Bt.lt_more p.2 _ _ _ (h p (by simp)) (ih (fun q hq => h q (by simp [hq])))

/-- The pieces stand from the k-th bit on. -/
def At (V nb k : Nat) (l : List Pc) : Prop := k + len l ≤ nb ∧ V / 2 ^ k % 2 ^ len l = val l

theorem At.split {V nb k : Nat} {a b : List Pc} (ha : Fit a) (h : At V nb k (a ++ b)) : At V nb k a ∧ At V nb (k + len a) b := by
  obtain ⟨h1, h2⟩ := h
  rw [len_append] at h1
  rw [len_append, val_append] at h2
  have hv := val_lt ha
  refine ⟨⟨by omega, ?_⟩, ⟨by omega, ?_⟩⟩
  · have e : V / 2 ^ k % 2 ^ (len a + len b) % 2 ^ len a = V / 2 ^ k % 2 ^ len a := Nat.mod_mod_of_dvd _ (Nat.pow_dvd_pow 2 (by omega))
    rw [← e, h2, Nat.add_mul_mod_self_left, Nat.mod_eq_of_lt hv]
  · have e : V / 2 ^ (k + len a) % 2 ^ len b = V / 2 ^ k % 2 ^ (len a + len b) / 2 ^ len a := by
      rw [Nat.pow_add, Nat.pow_add, ← Nat.div_div_eq_div_mul, Nat.mod_mul_right_div_self]
    rw [e, h2, Nat.add_mul_div_left _ _ (Nat.two_pow_pos _), Nat.div_eq_of_lt hv, Nat.zero_add]
theorem At.join {V nb k : Nat} {a b : List Pc} (h : At V nb k a) (g : At V nb (k + len a) b) : At V nb k (a ++ b) := by
  obtain ⟨h1, h2⟩ := h
  obtain ⟨g1, g2⟩ := g
  refine ⟨by rw [len_append]; omega, ?_⟩
  rw [len_append, val_append, Nat.pow_add, Nat.mod_mul, h2, Nat.div_div_eq_div_mul, ← Nat.pow_add, g2]
theorem At.cons {V nb k : Nat} {p : Pc} {l : List Pc} (hp : p.1 < 2 ^ p.2) (h : At V nb k (p :: l)) : At V nb k [p] ∧ At V nb (k + p.2) l := by
  have := At.split (a := [p]) (b := l) (Fit.cons hp Fit.nil) h
  simpa [len] using this
theorem At.nil {V nb k : Nat} (h : k ≤ nb) : At V nb k [] := ⟨by simpa [len] using h, by simp [len, val, Nat.mod_one]⟩
theorem At.one {V nb k : Nat} {p : Pc} (h : At V nb k [p]) : k + p.2 ≤ nb ∧ V / 2 ^ k % 2 ^ p.2 = p.1 := by
  obtain ⟨h1, h2⟩ := h
  simp only [len, val, Nat.add_zero, Nat.mul_zero] at h1 h2
  exact ⟨h1, h2⟩
/-- Of a number that is these pieces, and others behind them. -/
theorem at_front {l : List Pc} {m n : Nat} (h : Fit l) : At (val l + 2 ^ len l * m) (len l + n) 0 l := by
  refine ⟨by omega, ?_⟩
  rw [Nat.pow_zero, Nat.div_one, Nat.add_mul_mod_self_left, Nat.mod_eq_of_lt (val_lt h)]

/-! ### Words -/
end Go.Proofs.YtjcoahahponabaaGreatDoor.Ps
namespace Go.Proofs.YtjcoahahponabaaGreatDoor
namespace Lz
open Ps

/-- Where a pair stands in the list. -/
def look (W : Nat) (P : List (Nat × Nat)) (c n : Nat) : Option Nat :=
  if (c, n) ∈ P then some (2 ^ W + 2 + P.idxOf (c, n)) else none

/-- The codes told from here on: the list P, S bits a code, the word on its way has the code c. -/
def packC (W : Nat) : List (Nat × Nat) → Nat → Nat → List UInt8 → List Pc
  | P, S, c, [] => [(c, S), (2 ^ W + 1, size' S (2 ^ W + 2 + P.length))]
  | P, S, c, b :: r =>
    match look W P c b.toNat with
    | some c' => packC W P S c' r
    | none => (c, S) :: (if 2 ^ W + 2 + P.length = 4095 then (2 ^ W, size' S 4095) :: packC W [] (W + 1) b.toNat r
        else packC W (P ++ [(c, b.toNat)]) (size' S (2 ^ W + 2 + P.length)) b.toNat r)

/-- All codes of a text. -/
def packAll (W : Nat) : List UInt8 → List Pc
  | [] => [(2 ^ W, W + 1), (2 ^ W + 1, W + 1)]
  | b :: r => (2 ^ W, W + 1) :: packC W [] (W + 1) b.toNat r

/-- The text of a code, by the texts of the longer words. -/
def textOf (W : Nat) (T : List (List UInt8)) (c : Nat) : List UInt8 := if c < 2 ^ W then [UInt8.ofNat c] else T.getD (c - (2 ^ W + 2)) []

/-- A code that means something. -/
def isCode (W m c : Nat) : Prop := c < 2 ^ W ∨ (2 ^ W + 2 ≤ c ∧ c < 2 ^ W + 2 + m)

/-- Pairs and the texts of them. -/
structure Trie (W : Nat) (P : List (Nat × Nat)) (T : List (List UInt8)) : Prop where
  many : T.length = P.length
  each : ∀ i, (h : i < P.length) → isCode W i (P[i]).1 ∧ (P[i]).2 < 2 ^ W ∧ T.getD i [] = textOf W T (P[i]).1 ++ [UInt8.ofNat (P[i]).2]
  full : 2 ^ W + 2 + P.length ≤ 4095

theorem Trie.nil (W : Nat) (h : W ≤ 8) : Trie W [] [] := ⟨rfl, fun i h => by simp at h, by have := pow2 W h; simp only [List.length_nil]; omega⟩

theorem textOf_more {W : Nat} {T : List (List UInt8)} {c : Nat} (x : List UInt8) (h : isCode W T.length c) : textOf W (T ++ [x]) c = textOf W T c := by
  unfold textOf
  rcases h with h | ⟨h1, h2⟩
  · rw [if_pos h, if_pos h]
  · rw [if_neg (by omega), if_neg (by omega), getD_left _ _ _ _ (by omega)]
theorem isCode.mono {W m m' c : Nat} (h : isCode W m c) (hm : m ≤ m') : isCode W m' c := by
  rcases h with h | ⟨h1, h2⟩
  · exact .inl h
  · exact .inr ⟨h1, by omega⟩

theorem Trie.push {W : Nat} {P : List (Nat × Nat)} {T : List (List UInt8)} (h : Trie W P T) {c n : Nat} (hc : isCode W P.length c) (hn : n < 2 ^ W) (hf : 2 ^ W + 2 + P.length ≠ 4095) :
    Trie W (P ++ [(c, n)]) (T ++ [textOf W T c ++ [UInt8.ofNat n]]) := by
  have hm := h.many
  have hfull := h.full
  refine ⟨by simp [hm], fun i hi => ?_, by simp only [List.length_append, List.length_cons, List.length_nil]; omega⟩
  by_cases hlt : i < P.length
  · obtain ⟨e1, e2, e3⟩ := h.each i hlt
    rw [List.getElem_append_left hlt, getD_left _ _ _ _ (by omega), textOf_more _ (by rw [hm]; exact e1.mono (by omega))]
    exact ⟨e1, e2, e3⟩
  · have hie : i = P.length := by simp only [List.length_append, List.length_cons, List.length_nil] at hi; omega
    subst hie
    rw [List.getElem_append_right (Nat.le_refl _)]
    simp only [Nat.sub_self, List.getElem_cons_zero]
    refine ⟨hc, hn, ?_⟩
    rw [getD_right _ _ _ _ (by omega), textOf_more _ (by rw [hm]; exact hc), show P.length - T.length = 0 by omega]
    rfl

theorem look_some {W : Nat} {P : List (Nat × Nat)} {T : List (List UInt8)} (h : Trie W P T) {c n c' : Nat} (hl : look W P c n = some c') : isCode W P.length c' ∧ textOf W T c' = textOf W T c ++ [UInt8.ofNat n] := by
  unfold look at hl
  split at hl
  · next hm =>
    have hi := List.idxOf_lt_length_of_mem hm
    injection hl with hl
    subst hl
    refine ⟨.inr ⟨by omega, by omega⟩, ?_⟩
    have := (h.each (P.idxOf (c, n)) hi).2.2
    rw [List.getElem_idxOf hi] at this
    rw [textOf, if_neg (by omega), Nat.add_sub_cancel_left]
    exact this
  · cases hl

theorem textOf_ne {W : Nat} {P : List (Nat × Nat)} {T : List (List UInt8)} (h : Trie W P T) {c : Nat} (hc : isCode W P.length c) : textOf W T c ≠ [] := by
  rcases hc with hc | ⟨h1, h2⟩
  · rw [textOf, if_pos hc]; simp
  · rw [textOf, if_neg (by omega), (h.each (c - (2 ^ W + 2)) (by omega)).2.2]; simp

/-- What the reading holds when the code of the word y is about to come. -/
def Lag (T : List (List UInt8)) (st : St) (y : List UInt8) : Prop :=
  (st.ahead = [] ∧ st.words = [] ∧ T = []) ∨ (st.ahead ≠ [] ∧ T = st.words ++ [st.ahead ++ y.take 1])

theorem Lag.wordOf {W : Nat} {P : List (Nat × Nat)} {T : List (List UInt8)} (h : Trie W P T) {st : St} {y : List UInt8} {c : Nat} (hc : isCode W P.length c) (hy : y = textOf W T c) (hl : Lag T st y) : wordOf W st c = some y ∧ words' W st y = T := by
  have hm := h.many
  have hfull := h.full
  rcases hl with ⟨h1, h2, h3⟩ | ⟨h1, h2⟩
  · subst h3
    have hP : P = [] := List.eq_nil_of_length_eq_zero (by rw [← hm]; rfl)
    subst hP
    have hlt : c < 2 ^ W := by
      rcases hc with q | ⟨q1, q2⟩
      · exact q
      · simp at q2; omega
    refine ⟨by rw [wordOf_low hlt, hy, textOf, if_pos hlt], ?_⟩
    rw [words', if_neg (by simp [more, h1]), h2]
  · have hmo : more W st = true := by
      have : T.length = st.words.length + 1 := by rw [h2]; simp
      simp only [more, Bool.and_eq_true, decide_eq_true_eq]
      exact ⟨h1, by omega⟩
    have hw : words' W st y = T := by rw [words', if_pos hmo, h2]
    refine ⟨?_, hw⟩
    have hTl : T.length = st.words.length + 1 := by rw [h2]; simp
    rcases hc with q | ⟨q1, q2⟩
    · rw [wordOf_low q, hy, textOf, if_pos q]
    · rw [textOf, if_neg (by omega)] at hy
      by_cases hlt : c - (2 ^ W + 2) < st.words.length
      · rw [Lz.wordOf, if_neg (by omega), if_pos hlt, hy, h2, getD_left _ _ _ _ hlt]
      · have he : c - (2 ^ W + 2) = st.words.length := by omega
        rw [Lz.wordOf, if_neg (by omega), if_neg hlt, if_pos ⟨he, hmo⟩]
        have hy2 : y = st.ahead ++ y.take 1 := by
          conv => lhs; rw [hy, h2, he, getD_right _ _ _ _ (Nat.le_refl _), Nat.sub_self]
          rfl
        have ht : y.take 1 = st.ahead.take 1 := by
          rw [hy2]
          cases ha : st.ahead with
          | nil => exact absurd ha h1
          | cons a r => simp
        rw [← ht, ← hy2]

theorem isCode_lt {W m c : Nat} (h : isCode W m c) (hm : 2 ^ W + 2 + m ≤ 4095) : c < 4095 := by
  rcases h with h | h <;> omega
end Lz
end Go.Proofs.YtjcoahahponabaaGreatDoor
namespace Go.Proofs.YtjcoahahponabaaGreatDoor
open Go.RowKit

/-- Of what was there all is as it was but for the blocks S; the streams are as they were; no block has gone. -/
structure But (S : Nat → Prop) (w w' : World) : Prop where
  os : w'.os = w.os
  tape : w'.tape = w.tape
  output : w'.output = w.output
  size : w.heap.size ≤ w'.heap.size
  block : ∀ k, k < w.heap.size → ¬ S k → w'.heap[k]? = w.heap[k]?

theorem But.refl (S : Nat → Prop) (w : World) : But S w w := ⟨rfl, rfl, rfl, Nat.le_refl _, fun _ _ _ => rfl⟩
theorem But.trans {S : Nat → Prop} {a b c : World} (h : But S a b) (k : But S b c) : But S a c :=
  ⟨k.os.trans h.os, k.tape.trans h.tape, k.output.trans h.output, Nat.le_trans h.size k.size, fun i hi hs => (k.block i (Nat.lt_of_lt_of_le hi h.size) hs).trans (h.block i hi hs)⟩
theorem But.mono {S T : Nat → Prop} {w w' : World} (h : But S w w') (hs : ∀ k, k < w.heap.size → S k → T k) : But T w w' := ⟨h.os, h.tape, h.output, h.size, fun k hk ht => h.block k hk (fun s => ht (hs k hk s))⟩
theorem But.drew {S : Nat → Prop} {a w : World} (h : But S a w) : But S a w.drew := ⟨h.os, h.tape, h.output, h.size, h.block⟩
theorem But.drewN {S : Nat → Prop} {a w : World} (h : But S a w) (n : Nat) : But S a (w.drewN n) := h.trans ⟨rfl, rfl, rfl, Nat.le_refl _, fun _ _ _ => rfl⟩
theorem But.alloc {S : Nat → Prop} {a w : World} (h : But S a w) (o : Obj) : But S a (w.alloc o) :=
  h.trans ⟨rfl, rfl, rfl, by simp, fun k hk _ => Below.heap_alloc _ _ _ hk⟩
theorem But.setCell {S : Nat → Prop} {a w : World} (h : But S a w) {p : Addr} (hp : S p.block) (u : Value) : But S a (w.setCell p u) :=
  h.trans ⟨rfl, rfl, rfl, by simp [World.setCell], fun k _ hs => Below.heap_setCell _ _ _ _ (fun e => hs (by rw [e]; exact hp))⟩
/-- A store into a block that was not there. -/
theorem But.setNew {S : Nat → Prop} {a w : World} (h : But S a w) {p : Addr} (hp : a.heap.size ≤ p.block) (u : Value) : But S a (w.setCell p u) :=
  ⟨h.os, h.tape, h.output, Nat.le_trans h.size (by simp [World.setCell]), fun k hk hs => by rw [Below.heap_setCell _ _ _ _ (by omega)]; exact h.block k hk hs⟩
theorem But.cell {S : Nat → Prop} {w w' : World} (h : But S w w') {p : Addr} (h0 : p.block < w.heap.size) (hs : ¬ S p.block) : w'.cell? p = w.cell? p := World.cell?_of_block (w := w) (h.block p.block h0 hs)
theorem But.frozen {S : Nat → Prop} {w w' : World} (h : But S w w') {p : Addr} (h0 : p.block < w.heap.size) (hs : ¬ S p.block) : w'.frozen? p = w.frozen? p := World.frozen?_of_block (w := w) (h.block p.block h0 hs)
theorem But.grown {S : Nat → Prop} {a w w' : World} {row : Option Nat} (h : But S a w) (hg : w.grownBy w' row) (hr : ∀ k, row = some k → k < a.heap.size → S k) : But S a w' :=
  ⟨hg.os.trans h.os, hg.tape.trans h.tape, hg.output.trans h.output, Nat.le_trans h.size hg.size, fun k hk hs => by rw [hg.block k (Nat.lt_of_lt_of_le hk h.size) (fun e => hs (hr k e.symm hk))]; exact h.block k hk hs⟩
theorem But.of_below {S : Nat → Prop} {a w w' : World} (h : But S a w) {B : Nat} (hb : Below B w w') (hB : ∀ k, k < a.heap.size → B ≤ k → S k) : But S a w' :=
  ⟨hb.os.trans h.os, hb.tape.trans h.tape, hb.output.trans h.output, Nat.le_trans h.size hb.size, fun k hk hs => by
    rw [hb.block k (by rcases Nat.lt_or_ge k B with c | c; exact c; exact absurd (hB k hk c) hs)]; exact h.block k hk hs⟩
theorem But.below {S : Nat → Prop} {w w' : World} (h : But S w w') {B : Nat} (hB : B ≤ w.heap.size) (hs : ∀ k, k < B → ¬ S k) : Below B w w' :=
  ⟨h.os, h.tape, h.output, h.size, fun k hk => h.block k (by omega) (hs k hk)⟩
theorem But.grownBy {w w' : World} {g : Nat} (h : But (· = g) w w') : w.grownBy w' (some g) := ⟨h.os, h.tape, h.output, h.size, fun k hk e => h.block k hk (fun q => e (by rw [q]))⟩
theorem own_rebase {w : World} {base base' size n : Nat} {e : TypeId} {v : Value} {xs : List Value} (h : w.ownsRow base e size v n xs) (hb : base' ≤ base) : w.ownsRow base' e size v n xs := by
  refine ⟨h.1, ?_⟩
  rcases h.2 with h2 | ⟨g, cap, cur, e, hg, r⟩
  · exact .inl h2
  · exact .inr ⟨g, cap, cur, e, by omega, r⟩
end Go.Proofs.YtjcoahahponabaaGreatDoor
namespace Go.Proofs.YtjcoahahponabaaGreatDoor
open Go.RowKit

theorem below_drewN {B : Nat} {a w : World} (h : Below B a w) (n : Nat) : Below B a (w.drewN n) := h.trans ⟨rfl, rfl, rfl, Nat.le_refl _, fun _ _ => rfl⟩

/-- A world in which all that lies below B in w lies unturned. -/
structure BelowOf (B : Nat) (w : World) where
  wld : World
  prf : Below B w wld

theorem region_below {id : Nat} {Q : Exit → Act → World → Prop} {a : Act} {w : World} {l : List Oper} (B : Nat) (w0 : World) (hw : Below B w0 w) (hB : Region.lexB .any l.toArray = true)
    (h : wpQuiet Tryz.prog l.toArray (fun w' => ∃ p : BelowOf B w0, w' = p.wld) (fun a' => ∀ w', (∃ p : BelowOf B w0, w' = p.wld) → Q .normal a' w') l a) : (Code.region id l.toArray true).wp Tryz.prog Q a w :=
  wp_region_quiet (C := fun w' => ∃ p : BelowOf B w0, w' = p.wld) (by kernel_rfl) hB ⟨⟨w.drew, hw.drew⟩, rfl⟩ (by simpa using h)

theorem Calls.below_of {f : FuncId} {args : Array Value} {B : Nat} {w : World} {p : BelowOf B w} {v : Value} (hB : B ≤ w.heap.size)
    (h : Calls Tryz.prog f args p.wld fun e w' => e = .returned v ∧ Below p.wld.heap.size p.wld w') : Calls Tryz.prog f args p.wld fun e w'' => e = .returned v ∧ ∃ q : BelowOf B w, w'' = q.wld :=
  h.mono fun _ _ ⟨he, hb⟩ => ⟨he, ⟨_, p.prf.trans (hb.mono (Nat.le_trans hB p.prf.size))⟩, rfl⟩
end Go.Proofs.YtjcoahahponabaaGreatDoor
namespace Go.Proofs.YtjcoahahponabaaGreatDoor
open Go.RowKit

/-- The cells of the first pixels. -/
def pxVals (p : Nat → Px) : Nat → List Value
  | 0 => []
  | i + 1 => pxVals p i ++ (p i).cells
theorem pxVals_length (p : Nat → Px) (n : Nat) : (pxVals p n).length = n * 4 := by
  induction n with
  | zero => rfl
  | succ n ih => simp [pxVals, ih, Px.cells]; omega
theorem pxVals_at (p : Nat → Px) (n i j : Nat) (h : i < n) (hj : j < 4) : (pxVals p n)[i * 4 + j]? = (p i).cells[j]? := by
  induction n with
  | zero => omega
  | succ n ih =>
    have hl := pxVals_length p n
    unfold pxVals
    by_cases e : i = n
    · subst e
      rw [List.getElem?_append_right (by omega), show i * 4 + j - (pxVals p i).length = j by omega]
    · rw [List.getElem?_append_left (by omega)]
      exact ih (by omega)
theorem pxVals_congr {p q : Nat → Px} (n : Nat) (h : ∀ i, i < n → p i = q i) : pxVals p n = pxVals q n := by
  induction n with
  | zero => rfl
  | succ n ih => unfold pxVals; rw [ih (fun i hi => h i (by omega)), h n (by omega)]
theorem pxVals_one {p : Nat → Px} {n : Nat} {u : Value} (h : u ∈ pxVals p n) : u.oneCell' = true := by
  induction n with
  | zero => simp [pxVals] at h
  | succ n ih =>
    unfold pxVals at h
    rcases List.mem_append.1 h with h | h
    · exact ih h
    · simp only [Px.cells, List.mem_cons, List.not_mem_nil, or_false] at h
      rcases h with rfl | rfl | rfl | rfl <;> rfl
/-- A row of pixels of a call's own. -/
theorem own_px {w : World} {base n cap : Nat} {a : Option Addr} {p : Nat → Px} (h : w.ownsRow base 78 4 (.slice a n cap) n (pxVals p n)) (hn : n ≤ maxLen) : IsPx w a n p := by
  by_cases h0 : n = 0
  · exact .inl h0
  rcases h.2 with ⟨_, q⟩ | ⟨g, cap', cur, hv, _⟩
  · exact absurd q h0
  · injection hv with hv _ _
    subst hv
    refine .inr ⟨g, 0, rfl, hn, fun i hi => ?_⟩
    have hc : ∀ j, j < 4 → w.cell? ⟨g, 0 + i * 4 + j, none⟩ = (p i).cells[j]? := fun j hj => by
      rw [Nat.zero_add, h.cellAt (i * 4 + j) (by omega)]
      exact pxVals_at p n i j hi hj
    exact ⟨hc 0 (by omega), hc 1 (by omega), hc 2 (by omega), hc 3 (by omega)⟩
theorem px_info : (Tryz.prog.info? 78).map (fun i => (i.zero, i.size, i.bytes)) = some (some (.agg #[.int .u8 0, .int .u8 0, .int .u8 0, .int .u8 0]), 4, 4) := by kernel_rfl
/-- The cells of pixels that lie there. -/
theorem px_lies {w : World} {b off n : Nat} {p : Nat → Px} (h : ∀ i, i < n → PxAt w b (off + i * 4) (p i)) : ∀ j u, (pxVals p n)[j]? = some u → w.cell? ((⟨b, off, none⟩ : Addr).add j) = some u := fun j u hj => by
  have hjl : j < n * 4 := by
    rcases Nat.lt_or_ge j (n * 4) with q | q
    · exact q
    · rw [List.getElem?_eq_none (by rw [pxVals_length]; exact q)] at hj; cases hj
  have hadd : (⟨b, off, none⟩ : Addr).add j = ⟨b, off + j, none⟩ := by unfold Addr.add; split <;> simp_all
  rw [hadd, ← hj]
  have e := pxVals_at p n (j / 4) (j % 4) (by omega) (by omega)
  rw [show j / 4 * 4 + j % 4 = j by omega] at e
  rw [e]
  have hc := h (j / 4) (by omega)
  rcases (show j % 4 = 0 ∨ j % 4 = 1 ∨ j % 4 = 2 ∨ j % 4 = 3 by omega) with q | q | q | q
  · rw [q, show off + j = off + j / 4 * 4 by omega]; exact hc.r
  · rw [q, show off + j = off + j / 4 * 4 + 1 by omega]; exact hc.g
  · rw [q, show off + j = off + j / 4 * 4 + 2 by omega]; exact hc.b
  · rw [q, show off + j = off + j / 4 * 4 + 3 by omega]; exact hc.a
theorem px_none (w : World) (ao : Option Addr) (cap : Nat) : (Builtin.append_ #[25, 25] 25 #[.slice none 0 0, .slice ao 0 cap]).run Tryz.prog w = .ok (.slice none 0 0) w := by
  cases ao <;> kernel_rfl
/-- A copy of pixels: append to nothing. -/
theorem app_px (w : World) (a : Option Addr) (n c : Nat) (q : Nat → Px) (hP : IsPx w a n q) (hn : n ≤ 100000) :
    ∃ a' c' w', (Builtin.append_ #[25, 25] 25 #[.slice none 0 0, .slice a n c]).run Tryz.prog w = .ok (.slice a' n c') w' ∧ IsPx w' a' n q ∧ Below w.heap.size w w' := by
  obtain ⟨i0, hi, hz0, hz1, hz2⟩ := info_parts px_info
  by_cases h0 : n = 0
  · subst h0
    exact ⟨none, 0, w, px_none w a c, .inl rfl, Below.refl _ _⟩
  · obtain ⟨b, off, rfl, hm, hc⟩ := hP.resolve_left h0
    obtain ⟨g, cap, w', hr, hown, hgr, _, _⟩ := run_append_lies (P := Tryz.prog) w 25 25 w.heap.size 78 i0 (.agg #[.int .u8 0, .int .u8 0, .int .u8 0, .int .u8 0]) 4 4 Tryz.underlying25 hi hz0 hz1 hz2 rfl (by omega) (.slice none 0 0) 0 [] (World.ownsRow_nil _ _ _ _) ⟨b, off, none⟩ n c (pxVals q n) (pxVals_length q n) (px_lies hc) (fun u hu => pxVals_one hu) (by omega) (by unfold maxLen; omega) (by omega) (Nat.le_refl _) _ rfl
    rw [Nat.zero_add] at hr hown
    exact ⟨_, _, w', hr, own_px hown hm, (Below.refl _ _).grown hgr (Nat.le_refl _) (fun k e => by simp [Value.ownBlock] at e)⟩
theorem wpList_appPx (w : World) {ops : Array Oper} {rest : List Oper} {o : Oper} {a : Act} {Q : Exit → Act → World → Prop} (hgd : o.guard = none) (s x : Operand)
    (ho : o.op = .call { callee := .builtin .append, args := #[s, x], argTypes := #[25, 25] }) (hty : o.type = 25) (ao : Option Addr) (n c : Nat) (q : Nat → Px) (hs : a.eval s = .slice none 0 0) (hx : a.eval x = .slice ao n c) (hP : IsPx w ao n q) (hn : n ≤ 100000)
    (h : ∀ a' c' w', IsPx w' a' n q → Below w.heap.size w w' → wpList Tryz.prog ops Q rest (a.put o.dst (.slice a' n c')) w') : wpList Tryz.prog ops Q (o :: rest) a w := by
  obtain ⟨a', c', w', h1, h2, h3⟩ := app_px w ao n c q hP hn
  refine wpList_plain hgd fun _ hK => ?_
  unfold Oper.wp execOp
  simp only [ho, hty, resolve, invoke, builtin, Sem.run_bind, Sem.run_pure, Result.andThen_ok, List.map_toArray, List.map_cons, List.map_nil, hs, hx, h1]
  exact hK _ _ (h a' c' w' h2 h3)
end Go.Proofs.YtjcoahahponabaaGreatDoor
