/- Numbers packed by a growing list: plain. What is packed is unpacked (WELCH). -/
import Derived.Test.YtmmilamaahmaoaeDoorLzd
import Derived.Test.YtmmilamaahmaoaeDoorPs0
namespace Go.Proofs.YtmmilamaahmaoaeDoor
namespace Lz
open Ps

/-- Where a pair stands in the list. -/
def look (W : Nat) (P : List (Nat × Nat)) (c n : Nat) : Option Nat :=
  if (c, n) ∈ P then some (2 ^ W + 2 + P.idxOf (c, n)) else none

/-- The codes told from here on: the list P, S bits a code, the word on its way has the code c. -/
def packC (W : Nat) : List (Nat × Nat) → Nat → Nat → List UInt8 → List Pc
  | P, S, c, [] => [(c, S), (2 ^ W + 1, size' S (2 ^ W + 2 + P.length))]
  | P, S, c, b :: r =>
    match look W P c b.toNat with
    | some c' => packC W P S c' r
    | none => (c, S) :: (if 2 ^ W + 2 + P.length = 4095 then (2 ^ W, size' S 4095) :: packC W [] (W + 1) b.toNat r
        else packC W (P ++ [(c, b.toNat)]) (size' S (2 ^ W + 2 + P.length)) b.toNat r)

/-- All codes of a text. -/
def packAll (W : Nat) : List UInt8 → List Pc
  | [] => [(2 ^ W, W + 1), (2 ^ W + 1, W + 1)]
  | b :: r => (2 ^ W, W + 1) :: packC W [] (W + 1) b.toNat r

/-- The text of a code, by the texts of the longer words. -/
def textOf (W : Nat) (T : List (List UInt8)) (c : Nat) : List UInt8 := if c < 2 ^ W then [UInt8.ofNat c] else T.getD (c - (2 ^ W + 2)) []

/-- A code that means something. -/
def isCode (W m c : Nat) : Prop := c < 2 ^ W ∨ (2 ^ W + 2 ≤ c ∧ c < 2 ^ W + 2 + m)

/-- Pairs and the texts of them. -/
structure Trie (W : Nat) (P : List (Nat × Nat)) (T : List (List UInt8)) : Prop where
  many : T.length = P.length
  each : ∀ i, (h : i < P.length) → isCode W i (P[i]).1 ∧ (P[i]).2 < 2 ^ W ∧ T.getD i [] = textOf W T (P[i]).1 ++ [UInt8.ofNat (P[i]).2]
  full : 2 ^ W + 2 + P.length ≤ 4095

theorem Trie.nil (W : Nat) (h : W ≤ 8) : Trie W [] [] := ⟨rfl, fun i h => by simp at h, by have := pow2 W h; simp only [List.length_nil]; omega⟩

theorem textOf_more {W : Nat} {T : List (List UInt8)} {c : Nat} (x : List UInt8) (h : isCode W T.length c) : textOf W (T ++ [x]) c = textOf W T c := by
  unfold textOf
  rcases h with h | ⟨h1, h2⟩
  · rw [if_pos h, if_pos h]
  · rw [if_neg (by omega), if_neg (by omega), getD_left _ _ _ _ (by omega)]
theorem isCode.mono {W m m' c : Nat} (h : isCode W m c) (hm : m ≤ m') : isCode W m' c := by
  rcases h with h | ⟨h1, h2⟩
  · exact .inl h
  · exact .inr ⟨h1, by omega⟩

theorem Trie.push {W : Nat} {P : List (Nat × Nat)} {T : List (List UInt8)} (h : Trie W P T) {c n : Nat} (hc : isCode W P.length c) (hn : n < 2 ^ W) (hf : 2 ^ W + 2 + P.length ≠ 4095) :
    Trie W (P ++ [(c, n)]) (T ++ [textOf W T c ++ [UInt8.ofNat n]]) := by
  have hm := h.many
  have hfull := h.full
  refine ⟨by simp [hm], fun i hi => ?_, by simp only [List.length_append, List.length_cons, List.length_nil]; omega⟩
  by_cases hlt : i < P.length
  · obtain ⟨e1, e2, e3⟩ := h.each i hlt
    rw [List.getElem_append_left hlt, getD_left _ _ _ _ (by omega), textOf_more _ (by rw [hm]; exact e1.mono (by omega))]
    exact ⟨e1, e2, e3⟩
  · have hie : i = P.length := by simp only [List.length_append, List.length_cons, List.length_nil] at hi; omega
    subst hie
    rw [List.getElem_append_right (Nat.le_refl _)]
    simp only [Nat.sub_self, List.getElem_cons_zero]
    refine ⟨hc, hn, ?_⟩
    rw [getD_right _ _ _ _ (by omega), textOf_more _ (by rw [hm]; exact hc), show P.length - T.length = 0 by omega]
    rfl

theorem look_some {W : Nat} {P : List (Nat × Nat)} {T : List (List UInt8)} (h : Trie W P T) {c n c' : Nat} (hl : look W P c n = some c') : isCode W P.length c' ∧ textOf W T c' = textOf W T c ++ [UInt8.ofNat n] := by
  unfold look at hl
  split at hl
  · next hm =>
    have hi := List.idxOf_lt_length_of_mem hm
    injection hl with hl
    subst hl
    refine ⟨.inr ⟨by omega, by omega⟩, ?_⟩
    have := (h.each (P.idxOf (c, n)) hi).2.2
    rw [List.getElem_idxOf hi] at this
    rw [textOf, if_neg (by omega), Nat.add_sub_cancel_left]
    exact this
  · cases hl

theorem textOf_ne {W : Nat} {P : List (Nat × Nat)} {T : List (List UInt8)} (h : Trie W P T) {c : Nat} (hc : isCode W P.length c) : textOf W T c ≠ [] := by
  rcases hc with hc | ⟨h1, h2⟩
  · rw [textOf, if_pos hc]; simp
  · rw [textOf, if_neg (by omega), (h.each (c - (2 ^ W + 2)) (by omega)).2.2]; simp

/-- What the reading holds when the code of the word y is about to come. -/
def Lag (T : List (List UInt8)) (st : St) (y : List UInt8) : Prop :=
  (st.ahead = [] ∧ st.words = [] ∧ T = []) ∨ (st.ahead ≠ [] ∧ T = st.words ++ [st.ahead ++ y.take 1])

theorem Lag.wordOf {W : Nat} {P : List (Nat × Nat)} {T : List (List UInt8)} (h : Trie W P T) {st : St} {y : List UInt8} {c : Nat} (hc : isCode W P.length c) (hy : y = textOf W T c) (hl : Lag T st y) : wordOf W st c = some y ∧ words' W st y = T := by
  have hm := h.many
  have hfull := h.full
  rcases hl with ⟨h1, h2, h3⟩ | ⟨h1, h2⟩
  · subst h3
    have hP : P = [] := List.eq_nil_of_length_eq_zero (by rw [← hm]; rfl)
    subst hP
    have hlt : c < 2 ^ W := by
      rcases hc with q | ⟨q1, q2⟩
      · exact q
      · simp at q2; omega
    refine ⟨by rw [wordOf_low hlt, hy, textOf, if_pos hlt], ?_⟩
    rw [words', if_neg (by simp [more, h1]), h2]
  · have hmo : more W st = true := by
      have : T.length = st.words.length + 1 := by rw [h2]; simp
      simp only [more, Bool.and_eq_true, decide_eq_true_eq]
      exact ⟨h1, by omega⟩
    have hw : words' W st y = T := by rw [words', if_pos hmo, h2]
    refine ⟨?_, hw⟩
    have hTl : T.length = st.words.length + 1 := by rw [h2]; simp
    rcases hc with q | ⟨q1, q2⟩
    · rw [wordOf_low q, hy, textOf, if_pos q]
    · rw [textOf, if_neg (by omega)] at hy
      by_cases hlt : c - (2 ^ W + 2) < st.words.length
      · rw [Lz.wordOf, if_neg (by omega), if_pos hlt, hy, h2, getD_left _ _ _ _ hlt]
      · have he : c - (2 ^ W + 2) = st.words.length := by omega
        rw [Lz.wordOf, if_neg (by omega), if_neg hlt, if_pos ⟨he, hmo⟩]
        have hy2 : y = st.ahead ++ y.take 1 := by
          conv => lhs; rw [hy, h2, he, getD_right _ _ _ _ (Nat.le_refl _), Nat.sub_self]
          rfl
        have ht : y.take 1 = st.ahead.take 1 := by
          rw [hy2]
          cases ha : st.ahead with
          | nil => exact absurd ha h1
          | cons a r => simp
        rw [← ht, ← hy2]

theorem isCode_lt {W m c : Nat} (h : isCode W m c) (hm : 2 ^ W + 2 + m ≤ 4095) : c < 4095 := by
  rcases h with h | h <;> omega
end Lz
end Go.Proofs.YtmmilamaahmaoaeDoor
