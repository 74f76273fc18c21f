/- Plain: the word that the document finds by searching the list one by one is the one that the packer finds down its pairs. -/
import Derived.Test.YtmmilamaahmaoaeDoorLzl
import Derived.Test.YtmmilamaahmaoaeDoorLzf
namespace Go.Proofs.YtmmilamaahmaoaeDoor
namespace Lz
open Ps

theorem textOf_one {W : Nat} {T : List (List UInt8)} (b : UInt8) (h : b.toNat < 2 ^ W) : textOf W T b.toNat = [b] := by
  rw [textOf, if_pos h]
  simp
theorem textOf_long {W : Nat} {T : List (List UInt8)} (j : Nat) : textOf W T (2 ^ W + 2 + j) = T.getD j [] := by
  rw [textOf, if_neg (by omega), Nat.add_sub_cancel_left]

/-- A word of the list with which b and r begin: the search's best so far. -/
structure Srch (W : Nat) (P : List (Nat × Nat)) (T : List (List UInt8)) (l : List UInt8) (i d : Nat) : Prop where
  code : isCode W P.length d
  some_ : 1 ≤ (textOf W T d).length
  fits : (textOf W T d).length ≤ l.length
  text : textOf W T d = l.take (textOf W T d).length
  most : ∀ j, j < i → T.getD j [] = l.take (T.getD j []).length → (T.getD j []).length ≤ l.length → (T.getD j []).length ≤ (textOf W T d).length

theorem Srch.start {W : Nat} {P : List (Nat × Nat)} {T : List (List UInt8)} (b : UInt8) (r : List UInt8) (h : b.toNat < 2 ^ W) : Srch W P T (b :: r) 0 b.toNat := by
  have e := textOf_one (T := T) b h
  exact ⟨.inl h, by rw [e]; simp, by rw [e]; simp, by rw [e]; simp, fun j hj => by omega⟩
theorem Srch.take_ {W : Nat} {P : List (Nat × Nat)} {T : List (List UInt8)} {l : List UInt8} {i d : Nat} (h : Srch W P T l i d) (hi : i < P.length) (h1 : (textOf W T d).length < (T.getD i []).length) (h2 : (T.getD i []).length ≤ l.length) (h3 : T.getD i [] = l.take (T.getD i []).length) : Srch W P T l (i + 1) (2 ^ W + 2 + i) := by
  have e := textOf_long (W := W) (T := T) i
  refine ⟨.inr ⟨by omega, by omega⟩, by rw [e]; omega, by rw [e]; exact h2, by rw [e]; exact h3, fun j hj h4 h5 => ?_⟩
  rw [e]
  rcases Nat.lt_or_ge j i with q | q
  · have := h.most j q h4 h5
    omega
  · obtain rfl : j = i := by omega
    omega
theorem Srch.skip {W : Nat} {P : List (Nat × Nat)} {T : List (List UInt8)} {l : List UInt8} {i d : Nat} (h : Srch W P T l i d) (hn : ¬ ((textOf W T d).length < (T.getD i []).length ∧ (T.getD i []).length ≤ l.length ∧ T.getD i [] = l.take (T.getD i []).length)) : Srch W P T l (i + 1) d := by
  refine ⟨h.code, h.some_, h.fits, h.text, fun j hj h4 h5 => ?_⟩
  rcases Nat.lt_or_ge j i with q | q
  · exact h.most j q h4 h5
  · obtain rfl : j = i := by omega
    rcases Nat.lt_or_ge (textOf W T d).length (T.getD j []).length with q2 | q2
    · exact absurd ⟨q2, h5, h4⟩ hn
    · exact q2

/-- .. at its end. -/
theorem Srch.found {W : Nat} {P : List (Nat × Nat)} {T : List (List UInt8)} (hW : W ≤ 8) (hT : Trie W P T) (hN : P.Nodup) {b : UInt8} {r : List UInt8} {d : Nat} (hb : b.toNat < 2 ^ W) (h : Srch W P T (b :: r) P.length d) :
    d = (goOn W P b.toNat r).1 ∧ (textOf W T d).length = (goOn W P b.toNat r).2 + 1 := by
  have e := textOf_one (T := T) b hb
  have hc : isCode W P.length b.toNat := .inl hb
  obtain ⟨h1, h2⟩ := goOn_text hT r b.toNat hc
  have hle := goOn_le W P r b.toNat
  have hmax := goOn_longest hW hT hN b.toNat hc r d (textOf W T d).length h.code (by rw [e]; exact h.fits) (by rw [e]; exact h.text)
  rw [e] at h2 hmax
  have hlen : (textOf W T (goOn W P b.toNat r).1).length = (goOn W P b.toNat r).2 + 1 := by
    rw [h2, List.length_append, List.length_take, List.length_singleton]
    omega
  have htk : textOf W T (goOn W P b.toNat r).1 = (b :: r).take ((goOn W P b.toNat r).2 + 1) := by rw [h2, List.take_succ_cons]; rfl
  have hge : (goOn W P b.toNat r).2 + 1 ≤ (textOf W T d).length := by
    rcases h1 with q | ⟨q1, q2⟩
    · have e2 : textOf W T (goOn W P b.toNat r).1 = [UInt8.ofNat (goOn W P b.toNat r).1] := by rw [textOf, if_pos q]
      rw [e2, List.length_singleton] at hlen
      have := h.some_
      omega
    · obtain ⟨j, hj⟩ : ∃ j, (goOn W P b.toNat r).1 = 2 ^ W + 2 + j := ⟨(goOn W P b.toNat r).1 - (2 ^ W + 2), by omega⟩
      rw [hj, textOf_long] at hlen htk
      have := h.most j (by omega) (by rw [hlen]; exact htk) (by rw [hlen, List.length_cons]; omega)
      omega
  rw [List.length_singleton] at hmax
  have hn : (textOf W T d).length = (goOn W P b.toNat r).2 + 1 := by omega
  refine ⟨?_, hn⟩
  refine textOf_inj hW hT hN d d _ (Nat.le_refl _) h.code h1 ?_
  rw [h.text, hn, htk]

/-- What is told from a place on. -/
def packW (W : Nat) (P : List (Nat × Nat)) (S : Nat) : List UInt8 → List Pc
  | [] => []
  | b :: r => packC W P S b.toNat r

/-- The state of the document's packing. -/
structure DSt (W : Nat) (s : List UInt8) (P : List (Nat × Nat)) (T : List (List UInt8)) (S at_ : Nat) (ls : List Pc) : Prop where
  trie : Trie W P T
  nodup : P.Nodup
  size1 : 2 ^ W + 2 + P.length ≤ 2 ^ S
  size2 : S ≤ 12
  size3 : W + 1 ≤ S
  fit : Fit ls
  told : at_ < s.length → packAll W s = ls ++ packW W P S (s.drop at_)
  long : len ls ≤ 24 * at_ + 12
  texts : ∀ j, j < T.length → (T.getD j []).length ≤ at_ + 1

theorem DSt.start {W : Nat} {s : List UInt8} (hW2 : 2 ≤ W) (hW : W ≤ 8) : DSt W s [] [] (W + 1) 0 [(2 ^ W, W + 1)] := by
  have hp := pow_bits0 W hW2 hW
  have hd : 2 ^ (W + 1) = 2 ^ W + 2 ^ W := by rw [Nat.pow_succ]; omega
  refine ⟨Trie.nil W hW, List.nodup_nil, by simp only [List.length_nil]; omega, by omega, Nat.le_refl _, Fit.cons (by simp only; omega) Fit.nil, fun h => ?_, by simp only [len]; omega, fun j hj => by simp at hj⟩
  cases s with
  | nil => simp at h
  | cons b r => rfl

/-- The last word. -/
theorem DSt.last {W : Nat} {s : List UInt8} {P : List (Nat × Nat)} {T : List (List UInt8)} {S at_ : Nat} {ls : List Pc} {b : UInt8} {r : List UInt8} (h : DSt W s P T S at_ ls) (hs : s.drop at_ = b :: r) (hb : b.toNat < 2 ^ W) (he : (goOn W P b.toNat r).2 = r.length) :
    packAll W s = (ls ++ [((goOn W P b.toNat r).1, S)]) ++ [(2 ^ W + 1, size' S (2 ^ W + 2 + P.length))] ∧ (goOn W P b.toNat r).1 < 2 ^ S ∧ 2 ^ W + 1 < 2 ^ size' S (2 ^ W + 2 + P.length) := by
  have hlt : at_ < s.length := by
    rcases Nat.lt_or_ge at_ s.length with q | q
    · exact q
    · rw [List.drop_of_length_le q] at hs; cases hs
  have h1 := h.told hlt
  rw [hs, packW, packC_end W P S r b.toNat he] at h1
  obtain ⟨hg, _⟩ := goOn_text h.trie r b.toNat (.inl hb)
  have hf := h.trie.full
  have h3 := h.size1
  have hm := size'_mono S (2 ^ W + 2 + P.length)
  refine ⟨by rw [h1, List.append_assoc]; rfl, ?_, by omega⟩
  rcases hg with q | q <;> omega

/-- A word more, and no end yet. -/
theorem DSt.next {W : Nat} {s : List UInt8} {P : List (Nat × Nat)} {T : List (List UInt8)} {S at_ : Nat} {ls : List Pc} {b c : UInt8} {r r' : List UInt8} (hW2 : 2 ≤ W) (hW : W ≤ 8) (hsb : ∀ x ∈ s, x.toNat < 2 ^ W) (h : DSt W s P T S at_ ls) (hs : s.drop at_ = b :: r) (he : r.drop (goOn W P b.toNat r).2 = c :: r') :
    (goOn W P b.toNat r).1 < 2 ^ S ∧
    (2 ^ W + 2 + P.length ≠ 4095 → DSt W s (P ++ [((goOn W P b.toNat r).1, c.toNat)]) (T ++ [(b :: r).take ((goOn W P b.toNat r).2 + 2)]) (size' S (2 ^ W + 2 + P.length)) (at_ + ((goOn W P b.toNat r).2 + 1)) (ls ++ [((goOn W P b.toNat r).1, S)])) ∧
    (2 ^ W + 2 + P.length = 4095 → 2 ^ W < 2 ^ size' S 4095 ∧ DSt W s [] [] (W + 1) (at_ + ((goOn W P b.toNat r).2 + 1)) ((ls ++ [((goOn W P b.toNat r).1, S)]) ++ [(2 ^ W, size' S 4095)])) := by
  have hp := pow_bits0 W hW2 hW
  have hd2 : 2 ^ (W + 1) = 2 ^ W + 2 ^ W := by rw [Nat.pow_succ]; omega
  have hlt : at_ < s.length := by
    rcases Nat.lt_or_ge at_ s.length with q | q
    · exact q
    · rw [List.drop_of_length_le q] at hs; cases hs
  have hbm : b ∈ s := List.mem_of_mem_drop (i := at_) (by rw [hs]; simp)
  have hb := hsb b hbm
  have hcr : c ∈ r := List.mem_of_mem_drop (i := (goOn W P b.toNat r).2) (by rw [he]; simp)
  have hcm : c ∈ s := List.mem_of_mem_drop (i := at_) (by rw [hs]; simp [hcr])
  have hc := hsb c hcm
  have h1 := h.told hlt
  rw [hs, packW, packC_word W P S r b.toNat c r' he] at h1
  obtain ⟨hg, hgt⟩ := goOn_text h.trie r b.toNat (.inl hb)
  have hstop := goOn_stop W P r b.toNat c r' he
  have hf := h.trie.full
  have h3 := h.size1
  have hgl : (goOn W P b.toNat r).1 < 2 ^ S := by rcases hg with q | q <;> omega
  have hdrop : s.drop (at_ + ((goOn W P b.toNat r).2 + 1)) = c :: r' := by
    rw [← List.drop_drop, hs, List.drop_succ_cons, he]
  have hl := h.long
  have hS := h.size2
  have hsz12 : ∀ N, size' S N ≤ 12 := fun N => by unfold size'; split <;> omega
  have hszW : ∀ N, W + 1 ≤ size' S N := fun N => by have := h.size3; unfold size'; split <;> omega
  refine ⟨hgl, fun hne => ?_, fun heq => ?_⟩
  · rw [if_neg hne] at h1
    have hnew : T ++ [(b :: r).take ((goOn W P b.toNat r).2 + 2)] = T ++ [textOf W T (goOn W P b.toNat r).1 ++ [UInt8.ofNat c.toNat]] := by
      rw [hgt, textOf_one b hb]
      congr 2
      have hlr : (goOn W P b.toNat r).2 < r.length := by
        rcases Nat.lt_or_ge (goOn W P b.toNat r).2 r.length with q | q
        · exact q
        · rw [List.drop_of_length_le q] at he; cases he
      have e1 : r.take ((goOn W P b.toNat r).2 + 1) = r.take (goOn W P b.toNat r).2 ++ [c] := by
        have e2 : r[(goOn W P b.toNat r).2] = c := by
          have := congrArg (fun l => l[0]?) he
          simp [List.getElem?_drop, List.getElem?_eq_getElem hlr] at this
          exact this
        rw [List.take_add_one, List.getElem?_eq_getElem hlr, e2]
        rfl
      rw [List.take_succ_cons, e1]
      simp
    refine ⟨?_, ?_, ?_, hsz12 _, hszW _, Fit.append h.fit (Fit.cons hgl Fit.nil), fun _ => ?_, ?_, fun j hj => ?_⟩
    · rw [hnew]
      exact h.trie.push hg hc hne
    · rw [List.nodup_append]
      refine ⟨h.nodup, by simp, fun x hx y hy => ?_⟩
      rw [List.mem_singleton] at hy
      subst hy
      intro e
      subst e
      unfold look at hstop
      rw [if_pos hx] at hstop
      cases hstop
    · rw [List.length_append, List.length_singleton]
      exact size'_ok h3 hS hf
    · rw [hdrop, h1]
      simp [packW]
    · rw [len_append]
      simp only [len]
      omega
    · rw [List.length_append, List.length_singleton] at hj
      rcases Nat.lt_or_ge j T.length with q | q
      · have e3 : (T ++ [(b :: r).take ((goOn W P b.toNat r).2 + 2)]).getD j [] = T.getD j [] := by simp [List.getElem?_append_left q]
        rw [e3]
        have := h.texts j q
        omega
      · obtain rfl : j = T.length := by omega
        have : (T ++ [(b :: r).take ((goOn W P b.toNat r).2 + 2)]).getD T.length [] = (b :: r).take ((goOn W P b.toNat r).2 + 2) := by simp
        rw [this, List.length_take]
        omega
  · rw [if_pos heq] at h1
    have hm := size'_mono S 4095
    refine ⟨by omega, Trie.nil W hW, List.nodup_nil, by simp only [List.length_nil]; omega, by omega, Nat.le_refl _, Fit.append (Fit.append h.fit (Fit.cons hgl Fit.nil)) (Fit.cons (by simp only; omega) Fit.nil), fun _ => ?_, ?_, fun j hj => by simp at hj⟩
    · rw [hdrop, h1]
      simp [packW]
    · rw [len_append, len_append]
      have := hsz12 4095
      simp only [len]
      omega
end Lz
end Go.Proofs.YtmmilamaahmaoaeDoor
