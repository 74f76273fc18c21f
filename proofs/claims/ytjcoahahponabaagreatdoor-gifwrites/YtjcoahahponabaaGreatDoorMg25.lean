/- The walk down the pairs finds the longest listed word: plain. Plain: the word that the document finds by searching the list one by one is the one that the packer finds down its pairs. -/
import Derived.Test.YtjcoahahponabaaGreatDoorMg3
import Derived.Test.YtjcoahahponabaaGreatDoorMg8
namespace Go.Proofs.YtjcoahahponabaaGreatDoor
namespace Lz
open Ps

/-- As far as the list goes: the code, and by how many numbers. -/
def goOn (W : Nat) (P : List (Nat × Nat)) : Nat → List UInt8 → Nat × Nat
  | c, [] => (c, 0)
  | c, b :: r => match look W P c b.toNat with
    | some c' => ((goOn W P c' r).1, (goOn W P c' r).2 + 1)
    | none => (c, 0)

theorem goOn_le (W : Nat) (P : List (Nat × Nat)) : ∀ (r : List UInt8) (c : Nat), (goOn W P c r).2 ≤ r.length := by
  intro r
  induction r with
  | nil => intro c; simp [goOn]
  | cons b r ih =>
    intro c
    unfold goOn
    cases look W P c b.toNat with
    | some c' => have := ih c'; simp only [List.length_cons]; omega
    | none => simp

/-- What is told from here on, a word at a time. -/
theorem packC_end (W : Nat) (P : List (Nat × Nat)) (S : Nat) : ∀ (r : List UInt8) (c : Nat), (goOn W P c r).2 = r.length → packC W P S c r = [((goOn W P c r).1, S), (2 ^ W + 1, size' S (2 ^ W + 2 + P.length))] := by
  intro r
  induction r with
  | nil => intro c _; rfl
  | cons b r ih =>
    intro c h
    unfold goOn at h ⊢
    unfold packC
    cases hl : look W P c b.toNat with
    | some c' =>
      rw [hl] at h
      simp only [List.length_cons] at h ⊢
      exact ih c' (by omega)
    | none => rw [hl] at h; simp at h
theorem goOn_some {W : Nat} {P : List (Nat × Nat)} {c c' : Nat} {a : UInt8} {r : List UInt8} (h : look W P c a.toNat = some c') : goOn W P c (a :: r) = ((goOn W P c' r).1, (goOn W P c' r).2 + 1) := by rw [goOn, h]
theorem goOn_none {W : Nat} {P : List (Nat × Nat)} {c : Nat} {a : UInt8} {r : List UInt8} (h : look W P c a.toNat = none) : goOn W P c (a :: r) = (c, 0) := by rw [goOn, h]
theorem packC_some {W S : Nat} {P : List (Nat × Nat)} {c c' : Nat} {a : UInt8} {r : List UInt8} (h : look W P c a.toNat = some c') : packC W P S c (a :: r) = packC W P S c' r := by rw [packC, h]
theorem packC_none {W S : Nat} {P : List (Nat × Nat)} {c : Nat} {a : UInt8} {r : List UInt8} (h : look W P c a.toNat = none) : packC W P S c (a :: r) = (c, S) :: (if 2 ^ W + 2 + P.length = 4095 then (2 ^ W, size' S 4095) :: packC W [] (W + 1) a.toNat r else packC W (P ++ [(c, a.toNat)]) (size' S (2 ^ W + 2 + P.length)) a.toNat r) := by rw [packC, h]
theorem packC_word (W : Nat) (P : List (Nat × Nat)) (S : Nat) : ∀ (r : List UInt8) (c : Nat) (b : UInt8) (r' : List UInt8), r.drop (goOn W P c r).2 = b :: r' →
    packC W P S c r = ((goOn W P c r).1, S) :: (if 2 ^ W + 2 + P.length = 4095 then (2 ^ W, size' S 4095) :: packC W [] (W + 1) b.toNat r' else packC W (P ++ [((goOn W P c r).1, b.toNat)]) (size' S (2 ^ W + 2 + P.length)) b.toNat r') := by
  intro r
  induction r with
  | nil => intro c b r' h; simp [goOn] at h
  | cons a r ih =>
    intro c b r' h
    cases hl : look W P c a.toNat with
    | some c' =>
      rw [goOn_some hl] at h ⊢
      simp only [List.drop_succ_cons] at h
      rw [packC_some hl]
      exact ih c' b r' h
    | none =>
      rw [goOn_none hl] at h ⊢
      simp only [List.drop_zero, List.cons.injEq] at h
      obtain ⟨rfl, rfl⟩ := h
      rw [packC_none hl]
theorem goOn_stop (W : Nat) (P : List (Nat × Nat)) : ∀ (r : List UInt8) (c : Nat) (b : UInt8) (r' : List UInt8), r.drop (goOn W P c r).2 = b :: r' → look W P (goOn W P c r).1 b.toNat = none := by
  intro r
  induction r with
  | nil => intro c b r' h; simp [goOn] at h
  | cons a r ih =>
    intro c b r' h
    unfold goOn at h ⊢
    cases hl : look W P c a.toNat with
    | some c' =>
      rw [hl] at h
      simp only [List.drop_succ_cons] at h
      exact ih c' b r' h
    | none =>
      rw [hl] at h
      simp only [List.drop_zero, List.cons.injEq] at h
      obtain ⟨rfl, rfl⟩ := h
      exact hl

theorem goOn_text {W : Nat} {P : List (Nat × Nat)} {T : List (List UInt8)} (hT : Trie W P T) : ∀ (r : List UInt8) (c : Nat), isCode W P.length c → isCode W P.length (goOn W P c r).1 ∧ textOf W T (goOn W P c r).1 = textOf W T c ++ r.take (goOn W P c r).2 := by
  intro r
  induction r with
  | nil => intro c hc; exact ⟨hc, by simp [goOn]⟩
  | cons b r ih =>
    intro c hc
    unfold goOn
    cases hl : look W P c b.toNat with
    | some c' =>
      obtain ⟨h1, h2⟩ := look_some hT hl
      obtain ⟨h3, h4⟩ := ih c' h1
      refine ⟨h3, ?_⟩
      simp only [List.take_succ_cons]
      rw [h4, h2]
      simp
    | none => exact ⟨hc, by simp⟩

/-- Codes with the same text are the same. -/
theorem textOf_inj {W : Nat} {P : List (Nat × Nat)} {T : List (List UInt8)} (hW : W ≤ 8) (hT : Trie W P T) (hN : P.Nodup) : ∀ (m c d : Nat), c ≤ m → isCode W P.length c → isCode W P.length d → textOf W T c = textOf W T d → c = d := by
  have h256 := pow2 W hW
  have hone : ∀ c, c < 2 ^ W → textOf W T c = [UInt8.ofNat c] := fun c h => by rw [textOf, if_pos h]
  have hlong : ∀ i, (h : i < P.length) → textOf W T (2 ^ W + 2 + i) = textOf W T (P[i]).1 ++ [UInt8.ofNat (P[i]).2] := fun i h => by
    rw [textOf, if_neg (by omega), Nat.add_sub_cancel_left]; exact (hT.each i h).2.2
  have hp : ∀ i, (h : i < P.length) → isCode W P.length (P[i]).1 := fun i h => ((hT.each i h).1).mono (by omega)
  have hof : ∀ a b, a < 256 → b < 256 → UInt8.ofNat a = UInt8.ofNat b → a = b := fun a b ha hb h => by
    have := congrArg UInt8.toNat h
    rw [toNat_len a (by omega), toNat_len b (by omega)] at this
    exact this
  intro m
  induction m using Nat.strongRecOn with
  | ind m ih =>
    intro c d hm hc hd he
    rcases hc with hc | ⟨hc1, hc2⟩
    · rcases hd with hd | ⟨hd1, hd2⟩
      · rw [hone c hc, hone d hd] at he
        injection he with he
        exact hof c d (by omega) (by omega) he
      · exfalso
        obtain ⟨j, rfl⟩ : ∃ j, d = 2 ^ W + 2 + j := ⟨d - (2 ^ W + 2), by omega⟩
        rw [hone c hc, hlong j (by omega)] at he
        have h1 := textOf_ne hT (hp j (by omega))
        have := congrArg List.length he
        simp only [List.length_append, List.length_cons, List.length_nil] at this
        have h2 : 0 < (textOf W T (P[j]'(by omega)).1).length := List.length_pos_iff.2 h1
        omega
    · obtain ⟨i, rfl⟩ : ∃ i, c = 2 ^ W + 2 + i := ⟨c - (2 ^ W + 2), by omega⟩
      have hi : i < P.length := by omega
      rcases hd with hd | ⟨hd1, hd2⟩
      · exfalso
        rw [hone d hd, hlong i hi] at he
        have h1 := textOf_ne hT (hp i hi)
        have := congrArg List.length he
        simp only [List.length_append, List.length_cons, List.length_nil] at this
        have h2 : 0 < (textOf W T (P[i]).1).length := List.length_pos_iff.2 h1
        omega
      · obtain ⟨j, rfl⟩ : ∃ j, d = 2 ^ W + 2 + j := ⟨d - (2 ^ W + 2), by omega⟩
        have hj : j < P.length := by omega
        rw [hlong i hi, hlong j hj] at he
        obtain ⟨e1, e2⟩ := List.append_inj' he rfl
        injection e2 with e2
        have hlt : (P[i]).1 < 2 ^ W + 2 + i := by
          rcases (hT.each i hi).1 with q | q <;> omega
        have h3 := ih (P[i]).1 (by omega) (P[i]).1 (P[j]).1 (Nat.le_refl _) (hp i hi) (hp j hj) e1
        have h4 := hof _ _ (by have := (hT.each i hi).2.1; omega) (by have := (hT.each j hj).2.1; omega) e2
        have h5 : P[i] = P[j] := Prod.ext h3 h4
        have := (List.getElem_inj hN).1 h5
        omega

/-- Every front of a listed word is a word. -/
theorem front_code {W : Nat} {P : List (Nat × Nat)} {T : List (List UInt8)} (hT : Trie W P T) : ∀ (m d n : Nat), d ≤ m → isCode W P.length d → 1 ≤ n → n ≤ (textOf W T d).length → ∃ e, isCode W P.length e ∧ textOf W T e = (textOf W T d).take n := by
  intro m
  induction m using Nat.strongRecOn with
  | ind m ih =>
    intro d n hm hd h1 hn
    by_cases he : n = (textOf W T d).length
    · exact ⟨d, hd, by rw [he, List.take_length]⟩
    · rcases hd with hd | ⟨hd1, hd2⟩
      · rw [textOf, if_pos hd] at hn he
        simp only [List.length_cons, List.length_nil] at hn he
        omega
      · obtain ⟨j, rfl⟩ : ∃ j, d = 2 ^ W + 2 + j := ⟨d - (2 ^ W + 2), by omega⟩
        have hj : j < P.length := by omega
        have ht : textOf W T (2 ^ W + 2 + j) = textOf W T (P[j]).1 ++ [UInt8.ofNat (P[j]).2] := by
          rw [textOf, if_neg (by omega), Nat.add_sub_cancel_left]; exact (hT.each j hj).2.2
        rw [ht] at hn he ⊢
        simp only [List.length_append, List.length_cons, List.length_nil] at hn he
        rw [List.take_append_of_le_length (by omega)]
        have hlt : (P[j]).1 < 2 ^ W + 2 + j := by
          rcases (hT.each j hj).1 with q | q <;> omega
        exact ih (P[j]).1 (by omega) (P[j]).1 n (Nat.le_refl _) (((hT.each j hj).1).mono (by omega)) h1 (by omega)

/-- No listed word with which the rest begins is longer. -/
theorem goOn_longest {W : Nat} {P : List (Nat × Nat)} {T : List (List UInt8)} (hW : W ≤ 8) (hT : Trie W P T) (hN : P.Nodup) (c : Nat) (hc : isCode W P.length c) (r : List UInt8) (d m : Nat) (hd : isCode W P.length d) (hm : m ≤ (textOf W T c ++ r).length) (htd : textOf W T d = (textOf W T c ++ r).take m) : m ≤ (textOf W T c).length + (goOn W P c r).2 := by
  rcases Nat.lt_or_ge ((textOf W T c).length + (goOn W P c r).2) m with hlt | hge
  · exfalso
    obtain ⟨h1, h2⟩ := goOn_text hT r c hc
    have hle := goOn_le W P r c
    have hy0 : 0 < (textOf W T c).length := List.length_pos_iff.2 (textOf_ne hT hc)
    rw [List.length_append] at hm
    generalize hk : (goOn W P c r).2 = k at *
    generalize hcc : (goOn W P c r).1 = c' at *
    have hkr : k < r.length := by omega
    obtain ⟨e, he, hte⟩ := front_code hT d d ((textOf W T c).length + k + 1) (Nat.le_refl _) hd (by omega) (by rw [htd, List.length_take, List.length_append]; omega)
    rw [htd, List.take_take, Nat.min_eq_left (by omega)] at hte
    have hel : (textOf W T e).length = (textOf W T c).length + k + 1 := by rw [hte, List.length_take, List.length_append]; omega
    rcases he with q | ⟨q1, q2⟩
    · rw [textOf, if_pos q] at hel
      simp only [List.length_cons, List.length_nil] at hel
      omega
    · obtain ⟨j, rfl⟩ : ∃ j, e = 2 ^ W + 2 + j := ⟨e - (2 ^ W + 2), by omega⟩
      have hj : j < P.length := by omega
      have ht : textOf W T (2 ^ W + 2 + j) = textOf W T (P[j]).1 ++ [UInt8.ofNat (P[j]).2] := by
        rw [textOf, if_neg (by omega), Nat.add_sub_cancel_left]; exact (hT.each j hj).2.2
      have hr : (textOf W T c ++ r).take ((textOf W T c).length + k + 1) = (textOf W T c ++ r.take k) ++ [r[k]] := by
        rw [Nat.add_assoc, List.take_append, List.take_of_length_le (by omega), show (textOf W T c).length + (k + 1) - (textOf W T c).length = k + 1 by omega, List.take_add_one, List.getElem?_eq_getElem hkr]
        simp
      rw [ht, hr] at hte
      obtain ⟨e1, e2⟩ := List.append_inj' hte rfl
      injection e2 with e2
      rw [← h2] at e1
      have h3 := textOf_inj hW hT hN _ (P[j]).1 c' (Nat.le_refl _) (((hT.each j hj).1).mono (by omega)) h1 e1
      have h256 := pow2 W hW
      have h4 : (P[j]).2 = (r[k]).toNat := by
        rw [← e2, toNat_len _ (by have := (hT.each j hj).2.1; omega)]
      have hstop := goOn_stop W P r c r[k] (r.drop (k + 1)) (by rw [hk, List.drop_eq_getElem_cons hkr])
      rw [hcc] at hstop
      unfold look at hstop
      rw [if_pos (by rw [← h3, ← h4]; exact List.getElem_mem hj)] at hstop
      cases hstop
  · exact hge
end Lz
end Go.Proofs.YtjcoahahponabaaGreatDoor
namespace Go.Proofs.YtjcoahahponabaaGreatDoor
namespace Lz
open Ps

theorem textOf_one {W : Nat} {T : List (List UInt8)} (b : UInt8) (h : b.toNat < 2 ^ W) : textOf W T b.toNat = [b] := by
  rw [textOf, if_pos h]
  simp
theorem textOf_long {W : Nat} {T : List (List UInt8)} (j : Nat) : textOf W T (2 ^ W + 2 + j) = T.getD j [] := by
  rw [textOf, if_neg (by omega), Nat.add_sub_cancel_left]

/-- A word of the list with which b and r begin: the search's best so far. -/
structure Srch (W : Nat) (P : List (Nat × Nat)) (T : List (List UInt8)) (l : List UInt8) (i d : Nat) : Prop where
  code : isCode W P.length d
  some_ : 1 ≤ (textOf W T d).length
  fits : (textOf W T d).length ≤ l.length
  text : textOf W T d = l.take (textOf W T d).length
  most : ∀ j, j < i → T.getD j [] = l.take (T.getD j []).length → (T.getD j []).length ≤ l.length → (T.getD j []).length ≤ (textOf W T d).length

theorem Srch.start {W : Nat} {P : List (Nat × Nat)} {T : List (List UInt8)} (b : UInt8) (r : List UInt8) (h : b.toNat < 2 ^ W) : Srch W P T (b :: r) 0 b.toNat := by
  have e := textOf_one (T := T) b h
  exact ⟨.inl h, by rw [e]; simp, by rw [e]; simp, by rw [e]; simp, fun j hj => by omega⟩
theorem Srch.take_ {W : Nat} {P : List (Nat × Nat)} {T : List (List UInt8)} {l : List UInt8} {i d : Nat} (h : Srch W P T l i d) (hi : i < P.length) (h1 : (textOf W T d).length < (T.getD i []).length) (h2 : (T.getD i []).length ≤ l.length) (h3 : T.getD i [] = l.take (T.getD i []).length) : Srch W P T l (i + 1) (2 ^ W + 2 + i) := by
  have e := textOf_long (W := W) (T := T) i
  refine ⟨.inr ⟨by omega, by omega⟩, by rw [e]; omega, by rw [e]; exact h2, by rw [e]; exact h3, fun j hj h4 h5 => ?_⟩
  rw [e]
  rcases Nat.lt_or_ge j i with q | q
  · have := h.most j q h4 h5
    omega
  · obtain rfl : j = i := by omega
    omega
theorem Srch.skip {W : Nat} {P : List (Nat × Nat)} {T : List (List UInt8)} {l : List UInt8} {i d : Nat} (h : Srch W P T l i d) (hn : ¬ ((textOf W T d).length < (T.getD i []).length ∧ (T.getD i []).length ≤ l.length ∧ T.getD i [] = l.take (T.getD i []).length)) : Srch W P T l (i + 1) d := by
  refine ⟨h.code, h.some_, h.fits, h.text, fun j hj h4 h5 => ?_⟩
  rcases Nat.lt_or_ge j i with q | q
  · exact h.most j q h4 h5
  · obtain rfl : j = i := by omega
    rcases Nat.lt_or_ge (textOf W T d).length (T.getD j []).length with q2 | q2
    · exact absurd ⟨q2, h5, h4⟩ hn
    · exact q2

/-- .. at its end. -/
theorem Srch.found {W : Nat} {P : List (Nat × Nat)} {T : List (List UInt8)} (hW : W ≤ 8) (hT : Trie W P T) (hN : P.Nodup) {b : UInt8} {r : List UInt8} {d : Nat} (hb : b.toNat < 2 ^ W) (h : Srch W P T (b :: r) P.length d) :
    d = (goOn W P b.toNat r).1 ∧ (textOf W T d).length = (goOn W P b.toNat r).2 + 1 := by
  have e := textOf_one (T := T) b hb
  have hc : isCode W P.length b.toNat := .inl hb
  obtain ⟨h1, h2⟩ := goOn_text hT r b.toNat hc
  have hle := goOn_le W P r b.toNat
  have hmax := goOn_longest hW hT hN b.toNat hc r d (textOf W T d).length h.code (by rw [e]; exact h.fits) (by rw [e]; exact h.text)
  rw [e] at h2 hmax
  have hlen : (textOf W T (goOn W P b.toNat r).1).length = (goOn W P b.toNat r).2 + 1 := by
    rw [h2, List.length_append, List.length_take, List.length_singleton]
    omega
  have htk : textOf W T (goOn W P b.toNat r).1 = (b :: r).take ((goOn W P b.toNat r).2 + 1) := by rw [h2, List.take_succ_cons]; rfl
  have hge : (goOn W P b.toNat r).2 + 1 ≤ (textOf W T d).length := by
    rcases h1 with q | ⟨q1, q2⟩
    · have e2 : textOf W T (goOn W P b.toNat r).1 = [UInt8.ofNat (goOn W P b.toNat r).1] := by rw [textOf, if_pos q]
      rw [e2, List.length_singleton] at hlen
      have := h.some_
      omega
    · obtain ⟨j, hj⟩ : ∃ j, (goOn W P b.toNat r).1 = 2 ^ W + 2 + j := ⟨(goOn W P b.toNat r).1 - (2 ^ W + 2), by omega⟩
      rw [hj, textOf_long] at hlen htk
      have := h.most j (by omega) (by rw [hlen]; exact htk) (by rw [hlen, List.length_cons]; omega)
      omega
  rw [List.length_singleton] at hmax
  have hn : (textOf W T d).length = (goOn W P b.toNat r).2 + 1 := by omega
  refine ⟨?_, hn⟩
  refine textOf_inj hW hT hN d d _ (Nat.le_refl _) h.code h1 ?_
  rw [h.text, hn, htk]

/-- What is told from a place on. -/
def packW (W : Nat) (P : List (Nat × Nat)) (S : Nat) : List UInt8 → List Pc
  | [] => []
  | b :: r => packC W P S b.toNat r

/-- The state of the document's packing. -/
structure DSt (W : Nat) (s : List UInt8) (P : List (Nat × Nat)) (T : List (List UInt8)) (S at_ : Nat) (ls : List Pc) : Prop where
  trie : Trie W P T
  nodup : P.Nodup
  size1 : 2 ^ W + 2 + P.length ≤ 2 ^ S
  size2 : S ≤ 12
  size3 : W + 1 ≤ S
  fit : Fit ls
  told : at_ < s.length → packAll W s = ls ++ packW W P S (s.drop at_)
  long : len ls ≤ 24 * at_ + 12
  texts : ∀ j, j < T.length → (T.getD j []).length ≤ at_ + 1

theorem DSt.start {W : Nat} {s : List UInt8} (hW2 : 2 ≤ W) (hW : W ≤ 8) : DSt W s [] [] (W + 1) 0 [(2 ^ W, W + 1)] := by
  have hp := pow_bits0 W hW2 hW
  have hd : 2 ^ (W + 1) = 2 ^ W + 2 ^ W := by rw [Nat.pow_succ]; omega
  refine ⟨Trie.nil W hW, List.nodup_nil, by simp only [List.length_nil]; omega, by omega, Nat.le_refl _, Fit.cons (by simp only; omega) Fit.nil, fun h => ?_, by simp only [len]; omega, fun j hj => by simp at hj⟩
  cases s with
  | nil => simp at h
  | cons b r => rfl

/-- The last word. -/
theorem DSt.last {W : Nat} {s : List UInt8} {P : List (Nat × Nat)} {T : List (List UInt8)} {S at_ : Nat} {ls : List Pc} {b : UInt8} {r : List UInt8} (h : DSt W s P T S at_ ls) (hs : s.drop at_ = b :: r) (hb : b.toNat < 2 ^ W) (he : (goOn W P b.toNat r).2 = r.length) :
    packAll W s = (ls ++ [((goOn W P b.toNat r).1, S)]) ++ [(2 ^ W + 1, size' S (2 ^ W + 2 + P.length))] ∧ (goOn W P b.toNat r).1 < 2 ^ S ∧ 2 ^ W + 1 < 2 ^ size' S (2 ^ W + 2 + P.length) := by
  have hlt : at_ < s.length := by
    rcases Nat.lt_or_ge at_ s.length with q | q
    · exact q
    · rw [List.drop_of_length_le q] at hs; cases hs
  have h1 := h.told hlt
  rw [hs, packW, packC_end W P S r b.toNat he] at h1
  obtain ⟨hg, _⟩ := goOn_text h.trie r b.toNat (.inl hb)
  have hf := h.trie.full
  have h3 := h.size1
  have hm := size'_mono S (2 ^ W + 2 + P.length)
  refine ⟨by rw [h1, List.append_assoc]; rfl, ?_, by omega⟩
  rcases hg with q | q <;> omega

/-- A word more, and no end yet. -/
theorem DSt.next {W : Nat} {s : List UInt8} {P : List (Nat × Nat)} {T : List (List UInt8)} {S at_ : Nat} {ls : List Pc} {b c : UInt8} {r r' : List UInt8} (hW2 : 2 ≤ W) (hW : W ≤ 8) (hsb : ∀ x ∈ s, x.toNat < 2 ^ W) (h : DSt W s P T S at_ ls) (hs : s.drop at_ = b :: r) (he : r.drop (goOn W P b.toNat r).2 = c :: r') :
    (goOn W P b.toNat r).1 < 2 ^ S ∧
    (2 ^ W + 2 + P.length ≠ 4095 → DSt W s (P ++ [((goOn W P b.toNat r).1, c.toNat)]) (T ++ [(b :: r).take ((goOn W P b.toNat r).2 + 2)]) (size' S (2 ^ W + 2 + P.length)) (at_ + ((goOn W P b.toNat r).2 + 1)) (ls ++ [((goOn W P b.toNat r).1, S)])) ∧
    (2 ^ W + 2 + P.length = 4095 → 2 ^ W < 2 ^ size' S 4095 ∧ DSt W s [] [] (W + 1) (at_ + ((goOn W P b.toNat r).2 + 1)) ((ls ++ [((goOn W P b.toNat r).1, S)]) ++ [(2 ^ W, size' S 4095)])) := by
  have hp := pow_bits0 W hW2 hW
  have hd2 : 2 ^ (W + 1) = 2 ^ W + 2 ^ W := by rw [Nat.pow_succ]; omega
  have hlt : at_ < s.length := by
    rcases Nat.lt_or_ge at_ s.length with q | q
    · exact q
    · rw [List.drop_of_length_le q] at hs; cases hs
  have hbm : b ∈ s := List.mem_of_mem_drop (i := at_) (by rw [hs]; simp)
  have hb := hsb b hbm
  have hcr : c ∈ r := List.mem_of_mem_drop (i := (goOn W P b.toNat r).2) (by rw [he]; simp)
  have hcm : c ∈ s := List.mem_of_mem_drop (i := at_) (by rw [hs]; simp [hcr])
  have hc := hsb c hcm
  have h1 := h.told hlt
  rw [hs, packW, packC_word W P S r b.toNat c r' he] at h1
  obtain ⟨hg, hgt⟩ := goOn_text h.trie r b.toNat (.inl hb)
  have hstop := goOn_stop W P r b.toNat c r' he
  have hf := h.trie.full
  have h3 := h.size1
  have hgl : (goOn W P b.toNat r).1 < 2 ^ S := by rcases hg with q | q <;> omega
  have hdrop : s.drop (at_ + ((goOn W P b.toNat r).2 + 1)) = c :: r' := by
    rw [← List.drop_drop, hs, List.drop_succ_cons, he]
  have hl := h.long
  have hS := h.size2
  have hsz12 : ∀ N, size' S N ≤ 12 := fun N => by unfold size'; split <;> omega
  have hszW : ∀ N, W + 1 ≤ size' S N := fun N => by have := h.size3; unfold size'; split <;> omega
  refine ⟨hgl, fun hne => ?_, fun heq => ?_⟩
  · rw [if_neg hne] at h1
    have hnew : T ++ [(b :: r).take ((goOn W P b.toNat r).2 + 2)] = T ++ [textOf W T (goOn W P b.toNat r).1 ++ [UInt8.ofNat c.toNat]] := by
      rw [hgt, textOf_one b hb]
      congr 2
      have hlr : (goOn W P b.toNat r).2 < r.length := by
        rcases Nat.lt_or_ge (goOn W P b.toNat r).2 r.length with q | q
        · exact q
        · rw [List.drop_of_length_le q] at he; cases he
      have e1 : r.take ((goOn W P b.toNat r).2 + 1) = r.take (goOn W P b.toNat r).2 ++ [c] := by
        have e2 : r[(goOn W P b.toNat r).2] = c := by
          have := congrArg (fun l => l[0]?) he
          simp [List.getElem?_drop, List.getElem?_eq_getElem hlr] at this
          exact this
        rw [List.take_add_one, List.getElem?_eq_getElem hlr, e2]
        rfl
      rw [List.take_succ_cons, e1]
      simp
    refine ⟨?_, ?_, ?_, hsz12 _, hszW _, Fit.append h.fit (Fit.cons hgl Fit.nil), fun _ => ?_, ?_, fun j hj => ?_⟩
    · rw [hnew]
      exact h.trie.push hg hc hne
    · rw [List.nodup_append]
      refine ⟨h.nodup, by simp, fun x hx y hy => ?_⟩
      rw [List.mem_singleton] at hy
      subst hy
      intro e
      subst e
      unfold look at hstop
      rw [if_pos hx] at hstop
      cases hstop
    · rw [List.length_append, List.length_singleton]
      exact size'_ok h3 hS hf
    · rw [hdrop, h1]
      simp [packW]
    · rw [len_append]
      simp only [len]
      omega
    · rw [List.length_append, List.length_singleton] at hj
      rcases Nat.lt_or_ge j T.length with q | q
      · have e3 : (T ++ [(b :: r).take ((goOn W P b.toNat r).2 + 2)]).getD j [] = T.getD j [] := by simp [List.getElem?_append_left q]
        rw [e3]
        have := h.texts j q
        omega
      · obtain rfl : j = T.length := by omega
        have : (T ++ [(b :: r).take ((goOn W P b.toNat r).2 + 2)]).getD T.length [] = (b :: r).take ((goOn W P b.toNat r).2 + 2) := by simp
        rw [this, List.length_take]
        omega
  · rw [if_pos heq] at h1
    have hm := size'_mono S 4095
    refine ⟨by omega, Trie.nil W hW, List.nodup_nil, by simp only [List.length_nil]; omega, by omega, Nat.le_refl _, Fit.append (Fit.append h.fit (Fit.cons hgl Fit.nil)) (Fit.cons (by simp only; omega) Fit.nil), fun _ => ?_, ?_, fun j hj => by simp at hj⟩
    · rw [hdrop, h1]
      simp [packW]
    · rw [len_append, len_append]
      have := hsz12 4095
      simp only [len]
      omega
end Lz
end Go.Proofs.YtjcoahahponabaaGreatDoor
