/- What codes of a growing list mean: plain. -/
import Derived.Test.YtjcoahahponabaaGreatDoorMg2
namespace Go.Proofs.YtjcoahahponabaaGreatDoor
namespace Lz

theorem getD_left {α : Type} (a b : List α) (j : Nat) (d : α) (h : j < a.length) : (a ++ b).getD j d = a.getD j d := by
  rw [List.getD_eq_getElem?_getD, List.getElem?_append_left h, List.getD_eq_getElem?_getD]
theorem getD_right {α : Type} (a b : List α) (j : Nat) (d : α) (h : a.length ≤ j) : (a ++ b).getD j d = b.getD (j - a.length) d := by
  rw [List.getD_eq_getElem?_getD, List.getElem?_append_right h, List.getD_eq_getElem?_getD]
theorem getD_at {α : Type} (a : List α) (j : Nat) (d : α) (h : j < a.length) : a.getD j d = a[j] := by
  rw [List.getD_eq_getElem?_getD, List.getElem?_eq_getElem h]; rfl

/-- What codes are read as: what they mean and where they end; or an error. -/
inductive Res where
  | ok (out : List UInt8) (k : Nat)
  | text
  | bound

/-- A reading on its way: bits read, bits a code, longer words, the word ahead, what was told. -/
structure St where
  k : Nat
  S : Nat
  words : List (List UInt8)
  ahead : List UInt8
  out : List UInt8

/-- The list takes one more. -/
def more (W : Nat) (st : St) : Bool := decide (st.ahead ≠ []) && decide (2 ^ W + 2 + st.words.length < 4096)
/-- The word of a code. -/
def wordOf (W : Nat) (st : St) (n : Nat) : Option (List UInt8) :=
  if n < 2 ^ W then some [UInt8.ofNat n]
  else if n - (2 ^ W + 2) < st.words.length then some (st.words.getD (n - (2 ^ W + 2)) [])
  else if n - (2 ^ W + 2) = st.words.length ∧ more W st = true then some (st.ahead ++ st.ahead.take 1)
  else none
def words' (W : Nat) (st : St) (x : List UInt8) : List (List UInt8) := if more W st = true then st.words ++ [st.ahead ++ x.take 1] else st.words
def size' (S N : Nat) : Nat := if N = 2 ^ S ∧ S < 12 then S + 1 else S

/-- One code more. -/
def step (V nb W most : Nat) (st : St) : St ⊕ Res :=
  if nb < st.k + st.S then .inr .text
  else
    let n := V / 2 ^ st.k % 2 ^ st.S
    if n = 2 ^ W + 1 then .inr (.ok st.out (st.k + st.S))
    else if n = 2 ^ W then .inl ⟨st.k + st.S, W + 1, [], [], st.out⟩
    else match wordOf W st n with
      | none => .inr .text
      | some x => if most < st.out.length + x.length then .inr .bound
        else .inl ⟨st.k + st.S, size' st.S (2 ^ W + 2 + (words' W st x).length), words' W st x, x, st.out ++ x⟩

def dec (V nb W most : Nat) : Nat → St → Res
  | 0, _ => .text
  | f + 1, st => match step V nb W most st with
    | .inl st' => dec V nb W most f st'
    | .inr r => r

theorem dec_go {V nb W most f : Nat} {st st' : St} {G : Res} (h : G = dec V nb W most (f + 1) st) (hs : step V nb W most st = .inl st') : G = dec V nb W most f st' := by
  rw [h, dec, hs]
theorem dec_stop {V nb W most f : Nat} {st : St} {G r : Res} (h : G = dec V nb W most (f + 1) st) (hs : step V nb W most st = .inr r) : G = r := by
  rw [h, dec, hs]

section
variable {V nb W most : Nat} {st : St}
theorem step_short (h : nb < st.k + st.S) : step V nb W most st = .inr .text := by rw [step, if_pos h]
theorem step_end {n : Nat} (h : st.k + st.S ≤ nb) (hn : n = V / 2 ^ st.k % 2 ^ st.S) (he : n = 2 ^ W + 1) : step V nb W most st = .inr (.ok st.out (st.k + st.S)) := by
  rw [step, if_neg (by omega), ← hn]; simp only; rw [if_pos he]
theorem step_clear {n : Nat} (h : st.k + st.S ≤ nb) (hn : n = V / 2 ^ st.k % 2 ^ st.S) (he : n = 2 ^ W) : step V nb W most st = .inl ⟨st.k + st.S, W + 1, [], [], st.out⟩ := by
  rw [step, if_neg (by omega), ← hn]; simp only; rw [if_neg (by omega), if_pos he]
theorem step_none {n : Nat} (h : st.k + st.S ≤ nb) (hn : n = V / 2 ^ st.k % 2 ^ st.S) (h1 : n ≠ 2 ^ W + 1) (h2 : n ≠ 2 ^ W) (hw : wordOf W st n = none) : step V nb W most st = .inr .text := by
  rw [step, if_neg (by omega), ← hn]; simp only; rw [if_neg h1, if_neg h2, hw]
theorem step_bound {n : Nat} {x : List UInt8} (h : st.k + st.S ≤ nb) (hn : n = V / 2 ^ st.k % 2 ^ st.S) (h1 : n ≠ 2 ^ W + 1) (h2 : n ≠ 2 ^ W) (hw : wordOf W st n = some x) (hb : most < st.out.length + x.length) : step V nb W most st = .inr .bound := by
  rw [step, if_neg (by omega), ← hn]; simp only; rw [if_neg h1, if_neg h2, hw]; simp only; rw [if_pos hb]
theorem step_word {n : Nat} {x : List UInt8} (h : st.k + st.S ≤ nb) (hn : n = V / 2 ^ st.k % 2 ^ st.S) (h1 : n ≠ 2 ^ W + 1) (h2 : n ≠ 2 ^ W) (hw : wordOf W st n = some x) (hb : st.out.length + x.length ≤ most) : step V nb W most st = .inl ⟨st.k + st.S, size' st.S (2 ^ W + 2 + (words' W st x).length), words' W st x, x, st.out ++ x⟩ := by
  rw [step, if_neg (by omega), ← hn]; simp only; rw [if_neg h1, if_neg h2, hw]; simp only; rw [if_neg (by omega)]
end

/-- What holds on the way: sizes, and how the words came to be. -/
structure Good (W : Nat) (st : St) : Prop where
  s1 : W + 1 ≤ st.S
  s12 : st.S ≤ 12
  full : 2 ^ W + 2 + st.words.length ≤ 4096
  ne : ∀ x ∈ st.words, x ≠ []
  a : st.ahead = [] → st.words = []

def start (W : Nat) : St := ⟨0, W + 1, [], [], []⟩

theorem pow2 (W : Nat) (h : W ≤ 8) : 2 ^ W ≤ 256 := Nat.pow_le_pow_right (n := 2) (j := 8) (by omega) h

theorem good_start (W : Nat) (h : W ≤ 8) (k : Nat) (out : List UInt8) : Good W ⟨k, W + 1, [], [], out⟩ :=
  ⟨Nat.le_refl _, by show W + 1 ≤ 12; omega, by have := pow2 W h; show 2 ^ W + 2 + 0 ≤ 4096; omega, (fun x h => by cases h), fun _ => rfl⟩

theorem wordOf_ne {W : Nat} {st : St} (hg : Good W st) {n : Nat} {x : List UInt8} (h : wordOf W st n = some x) : x ≠ [] := by
  unfold wordOf at h
  by_cases h1 : n < 2 ^ W
  · rw [if_pos h1] at h
    injection h with h; subst h; simp
  · rw [if_neg h1] at h
    by_cases h2 : n - (2 ^ W + 2) < st.words.length
    · rw [if_pos h2] at h
      injection h with h
      subst h
      refine hg.ne _ ?_
      rw [List.getD_eq_getElem?_getD, List.getElem?_eq_getElem h2]
      exact List.getElem_mem h2
    · rw [if_neg h2] at h
      by_cases h3 : n - (2 ^ W + 2) = st.words.length ∧ more W st = true
      · rw [if_pos h3] at h
        injection h with h
        subst h
        have := h3.2
        unfold more at this
        simp only [Bool.and_eq_true, decide_eq_true_eq] at this
        intro q
        exact this.1 (List.append_eq_nil_iff.1 q).1
      · rw [if_neg h3] at h; cases h

theorem size'_le (S N : Nat) (h : S ≤ 12) : S ≤ size' S N ∧ size' S N ≤ 12 := by
  unfold size'
  split
  · omega
  · omega

theorem words'_length (W : Nat) (st : St) (x : List UInt8) (hg : Good W st) : 2 ^ W + 2 + (words' W st x).length ≤ 4096 := by
  unfold words'
  split
  · next h =>
    unfold more at h
    simp only [Bool.and_eq_true, decide_eq_true_eq] at h
    rw [List.length_append]
    have := h.2
    simp only [List.length_cons, List.length_nil]
    omega
  · exact hg.full

theorem Good.next {W : Nat} {st : St} (hg : Good W st) {n : Nat} {x : List UInt8} (h : wordOf W st n = some x) (k : Nat) (out : List UInt8) :
    Good W ⟨k, size' st.S (2 ^ W + 2 + (words' W st x).length), words' W st x, x, out⟩ := by
  have hx := wordOf_ne hg h
  have hs := size'_le st.S (2 ^ W + 2 + (words' W st x).length) hg.s12
  refine ⟨Nat.le_trans hg.s1 hs.1, hs.2, words'_length W st x hg, ?_, fun e => absurd e hx⟩
  intro y hy
  simp only at hy
  unfold words' at hy
  split at hy
  · rcases List.mem_append.1 hy with q | q
    · exact hg.ne y q
    · simp only [List.mem_singleton] at q
      subst q
      next hm =>
      unfold more at hm
      simp only [Bool.and_eq_true, decide_eq_true_eq] at hm
      intro q
      exact hm.1 (List.append_eq_nil_iff.1 q).1
  · exact hg.ne y hy

/-! ### Words as pieces of what was told -/

/-- A piece, copied number by number behind the text. -/
def again (o : List UInt8) (a : Nat) : Nat → List UInt8
  | 0 => o
  | i + 1 => again o a i ++ [(again o a i).getD (a + i) 0]

theorem again_length (o : List UInt8) (a i : Nat) : (again o a i).length = o.length + i := by
  induction i with
  | zero => rfl
  | succ i ih => rw [again, List.length_append, ih]; simp only [List.length_cons, List.length_nil]; omega
theorem again_front (o : List UInt8) (a l : Nat) (h : a + l ≤ o.length) : again o a l = o ++ (o.drop a).take l := by
  induction l with
  | zero => simp [again]
  | succ i ih =>
    rw [again, ih (by omega)]
    have h1 : a + i < o.length := by omega
    rw [getD_left _ _ _ _ h1, getD_at _ _ _ h1, List.append_assoc, List.take_add_one, List.getElem?_drop, List.getElem?_eq_getElem h1]
    rfl
theorem again_self (o : List UInt8) (a l : Nat) (h : a + l = o.length + 1) (ha : a < o.length) : again o a l = o ++ (o.drop a ++ (o.drop a).take 1) := by
  obtain ⟨i, rfl⟩ : ∃ i, l = i + 1 := ⟨l - 1, by omega⟩
  rw [again, again_front o a i (by omega), List.take_of_length_le (by rw [List.length_drop]; omega), List.append_assoc]
  congr 2
  have h2 : (o ++ o.drop a).getD (a + i) 0 = o.getD a 0 := by
    rw [show a + i = o.length by omega, getD_right _ _ _ _ (Nat.le_refl _), Nat.sub_self]
    rw [List.getD_eq_getElem?_getD, List.getElem?_drop, List.getD_eq_getElem?_getD]; rfl
  rw [h2, getD_at _ _ _ ha, List.drop_eq_getElem_cons ha]
  rfl

/-- Pieces of the text o mean the words. -/
structure Means (W : Nat) (st : St) (pcs : List (Nat × Nat)) (la ll : Nat) : Prop where
  many : pcs.length = st.words.length
  each : ∀ j, j < pcs.length → (pcs.getD j (0, 0)).1 + (pcs.getD j (0, 0)).2 ≤ st.out.length ∧ st.words.getD j [] = (st.out.drop (pcs.getD j (0, 0)).1).take (pcs.getD j (0, 0)).2
  last : (st.ahead = [] ∧ ll = 0) ∨ (st.ahead ≠ [] ∧ la + ll = st.out.length ∧ st.ahead = st.out.drop la ∧ 0 < ll)

/-- The pieces behind 'grow'. -/
def grownP (W : Nat) (st : St) (pcs : List (Nat × Nat)) (la ll : Nat) : List (Nat × Nat) := if more W st = true then pcs ++ [(la, ll + 1)] else pcs

theorem Means.clear {W : Nat} {k S : Nat} {out : List UInt8} {la : Nat} : Means W ⟨k, S, [], [], out⟩ [] la 0 := ⟨rfl, fun j h => by simp at h, .inl ⟨rfl, rfl⟩⟩

theorem more_iff {W : Nat} {st : St} {pcs : List (Nat × Nat)} {la ll : Nat} (h : Means W st pcs la ll) : more W st = true ↔ ll ≠ 0 ∧ 2 ^ W + 2 + pcs.length < 4096 := by
  unfold more
  simp only [Bool.and_eq_true, decide_eq_true_eq, h.many]
  rcases h.last with ⟨h1, h2⟩ | ⟨h1, _, _, h2⟩
  · simp [h1, h2]
  · simp [h1]; omega

theorem grownP_length {W : Nat} {st : St} {pcs : List (Nat × Nat)} {la ll : Nat} (h : Means W st pcs la ll) (x : List UInt8) : (grownP W st pcs la ll).length = (words' W st x).length := by
  unfold grownP words'
  split <;> simp [h.many]

/-- The word of a code, by the pieces behind 'grow'. -/
theorem wordOf_low {W : Nat} {st : St} {n : Nat} (h : n < 2 ^ W) : wordOf W st n = some [UInt8.ofNat n] := by rw [wordOf, if_pos h]
theorem wordOf_none {W : Nat} {st : St} {pcs : List (Nat × Nat)} {la ll n : Nat} (h : Means W st pcs la ll) (h0 : 2 ^ W + 2 ≤ n) (hn : 2 ^ W + 2 + (grownP W st pcs la ll).length ≤ n) : wordOf W st n = none := by
  have h1 : pcs.length ≤ (grownP W st pcs la ll).length := by unfold grownP; split <;> simp
  have hm := h.many
  rw [wordOf, if_neg (by omega), if_neg (by omega), if_neg]
  rintro ⟨e, hmo⟩
  unfold grownP at hn
  rw [if_pos hmo] at hn
  simp only [List.length_append, List.length_cons, List.length_nil] at hn
  omega
theorem wordOf_some {W : Nat} {st : St} {pcs : List (Nat × Nat)} {la ll n j : Nat} (hg : Good W st) (h : Means W st pcs la ll) (hj : n = 2 ^ W + 2 + j) (hn : j < (grownP W st pcs la ll).length) :
    ∃ x, wordOf W st n = some x ∧ again st.out ((grownP W st pcs la ll).getD j (0, 0)).1 ((grownP W st pcs la ll).getD j (0, 0)).2 = st.out ++ x ∧ ((grownP W st pcs la ll).getD j (0, 0)).1 < st.out.length ∧ x.length = ((grownP W st pcs la ll).getD j (0, 0)).2 ∧ ((grownP W st pcs la ll).getD j (0, 0)).1 + ((grownP W st pcs la ll).getD j (0, 0)).2 ≤ st.out.length + 1 := by
  have hm := h.many
  by_cases hlt : j < pcs.length
  · have hgd : (grownP W st pcs la ll).getD j (0, 0) = pcs.getD j (0, 0) := by
      unfold grownP
      split
      · rw [getD_left _ _ _ _ hlt]
      · rfl
    obtain ⟨e1, e2⟩ := h.each j hlt
    have hne : st.words.getD j [] ≠ [] := by
      refine hg.ne _ ?_
      rw [List.getD_eq_getElem?_getD, List.getElem?_eq_getElem (by omega)]
      exact List.getElem_mem _
    rw [hgd]
    refine ⟨st.words.getD j [], ?_, ?_, ?_, ?_, by omega⟩
    · rw [wordOf, if_neg (by omega), if_pos (by omega), hj, Nat.add_sub_cancel_left]
    · rw [again_front _ _ _ e1, e2]
    · rcases Nat.lt_or_ge (pcs.getD j (0, 0)).1 st.out.length with q | q
      · exact q
      · rw [e2, List.drop_of_length_le q] at hne
        simp at hne
    · rw [e2, List.length_take, List.length_drop]; omega
  · have hmo : more W st = true := by
      rcases Bool.eq_false_or_eq_true (more W st) with q | q
      · exact q
      · unfold grownP at hn
        rw [if_neg (by simp [q])] at hn
        omega
    have hjl : j = pcs.length := by
      unfold grownP at hn
      rw [if_pos hmo] at hn
      simp only [List.length_append, List.length_cons, List.length_nil] at hn
      omega
    have hgd : (grownP W st pcs la ll).getD j (0, 0) = (la, ll + 1) := by
      unfold grownP
      rw [if_pos hmo, hjl, getD_right _ _ _ _ (Nat.le_refl _), Nat.sub_self]
      rfl
    rw [hgd]
    obtain ⟨l0, _⟩ := (more_iff h).1 hmo
    rcases h.last with ⟨_, q⟩ | ⟨_, q1, q2, q3⟩
    · exact absurd q l0
    · refine ⟨st.ahead ++ st.ahead.take 1, ?_, ?_, ?_, ?_, by simp only; omega⟩
      · rw [wordOf, if_neg (by omega), if_neg (by omega), if_pos ⟨by omega, hmo⟩]
      · rw [again_self _ _ _ (by simp only; omega) (by simp only; omega), q2]
      · simp only; omega
      · rw [q2]
        simp only [List.length_append, List.length_take, List.length_drop]
        omega

theorem Means.next {W : Nat} {st : St} {pcs : List (Nat × Nat)} {la ll : Nat} (h : Means W st pcs la ll) {x : List UInt8} (hx : x ≠ []) (k S : Nat) :
    Means W ⟨k, S, words' W st x, x, st.out ++ x⟩ (grownP W st pcs la ll) st.out.length x.length := by
  have hx0 : 0 < x.length := List.length_pos_iff.2 hx
  refine ⟨grownP_length h x, ?_, .inr ⟨hx, by simp, by simp, hx0⟩⟩
  intro j hj
  have hm := h.many
  by_cases hlt : j < pcs.length
  · have hgd : (grownP W st pcs la ll).getD j (0, 0) = pcs.getD j (0, 0) := by
      unfold grownP
      split
      · rw [getD_left _ _ _ _ hlt]
      · rfl
    have hwd : (words' W st x).getD j [] = st.words.getD j [] := by
      unfold words'
      split
      · rw [getD_left _ _ _ _ (by omega)]
      · rfl
    obtain ⟨e1, e2⟩ := h.each j hlt
    simp only
    rw [hgd, hwd, e2]
    refine ⟨by rw [List.length_append]; omega, ?_⟩
    rw [List.drop_append_of_le_length (by omega), List.take_append_of_le_length (by rw [List.length_drop]; omega)]
  · have hmo : more W st = true := by
      rcases Bool.eq_false_or_eq_true (more W st) with q | q
      · exact q
      · unfold grownP at hj
        rw [if_neg (by simp [q])] at hj
        omega
    have hjl : j = pcs.length := by
      unfold grownP at hj
      rw [if_pos hmo] at hj
      simp only [List.length_append, List.length_cons, List.length_nil] at hj
      omega
    have hgd : (grownP W st pcs la ll).getD j (0, 0) = (la, ll + 1) := by
      unfold grownP
      rw [if_pos hmo, hjl, getD_right _ _ _ _ (Nat.le_refl _), Nat.sub_self]
      rfl
    have hwd : (words' W st x).getD j [] = st.ahead ++ x.take 1 := by
      unfold words'
      rw [if_pos hmo, getD_right _ _ _ _ (by omega), show j - st.words.length = 0 by omega]
      rfl
    obtain ⟨l0, _⟩ := (more_iff h).1 hmo
    simp only
    rw [hgd, hwd]
    rcases h.last with ⟨_, q⟩ | ⟨_, q1, q2, q3⟩
    · exact absurd q l0
    · refine ⟨by rw [List.length_append]; simp only; omega, ?_⟩
      simp only
      have e1 : (st.out.drop la).take (ll + 1) = st.out.drop la := List.take_of_length_le (by rw [List.length_drop]; omega)
      rw [q2, List.drop_append_of_le_length (by omega), List.take_append, e1, List.length_drop, show ll + 1 - (st.out.length - la) = 1 by omega]
end Lz
end Go.Proofs.YtjcoahahponabaaGreatDoor
