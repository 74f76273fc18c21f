/- What is packed is unpacked: plain. -/
import Derived.Test.YtmmilamaahmaoaeDoorLze
namespace Go.Proofs.YtmmilamaahmaoaeDoor
namespace Lz
open Ps

theorem size'_ok {W S m : Nat} (h : 2 ^ W + 2 + m ≤ 2 ^ S) (hS : S ≤ 12) (hm : 2 ^ W + 2 + m ≤ 4095) : 2 ^ W + 2 + (m + 1) ≤ 2 ^ size' S (2 ^ W + 2 + m) := by
  unfold size'
  split
  · next q =>
    rw [Nat.pow_succ, ← q.1]
    generalize 2 ^ W = X at *
    omega
  · next q =>
    by_cases he : 2 ^ W + 2 + m = 2 ^ S
    · have h12 : S = 12 := by
        rcases Nat.lt_or_ge S 12 with c | c
        · exact absurd ⟨he, c⟩ q
        · omega
      subst h12
      have : 2 ^ 12 = 4096 := by decide
      omega
    · omega
theorem size'_mono (S N : Nat) : 2 ^ S ≤ 2 ^ size' S N := by
  unfold size'
  split
  · exact Nat.pow_le_pow_right (by omega) (by omega)
  · exact Nat.le_refl _

theorem pow_bits0 (W : Nat) (h2 : 2 ≤ W) (h8 : W ≤ 8) : 4 ≤ 2 ^ W ∧ 2 ^ W ≤ 256 := ⟨Nat.pow_le_pow_right (n := 2) (i := 2) (by omega) h2, pow2 W h8⟩

theorem packC_fit (W : Nat) (hW2 : 2 ≤ W) (hW : W ≤ 8) : ∀ (r : List UInt8) (P : List (Nat × Nat)) (S c : Nat), isCode W P.length c → (∀ b ∈ r, b.toNat < 2 ^ W) → (∀ n c', look W P c n = some c' → isCode W P.length c') → (∀ c n c', look W P c n = some c' → isCode W P.length c') → 2 ^ W + 2 + P.length ≤ 2 ^ S → S ≤ 12 → 2 ^ W + 2 + P.length ≤ 4095 → W + 1 ≤ S → Fit (packC W P S c r) := by
  intro r
  induction r with
  | nil =>
    intro P S c hc _ _ _ hS h12 hf _
    unfold packC
    have hm := size'_mono S (2 ^ W + 2 + P.length)
    refine Fit.cons ?_ (Fit.cons ?_ Fit.nil)
    · show c < 2 ^ S
      rcases hc with q | q <;> omega
    · show 2 ^ W + 1 < 2 ^ size' S (2 ^ W + 2 + P.length)
      omega
  | cons b r ih =>
    intro P S c hc hb _ hlk hS h12 hf hWS
    unfold packC
    have hb0 := hb b (List.mem_cons_self ..)
    have hbr : ∀ x ∈ r, x.toNat < 2 ^ W := fun x hx => hb x (List.mem_cons_of_mem _ hx)
    cases hl : look W P c b.toNat with
    | some c' => exact ih P S c' (hlk c b.toNat c' hl) hbr (hlk c') hlk hS h12 hf hWS
    | none =>
      simp only
      have hc1 : c < 2 ^ S := by rcases hc with q | q <;> omega
      refine Fit.cons hc1 ?_
      have hp := pow_bits0 W hW2 hW
      by_cases hfull : 2 ^ W + 2 + P.length = 4095
      · rw [if_pos hfull]
        have hm := size'_mono S 4095
        have h0 : ∀ c n c', look W [] c n = some c' → isCode W 0 c' := fun c n c' q => by simp [look] at q
        refine Fit.cons (show 2 ^ W < 2 ^ size' S 4095 by omega) (ih [] (W + 1) b.toNat (.inl hb0) hbr (fun n c' q => h0 _ n c' q) h0 ?_ (by omega) (by simp only [List.length_nil]; omega) (Nat.le_refl _))
        simp only [List.length_nil]
        rw [Nat.pow_succ]
        omega
      · rw [if_neg hfull]
        have hs := size'_le S (2 ^ W + 2 + P.length) h12
        have hlk2 : ∀ c1 n c', look W (P ++ [(c, b.toNat)]) c1 n = some c' → isCode W (P ++ [(c, b.toNat)]).length c' := fun c1 n c' q => by
          unfold look at q
          split at q
          · next hmem =>
            injection q with q
            subst q
            have := List.idxOf_lt_length_of_mem hmem
            exact .inr ⟨by omega, by omega⟩
          · cases q
        exact ih _ _ _ (.inl hb0) hbr (fun n c' q => hlk2 _ n c' q) hlk2 (by rw [List.length_append]; exact size'_ok hS h12 hf) hs.2 (by simp only [List.length_append, List.length_cons, List.length_nil]; omega) (by omega)


theorem dec_packC {V nb W most : Nat} (hW2 : 2 ≤ W) (hW : W ≤ 8) : ∀ (r : List UInt8) (P : List (Nat × Nat)) (T : List (List UInt8)) (S c : Nat) (y : List UInt8) (st : St) (f : Nat), Trie W P T → isCode W P.length c → (∀ b ∈ r, b.toNat < 2 ^ W) → 2 ^ W + 2 + P.length ≤ 2 ^ S → S ≤ 12 → W + 1 ≤ S → y = textOf W T c → Lag T st y → st.S = S → At V nb st.k (packC W P S c r) → st.out.length + y.length + r.length ≤ most → nb < st.k + f →
    dec V nb W most f st = .ok (st.out ++ y ++ r) (st.k + len (packC W P S c r)) := by
  intro r
  have hp4 : 4 ≤ 2 ^ W := Nat.pow_le_pow_right (n := 2) (i := 2) (by omega) hW2
  have hp256 := pow2 W hW
  induction r with
  | nil =>
    intro P T S c y st f hT hc _ hS h12 hWS hy hl hSt hat hm hf
    have hfull := hT.full
    have hmany := hT.many
    have hcS : c < 2 ^ S := by rcases hc with q | q <;> omega
    have hmo := size'_mono S (2 ^ W + 2 + P.length)
    unfold packC at hat ⊢
    obtain ⟨a1, a2⟩ := At.cons (p := (c, S)) hcS hat
    obtain ⟨b1, b2⟩ := a1.one
    obtain ⟨d1, d2⟩ := a2.one
    simp only at b1 b2 d1 d2
    obtain ⟨hw, hws⟩ := hl.wordOf hT hc hy
    obtain ⟨f1, rfl⟩ : ∃ f1, f = f1 + 1 := ⟨f - 1, by omega⟩
    have hne1 : c ≠ 2 ^ W + 1 := by rcases hc with q | q <;> omega
    have hne2 : c ≠ 2 ^ W := by rcases hc with q | q <;> omega
    have hs1 := Lz.step_word (V := V) (nb := nb) (most := most) (st := st) (n := c) (by rw [hSt]; exact b1) (by rw [hSt]; exact b2.symm) hne1 hne2 hw (by simp only [List.length_nil] at hm; omega)
    rw [dec_go rfl hs1, hws, hmany, hSt]
    obtain ⟨f2, rfl⟩ : ∃ f2, f1 = f2 + 1 := ⟨f1 - 1, by omega⟩
    have hs2 := Lz.step_end (V := V) (nb := nb) (most := most) (st := ⟨st.k + S, size' S (2 ^ W + 2 + P.length), T, y, st.out ++ y⟩) (n := 2 ^ W + 1) d1 d2.symm rfl
    rw [dec_stop rfl hs2]
    simp only [List.append_nil, len]
    congr 1
    omega
  | cons b r ih =>
    intro P T S c y st f hT hc hb hS h12 hWS hy hl hSt hat hm hf
    have hb0 := hb b (List.mem_cons_self ..)
    have hbr : ∀ x ∈ r, x.toNat < 2 ^ W := fun x hx => hb x (List.mem_cons_of_mem _ hx)
    have hofb : UInt8.ofNat b.toNat = b := by simp
    unfold packC at hat ⊢
    cases hlk : look W P c b.toNat with
    | some c' =>
      rw [hlk] at hat
      simp only at hat ⊢
      obtain ⟨hc', ht'⟩ := look_some hT hlk
      rw [hofb, ← hy] at ht'
      have hy0 : y ≠ [] := by rw [hy]; exact textOf_ne hT hc
      have htk : (y ++ [b]).take 1 = y.take 1 := by
        cases y with
        | nil => exact absurd rfl hy0
        | cons a q => rfl
      have hl' : Lag T st (y ++ [b]) := by
        unfold Lag at hl ⊢
        rw [htk]; exact hl
      have := ih P T S c' (y ++ [b]) st f hT hc' hbr hS h12 hWS ht'.symm hl' hSt hat (by simp only [List.length_append, List.length_cons, List.length_nil] at hm ⊢; omega) hf
      rw [this]
      simp
    | none =>
      rw [hlk] at hat
      simp only at hat ⊢
      have hfull := hT.full
      have hmany := hT.many
      have hcS : c < 2 ^ S := by rcases hc with q | q <;> omega
      obtain ⟨a1, a2⟩ := At.cons (p := (c, S)) hcS hat
      obtain ⟨b1, b2⟩ := a1.one
      simp only at b1 b2 a2
      obtain ⟨hw, hws⟩ := hl.wordOf hT hc hy
      obtain ⟨f1, rfl⟩ : ∃ f1, f = f1 + 1 := ⟨f - 1, by omega⟩
      have hne1 : c ≠ 2 ^ W + 1 := by rcases hc with q | q <;> omega
      have hne2 : c ≠ 2 ^ W := by rcases hc with q | q <;> omega
      have hy0 : y ≠ [] := by rw [hy]; exact textOf_ne hT hc
      simp only [List.length_cons] at hm
      have hs1 := Lz.step_word (V := V) (nb := nb) (most := most) (st := st) (n := c) (by rw [hSt]; exact b1) (by rw [hSt]; exact b2.symm) hne1 hne2 hw (by omega)
      rw [dec_go rfl hs1, hws, hmany, hSt]
      have hyb : textOf W ([] : List (List UInt8)) b.toNat = [b] := by rw [textOf, if_pos hb0, hofb]
      by_cases hfl : 2 ^ W + 2 + P.length = 4095
      · rw [if_pos hfl] at hat a2 ⊢
        rw [hfl]
        have hmo := size'_mono S 4095
        obtain ⟨c1, c2⟩ := At.cons (p := (2 ^ W, size' S 4095)) (show 2 ^ W < 2 ^ size' S 4095 by omega) a2
        obtain ⟨d1, d2⟩ := c1.one
        simp only at d1 d2 c2
        obtain ⟨f2, rfl⟩ : ∃ f2, f1 = f2 + 1 := ⟨f1 - 1, by omega⟩
        have hs2 := Lz.step_clear (V := V) (nb := nb) (W := W) (most := most) (st := ⟨st.k + S, size' S 4095, T, y, st.out ++ y⟩) (n := 2 ^ W) d1 d2.symm rfl
        rw [dec_go rfl hs2]
        have := ih [] [] (W + 1) b.toNat [b] ⟨st.k + S + size' S 4095, W + 1, [], [], st.out ++ y⟩ f2 (Trie.nil W hW) (.inl hb0) hbr (by simp only [List.length_nil]; rw [Nat.pow_succ]; omega) (by omega) (Nat.le_refl _) hyb.symm (.inl ⟨rfl, rfl, rfl⟩) rfl c2 (by simp only [List.length_append, List.length_cons, List.length_nil]; omega) (by simp only; omega)
        rw [this]
        simp only [len, List.append_assoc, List.cons_append, List.nil_append]
        congr 1
        omega
      · rw [if_neg hfl] at hat a2 ⊢
        have hs := size'_le S (2 ^ W + 2 + P.length) h12
        have := ih (P ++ [(c, b.toNat)]) (T ++ [textOf W T c ++ [UInt8.ofNat b.toNat]]) (size' S (2 ^ W + 2 + P.length)) b.toNat [b] ⟨st.k + S, size' S (2 ^ W + 2 + P.length), T, y, st.out ++ y⟩ f1 (hT.push hc hb0 hfl) (.inl hb0) hbr (by rw [List.length_append]; exact size'_ok hS h12 hfull) hs.2 (by omega) (by rw [textOf, if_pos hb0, hofb]) (.inr ⟨hy0, by rw [hofb, ← hy]; rfl⟩) rfl a2 (by simp only [List.length_append, List.length_cons, List.length_nil]; omega) (by simp only; omega)
        rw [this]
        simp only [len, List.append_assoc, List.cons_append, List.nil_append]
        congr 1
        omega
end Lz
end Go.Proofs.YtmmilamaahmaoaeDoor
