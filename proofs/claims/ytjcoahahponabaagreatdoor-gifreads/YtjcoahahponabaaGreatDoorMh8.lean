/- What is packed is unpacked: plain. Walks of the packer of numbers: all of them. -/
import Derived.Test.YtjcoahahponabaaGreatDoorMh3
import Derived.Test.YtjcoahahponabaaGreatDoorLzk
import Derived.Test.YtjcoahahponabaaGreatDoorMh5
namespace Go.Proofs.YtjcoahahponabaaGreatDoor
namespace Lz
open Ps

theorem size'_ok {W S m : Nat} (h : 2 ^ W + 2 + m ≤ 2 ^ S) (hS : S ≤ 12) (hm : 2 ^ W + 2 + m ≤ 4095) : 2 ^ W + 2 + (m + 1) ≤ 2 ^ size' S (2 ^ W + 2 + m) := by
  unfold size'
  split
  · next q =>
    rw [Nat.pow_succ, ← q.1]
    generalize 2 ^ W = X at *
    omega
  · next q =>
    by_cases he : 2 ^ W + 2 + m = 2 ^ S
    · have h12 : S = 12 := by
        rcases Nat.lt_or_ge S 12 with c | c
        · exact absurd ⟨he, c⟩ q
        · omega
      subst h12
      have : 2 ^ 12 = 4096 := by decide
      omega
    · omega
theorem size'_mono (S N : Nat) : 2 ^ S ≤ 2 ^ size' S N := by
  unfold size'
  split
  · exact Nat.pow_le_pow_right (by omega) (by omega)
  · exact Nat.le_refl _

theorem pow_bits0 (W : Nat) (h2 : 2 ≤ W) (h8 : W ≤ 8) : 4 ≤ 2 ^ W ∧ 2 ^ W ≤ 256 := ⟨Nat.pow_le_pow_right (n := 2) (i := 2) (by omega) h2, pow2 W h8⟩

theorem packC_fit (W : Nat) (hW2 : 2 ≤ W) (hW : W ≤ 8) : ∀ (r : List UInt8) (P : List (Nat × Nat)) (S c : Nat), isCode W P.length c → (∀ b ∈ r, b.toNat < 2 ^ W) → (∀ n c', look W P c n = some c' → isCode W P.length c') → (∀ c n c', look W P c n = some c' → isCode W P.length c') → 2 ^ W + 2 + P.length ≤ 2 ^ S → S ≤ 12 → 2 ^ W + 2 + P.length ≤ 4095 → W + 1 ≤ S → Fit (packC W P S c r) := by
  intro r
  induction r with
  | nil =>
    intro P S c hc _ _ _ hS h12 hf _
    unfold packC
    have hm := size'_mono S (2 ^ W + 2 + P.length)
    refine Fit.cons ?_ (Fit.cons ?_ Fit.nil)
    · show c < 2 ^ S
      rcases hc with q | q <;> omega
    · show 2 ^ W + 1 < 2 ^ size' S (2 ^ W + 2 + P.length)
      omega
  | cons b r ih =>
    intro P S c hc hb _ hlk hS h12 hf hWS
    unfold packC
    have hb0 := hb b (List.mem_cons_self ..)
    have hbr : ∀ x ∈ r, x.toNat < 2 ^ W := fun x hx => hb x (List.mem_cons_of_mem _ hx)
    cases hl : look W P c b.toNat with
    | some c' => exact ih P S c' (hlk c b.toNat c' hl) hbr (hlk c') hlk hS h12 hf hWS
    | none =>
      simp only
      have hc1 : c < 2 ^ S := by rcases hc with q | q <;> omega
      refine Fit.cons hc1 ?_
      have hp := pow_bits0 W hW2 hW
      by_cases hfull : 2 ^ W + 2 + P.length = 4095
      · rw [if_pos hfull]
        have hm := size'_mono S 4095
        have h0 : ∀ c n c', look W [] c n = some c' → isCode W 0 c' := fun c n c' q => by simp [look] at q
        refine Fit.cons (show 2 ^ W < 2 ^ size' S 4095 by omega) (ih [] (W + 1) b.toNat (.inl hb0) hbr (fun n c' q => h0 _ n c' q) h0 ?_ (by omega) (by simp only [List.length_nil]; omega) (Nat.le_refl _))
        simp only [List.length_nil]
        rw [Nat.pow_succ]
        omega
      · rw [if_neg hfull]
        have hs := size'_le S (2 ^ W + 2 + P.length) h12
        have hlk2 : ∀ c1 n c', look W (P ++ [(c, b.toNat)]) c1 n = some c' → isCode W (P ++ [(c, b.toNat)]).length c' := fun c1 n c' q => by
          unfold look at q
          split at q
          · next hmem =>
            injection q with q
            subst q
            have := List.idxOf_lt_length_of_mem hmem
            exact .inr ⟨by omega, by omega⟩
          · cases q
        exact ih _ _ _ (.inl hb0) hbr (fun n c' q => hlk2 _ n c' q) hlk2 (by rw [List.length_append]; exact size'_ok hS h12 hf) hs.2 (by simp only [List.length_append, List.length_cons, List.length_nil]; omega) (by omega)


theorem dec_packC {V nb W most : Nat} (hW2 : 2 ≤ W) (hW : W ≤ 8) : ∀ (r : List UInt8) (P : List (Nat × Nat)) (T : List (List UInt8)) (S c : Nat) (y : List UInt8) (st : St) (f : Nat), Trie W P T → isCode W P.length c → (∀ b ∈ r, b.toNat < 2 ^ W) → 2 ^ W + 2 + P.length ≤ 2 ^ S → S ≤ 12 → W + 1 ≤ S → y = textOf W T c → Lag T st y → st.S = S → At V nb st.k (packC W P S c r) → st.out.length + y.length + r.length ≤ most → nb < st.k + f →
    dec V nb W most f st = .ok (st.out ++ y ++ r) (st.k + len (packC W P S c r)) := by
  intro r
  have hp4 : 4 ≤ 2 ^ W := Nat.pow_le_pow_right (n := 2) (i := 2) (by omega) hW2
  have hp256 := pow2 W hW
  induction r with
  | nil =>
    intro P T S c y st f hT hc _ hS h12 hWS hy hl hSt hat hm hf
    have hfull := hT.full
    have hmany := hT.many
    have hcS : c < 2 ^ S := by rcases hc with q | q <;> omega
    have hmo := size'_mono S (2 ^ W + 2 + P.length)
    unfold packC at hat ⊢
    obtain ⟨a1, a2⟩ := At.cons (p := (c, S)) hcS hat
    obtain ⟨b1, b2⟩ := a1.one
    obtain ⟨d1, d2⟩ := a2.one
    simp only at b1 b2 d1 d2
    obtain ⟨hw, hws⟩ := hl.wordOf hT hc hy
    obtain ⟨f1, rfl⟩ : ∃ f1, f = f1 + 1 := ⟨f - 1, by omega⟩
    have hne1 : c ≠ 2 ^ W + 1 := by rcases hc with q | q <;> omega
    have hne2 : c ≠ 2 ^ W := by rcases hc with q | q <;> omega
    have hs1 := Lz.step_word (V := V) (nb := nb) (most := most) (st := st) (n := c) (by rw [hSt]; exact b1) (by rw [hSt]; exact b2.symm) hne1 hne2 hw (by simp only [List.length_nil] at hm; omega)
    rw [dec_go rfl hs1, hws, hmany, hSt]
    obtain ⟨f2, rfl⟩ : ∃ f2, f1 = f2 + 1 := ⟨f1 - 1, by omega⟩
    have hs2 := Lz.step_end (V := V) (nb := nb) (most := most) (st := ⟨st.k + S, size' S (2 ^ W + 2 + P.length), T, y, st.out ++ y⟩) (n := 2 ^ W + 1) d1 d2.symm rfl
    rw [dec_stop rfl hs2]
    simp only [List.append_nil, len]
    congr 1
    omega
  | cons b r ih =>
    intro P T S c y st f hT hc hb hS h12 hWS hy hl hSt hat hm hf
    have hb0 := hb b (List.mem_cons_self ..)
    have hbr : ∀ x ∈ r, x.toNat < 2 ^ W := fun x hx => hb x (List.mem_cons_of_mem _ hx)
    have hofb : UInt8.ofNat b.toNat = b := by simp
    unfold packC at hat ⊢
    cases hlk : look W P c b.toNat with
    | some c' =>
      rw [hlk] at hat
      simp only at hat ⊢
      obtain ⟨hc', ht'⟩ := look_some hT hlk
      rw [hofb, ← hy] at ht'
      have hy0 : y ≠ [] := by rw [hy]; exact textOf_ne hT hc
      have htk : (y ++ [b]).take 1 = y.take 1 := by
        cases y with
        | nil => exact absurd rfl hy0
        | cons a q => rfl
      have hl' : Lag T st (y ++ [b]) := by
        unfold Lag at hl ⊢
        rw [htk]; exact hl
      have := ih P T S c' (y ++ [b]) st f hT hc' hbr hS h12 hWS ht'.symm hl' hSt hat (by simp only [List.length_append, List.length_cons, List.length_nil] at hm ⊢; omega) hf
      rw [this]
      simp
    | none =>
      rw [hlk] at hat
      simp only at hat ⊢
      have hfull := hT.full
      have hmany := hT.many
      have hcS : c < 2 ^ S := by rcases hc with q | q <;> omega
      obtain ⟨a1, a2⟩ := At.cons (p := (c, S)) hcS hat
      obtain ⟨b1, b2⟩ := a1.one
      simp only at b1 b2 a2
      obtain ⟨hw, hws⟩ := hl.wordOf hT hc hy
      obtain ⟨f1, rfl⟩ : ∃ f1, f = f1 + 1 := ⟨f - 1, by omega⟩
      have hne1 : c ≠ 2 ^ W + 1 := by rcases hc with q | q <;> omega
      have hne2 : c ≠ 2 ^ W := by rcases hc with q | q <;> omega
      have hy0 : y ≠ [] := by rw [hy]; exact textOf_ne hT hc
      simp only [List.length_cons] at hm
      have hs1 := Lz.step_word (V := V) (nb := nb) (most := most) (st := st) (n := c) (by rw [hSt]; exact b1) (by rw [hSt]; exact b2.symm) hne1 hne2 hw (by omega)
      rw [dec_go rfl hs1, hws, hmany, hSt]
      have hyb : textOf W ([] : List (List UInt8)) b.toNat = [b] := by rw [textOf, if_pos hb0, hofb]
      by_cases hfl : 2 ^ W + 2 + P.length = 4095
      · rw [if_pos hfl] at hat a2 ⊢
        rw [hfl]
        have hmo := size'_mono S 4095
        obtain ⟨c1, c2⟩ := At.cons (p := (2 ^ W, size' S 4095)) (show 2 ^ W < 2 ^ size' S 4095 by omega) a2
        obtain ⟨d1, d2⟩ := c1.one
        simp only at d1 d2 c2
        obtain ⟨f2, rfl⟩ : ∃ f2, f1 = f2 + 1 := ⟨f1 - 1, by omega⟩
        have hs2 := Lz.step_clear (V := V) (nb := nb) (W := W) (most := most) (st := ⟨st.k + S, size' S 4095, T, y, st.out ++ y⟩) (n := 2 ^ W) d1 d2.symm rfl
        rw [dec_go rfl hs2]
        have := ih [] [] (W + 1) b.toNat [b] ⟨st.k + S + size' S 4095, W + 1, [], [], st.out ++ y⟩ f2 (Trie.nil W hW) (.inl hb0) hbr (by simp only [List.length_nil]; rw [Nat.pow_succ]; omega) (by omega) (Nat.le_refl _) hyb.symm (.inl ⟨rfl, rfl, rfl⟩) rfl c2 (by simp only [List.length_append, List.length_cons, List.length_nil]; omega) (by simp only; omega)
        rw [this]
        simp only [len, List.append_assoc, List.cons_append, List.nil_append]
        congr 1
        omega
      · rw [if_neg hfl] at hat a2 ⊢
        have hs := size'_le S (2 ^ W + 2 + P.length) h12
        have := ih (P ++ [(c, b.toNat)]) (T ++ [textOf W T c ++ [UInt8.ofNat b.toNat]]) (size' S (2 ^ W + 2 + P.length)) b.toNat [b] ⟨st.k + S, size' S (2 ^ W + 2 + P.length), T, y, st.out ++ y⟩ f1 (hT.push hc hb0 hfl) (.inl hb0) hbr (by rw [List.length_append]; exact size'_ok hS h12 hfull) hs.2 (by omega) (by rw [textOf, if_pos hb0, hofb]) (.inr ⟨hy0, by rw [hofb, ← hy]; rfl⟩) rfl a2 (by simp only [List.length_append, List.length_cons, List.length_nil]; omega) (by simp only; omega)
        rw [this]
        simp only [len, List.append_assoc, List.cons_append, List.nil_append]
        congr 1
        omega
end Lz
end Go.Proofs.YtjcoahahponabaaGreatDoor
namespace Go.Proofs.YtjcoahahponabaaGreatDoor
open Go.RowKit Lz Ps

theorem look_code {W : Nat} {P : List (Nat × Nat)} {c n c' : Nat} (h : Lz.look W P c n = some c') : isCode W P.length c' := by
  unfold Lz.look at h
  split at h
  · next hmem =>
    injection h with h
    subst h
    have := List.idxOf_lt_length_of_mem hmem
    exact .inr ⟨by omega, by omega⟩
  · cases h
theorem code_lt {W S m c : Nat} (h : isCode W m c) (hS : 2 ^ W + 2 + m ≤ 2 ^ S) : c < 2 ^ S := by
  rcases h with q | q <;> omega

set_option maxHeartbeats 4000000 in
set_option maxRecDepth 100000 in
theorem pack_any (p bm W S0 N0 : Nat) (s : ByteArray) (w : World) (hWP : WP w p []) (hC : CD w p 2 W S0 N0) (hM : w.cell? ⟨p, 5, none⟩ = some (.map (some bm))) (hL : LP w bm 0 (fun _ _ => none)) (hlt : bm < p) (hW2 : 2 ≤ W) (hW : W ≤ 8) (hs0 : 0 < s.size) (hs : s.size ≤ 100000) (hb : ∀ x ∈ s.data.toList, x.toNat < 2 ^ W) :
    Calls Tryz.prog 151 #[.pointer (some ⟨p, 0, none⟩), .string s] w fun e w' => e = .returned (.tuple #[]) ∧ WP w' p (packAll W s.data.toList) ∧ Below bm w w' := by
  obtain ⟨h4, h256, hdb⟩ := pow_two W hW2 hW
  have hsl := size_list s
  obtain ⟨G, hG⟩ : ∃ G, G = packAll W s.data.toList := ⟨_, rfl⟩
  rw [← hG]
  have HR : Hid (Calls Tryz.prog 166 #[.pointer (some ⟨p, 2, none⟩)] w fun e w' => e = .returned (.tuple #[]) ∧ PK w' p bm W (W + 1) [] [] ∧ Below bm w w') := by
    refine (restart_any p 2 W S0 N0 w hC (by omega)).mono ?_
    rintro e w' ⟨rfl, hC', hk⟩
    exact ⟨rfl, ⟨hWP.kc hk, hC', (hk.cell 5 (by omega) (by omega)).trans hM, ⟨0, Nat.le_refl _, (hL.same (hk.block bm (by omega))).congr (fun x y => by simp [Lz.look])⟩, hlt⟩, hk.below.mono (by omega)⟩
  obtain ⟨X, hX⟩ : ∃ X, X = 2 ^ W := ⟨_, rfl⟩
  have HCL : Hid (∀ w', PK w' p bm W (W + 1) [] [] → Calls Tryz.prog 168 #[.pointer (some ⟨p, 2, none⟩)] w' fun e w'' => e = .returned (.int .i64 (X : Int)) ∧ w'' = w') := fun w' h => by rw [hX]; exact clearCode_any p 2 W (W + 1) _ w' h.cd (by omega)
  have HT1 : Hid (∀ w', PK w' p bm W (W + 1) [] [] → Calls Tryz.prog 167 #[.pointer (some ⟨p, 0, none⟩), .int .i64 (X : Int)] w' fun e w'' => e = .returned (.tuple #[]) ∧ PK w'' p bm W (W + 1) [] [(X, W + 1)] ∧ Below bm w' w'') := fun w' h => by
    refine (tell_any p [] X (W + 1) w' h.wp h.cd.size (by omega) (by omega) (by simp [len])).mono ?_
    rintro e w'' ⟨rfl, hW'', hk⟩
    exact ⟨rfl, h.kept hk hW'', hk.below h.wp (by have := h.lt; omega)⟩
  have HTL : Hid (∀ (w' : World) (Pl : List (Nat × Nat)) (ls : List Pc) (S c : Nat), PK w' p bm W S Pl ls → c < 2 ^ S → S ≤ 12 → len ls + 100 ≤ 4000000 → Calls Tryz.prog 167 #[.pointer (some ⟨p, 0, none⟩), .int .i64 (c : Int)] w' fun e w'' => e = .returned (.tuple #[]) ∧ PK w'' p bm W S Pl (ls ++ [(c, S)]) ∧ Below bm w' w'') := fun w' Pl ls S c h hc hS hl => by
    refine (tell_any p ls c S w' h.wp h.cd.size hS hc (by omega)).mono ?_
    rintro e w'' ⟨rfl, hW'', hk⟩
    exact ⟨rfl, h.kept hk hW'', hk.below h.wp (by have := h.lt; omega)⟩
  obtain ⟨b0, r0, hbr⟩ : ∃ b r, s.data.toList = b :: r := by
    cases hq : s.data.toList with
    | nil => rw [hq] at hsl; simp at hsl; omega
    | cons b r => exact ⟨b, r, rfl⟩
  have hz0 : s[0] = b0 := by
    have := byte_at s 0 hs0 (by omega)
    rw [← this]
    simp [hbr]
  have hd1 : s.data.toList.drop 1 = r0 := by rw [hbr]; rfl
  have HG0 : Hid (G = [(X, W + 1)] ++ packC W [] (W + 1) b0.toNat (s.data.toList.drop 1)) := by show _ = _; rw [hG, hbr, hX]; rfl
  have hb0 : b0.toNat < 2 ^ W := hb b0 (by rw [hbr]; exact List.mem_cons_self ..)
  obtain ⟨n0, hn0⟩ : ∃ n, n = b0.toNat := ⟨_, rfl⟩
  have zn0 : (s[0].toNat : Int) = (n0 : Int) := by rw [hz0, hn0]
  rw [← hn0] at HG0 hb0
  obtain ⟨hq1, hq2, hq3⟩ := not_blank s hs0
  have hs0i : (0 : Int) < (s.size : Int) := by omega
  have HX := hide hX
  have HBB := hide hb
  have hn256 : n0 < 256 := by omega
  have HD := hide hdb
  have HB0 := hide hb0
  have H4 := hide h4
  have H256 := hide h256
  clear hWP hC hM hL hX hG hbr hd1 hb hz0 hn0 hdb hb0 h4 h256
  go_enter Tryz.func151, Tryz.ntmps151
  go_wp2_with fail
  refine (unhide HR).mono ?_; rintro e w1 ⟨rfl, hP1, hb1⟩
  have HP1 := hide hP1
  have HB1 := hide hb1
  have HC := hide (unhide HCL w1 hP1)
  clear HR hP1 hb1 HCL
  go_wp2_with fail
  refine (unhide HC).mono ?_; rintro e w2 ⟨rfl, rfl⟩
  clear HC
  have HT := hide (unhide HT1 w2 (unhide HP1))
  go_wp2_with fail
  refine (unhide HT).mono ?_; rintro e w3 ⟨rfl, hP3, hb3⟩
  have HP3 := hide hP3
  have HB3 := hide ((unhide HB1).trans hb3)
  clear HT HT1 hP3 hb3 HP1 HB1
  go_wp2
  go_loopw [4, 5] (fun cv iv wr => ∃ (i c S : Nat) (Pl : List (Nat × Nat)) (ls : List Pc), cv = .int .i64 (c : Int) ∧ iv = .int .i64 (i : Int) ∧ 1 ≤ i ∧ i ≤ s.size ∧ Hid (PK wr p bm W S Pl ls) ∧ Hid (isCode W Pl.length c) ∧ Hid (2 ^ W + 2 + Pl.length ≤ 2 ^ S) ∧ S ≤ 12 ∧ Hid (W + 1 ≤ S) ∧ Hid (2 ^ W + 2 + Pl.length ≤ 4095) ∧ len ls ≤ 30 * i ∧ Hid (G = ls ++ packC W Pl S c (s.data.toList.drop i)) ∧ Hid (Below bm w wr)) (fun _ iv _ => s.size - (intOf iv).toNat)
  case atStart => exact ⟨1, n0, W + 1, [], [(X, W + 1)], rfl, rfl, by omega, by omega, HP3, .inl (unhide HB0), by have := unhide HD; have := unhide H4; show 2 ^ W + 2 + 0 ≤ _; omega, by omega, Nat.le_refl _, by have := unhide H256; show 2 ^ W + 2 + 0 ≤ _; omega, by simp [len]; omega, HG0, HB3⟩
  case round =>
    clear HP3 HB3 HG0
    obtain ⟨i, c, S, Pl, ls, rfl, rfl, hi1, his, HP, HIC, HSZ, hS, HWS, HFU, hll, HGr, HB⟩ := hrel
    have hcS := code_lt (unhide HIC) (unhide HSZ)
    have hc4 : c < 4096 := Nat.lt_of_lt_of_le hcS (Nat.pow_le_pow_right (n := 2) (j := 12) (by omega) hS)
    by_cases hlt2 : i < s.size
    · have g1 : decide ((i : Int) < (s.size : Int)) = true := by simp; omega
      have g1n : decide (i < s.size) = true := by simp; omega
      have hii : (i : Int) < (s.size : Int) := by omega
      have hil : i < s.data.toList.length := by omega
      have hbe := byte_at s i hlt2 hil
      obtain ⟨b, hbb⟩ : ∃ b, b = s[i] := ⟨_, rfl⟩
      have hbW : b.toNat < 2 ^ W := by rw [hbb, ← hbe]; exact unhide HBB _ (List.getElem_mem hil)
      have hdr : s.data.toList.drop i = b :: s.data.toList.drop (i + 1) := by rw [List.drop_eq_getElem_cons hil, hbe, hbb]
      obtain ⟨n, hn⟩ : ∃ n, n = b.toNat := ⟨_, rfl⟩
      have zn : (s[i].toNat : Int) = (n : Int) := by rw [← hbb, hn]
      have hn255 : n ≤ 255 := by have := b.toNat_lt; omega
      have hnW : n < 2 ^ W := by rw [hn]; exact hbW
      cases hlk : Lz.look W Pl c n with
      | some c' =>
        have HF := hide (further_some c n c' wr (unhide HP) (by omega) hn255 hlk)
        have HIC2 := hide (look_code hlk)
        have HG2 : Hid (G = ls ++ packC W Pl S c' (s.data.toList.drop (i + 1))) := by
          show _ = _
          rw [unhide HGr, hdr, packC, ← hn, hlk]
        clear hlk hdr hbe hbb hbW hn hcS hnW HGr
        go_wp2_with fail
        refine (unhide HF).mono ?_; rintro e w4 ⟨rfl, hP4, hb4⟩
        have HP4 := hide hP4
        have HB4 := hide ((unhide HB).trans hb4)
        clear HF hP4 hb4 HP HB
        go_wp2
        go_roundw
        case rel => exact ⟨i + 1, c', S, Pl, ls, rfl, by go_num, by omega, by omega, HP4, HIC2, HSZ, hS, HWS, HFU, by omega, HG2, HB4⟩
        case measure => simp [intOf]; omega
      | none =>
        have HF := hide (further_none c n wr (unhide HP) hW2 hW hcS hS hn255 hlk (by omega) (unhide HFU) (unhide HWS))
        have HGN : Hid (G = ls ++ ((c, S) :: (if 2 ^ W + 2 + Pl.length = 4095 then (2 ^ W, size' S 4095) :: packC W [] (W + 1) n (s.data.toList.drop (i + 1)) else packC W (Pl ++ [(c, n)]) (size' S (2 ^ W + 2 + Pl.length)) n (s.data.toList.drop (i + 1))))) := by
          show _ = _
          rw [unhide HGr, hdr, packC, ← hn, hlk]
        have HNW := hide hnW
        clear hlk hdr hbe hbb hbW hn hcS HGr hnW
        go_wp2_with fail
        refine (unhide HF).mono ?_; rintro e w4 ⟨rfl, hb4, hPa, hPb⟩
        have HPA := hide hPa
        have HPB := hide hPb
        have HB4 := hide ((unhide HB).trans hb4)
        clear HF hPa hPb hb4 HP HB
        go_wp2
        go_roundw
        case rel =>
          have hs12 := size'_le S (2 ^ W + 2 + Pl.length) hS
          by_cases hfull : 2 ^ W + 2 + Pl.length = 4095
          · refine ⟨i + 1, n, W + 1, [], ls ++ [(c, S)] ++ [(2 ^ W, size' S 4095)], rfl, by go_num, by omega, by omega, unhide HPB hfull, .inl (unhide HNW), by have := unhide HD; have := unhide H4; show 2 ^ W + 2 + 0 ≤ _; omega, by omega, Nat.le_refl _, by have := unhide H256; show 2 ^ W + 2 + 0 ≤ _; omega, ?_, ?_, HB4⟩
            · have := (size'_le S 4095 hS).2
              rw [len_append, len_append]; simp only [len]; omega
            · show _ = _
              rw [unhide HGN, if_pos hfull]; simp
          · refine ⟨i + 1, n, size' S (2 ^ W + 2 + Pl.length), Pl ++ [(c, n)], ls ++ [(c, S)], rfl, by go_num, by omega, by omega, unhide HPA hfull, .inl (unhide HNW), ?_, hs12.2, by have := unhide HWS; show W + 1 ≤ _; omega, ?_, ?_, ?_, HB4⟩
            · show _ ≤ _
              rw [List.length_append]; exact size'_ok (unhide HSZ) hS (unhide HFU)
            · have := unhide HFU
              show _ ≤ _
              simp only [List.length_append, List.length_cons, List.length_nil]; omega
            · rw [len_append]; simp only [len]; omega
            · show _ = _
              rw [unhide HGN, if_neg hfull]; simp
        case measure => simp [intOf]; omega
    · have hie : i = s.size := by omega
      have g1 : decide ((i : Int) < (s.size : Int)) = false := by simp; omega
      have g1n : decide (i < s.size) = false := by simp; omega
      obtain ⟨N, hN⟩ : ∃ N, N = 2 ^ W + 2 + Pl.length := ⟨_, rfl⟩
      have HGE : Hid (G = ls ++ [(c, S)] ++ [(X + 1, size' S N)]) := by
        show _ = _
        rw [unhide HGr, List.drop_of_length_le (by omega), packC, hN, unhide HX]; simp
      have HT := hide (unhide HTL wr Pl ls S c (unhide HP) hcS hS (by omega))
      have hN4 : N ≤ 4095 := by rw [hN]; exact unhide HFU
      have hs12 := size'_le S N hS
      have HXS : Hid (X + 1 < 2 ^ size' S N) := by
        have a1 := size'_mono S N
        have a2 := unhide HSZ
        rw [unhide HX]
        show _ < _
        omega
      have entG : ∀ args w, (callFunc 171 args).run Tryz.prog w = .ok (.enter 171 args) w := enters_of Tryz.func171 (by kernel_rfl) rfl
      have entF : ∀ args w, (callFunc 170 args).run Tryz.prog w = .ok (.enter 170 args) w := enters_of Tryz.func170 (by kernel_rfl) rfl
      have HN := hide hN
      clear HGr hcS hie hN
      go_wp2_with fail
      refine (unhide HT).mono ?_; rintro e w4 ⟨rfl, hP4, hb4⟩
      have HP4 := hide (hP4.below (w' := w4.drew) (Below.refl _ _).drew)
      have HB4 := hide (((unhide HB).trans hb4).drew)
      have HGV : Hid (Calls Tryz.prog 171 #[.pointer (some ⟨p, 2, none⟩)] w4.drew fun e w' => e = .returned (.int .i64 (N : Int)) ∧ CD w' p 2 W S (N + 1) ∧ KC p 2 w4.drew w') := by
        have := give_any p 2 W S _ w4.drew (unhide HP4).cd (by rw [← unhide HN]; omega)
        rw [← unhide HN] at this
        exact this
      have HFT : Hid (∀ w', CD w' p 2 W S (N + 1) → Calls Tryz.prog 170 #[.pointer (some ⟨p, 2, none⟩), .int .i64 (N : Int)] w' fun e w'' => e = .returned (.tuple #[]) ∧ CD w'' p 2 W (fitS S N) (N + 1) ∧ KC p 2 w' w'') := fun w' h => fit_any p 2 W S (N + 1) N w' h hS
      clear HT hP4 hb4 HP HB
      go_wp2_with fail
      refine wp_region_held_drew (S := fun _ => True) (by kernel_rfl) trivial (fun hHeld => ?_)
      refine wpAnyH_take (i := 0) (v := .pointer (some ⟨p, 0, none⟩)) rfl (by kernel_rfl) (by kernel_rfl) (by kernel_rfl) (fun _ _ _ h => h) (Or.inl ⟨by rfl, ?_⟩) hHeld ?_
      · intro w' hSw
        go_simp
      simp only [Act.put, List.setIfInBounds_toArray]
      refine wpAnyH_take (i := 1) (v := .pointer (some ⟨p, 0, none⟩)) rfl (by kernel_rfl) (by kernel_rfl) (by kernel_rfl) (fun _ _ _ h => h) (Or.inl ⟨by rfl, ?_⟩) hHeld ?_
      · intro w' hSw
        go_simp
      simp only [Act.put]
      refine wpAnyH_take (i := 2) (v := .pointer (some ⟨p, 2, none⟩)) rfl (by kernel_rfl) (by kernel_rfl) (by kernel_rfl) (fun _ _ _ h => h) (Or.inl ⟨by rfl, ?_⟩) hHeld ?_
      · intro w' hSw
        go_simp
      simp only [Act.put]
      refine wpAnyH_take (i := 3) (v := .pointer (some ⟨p, 0, none⟩)) rfl (by kernel_rfl) (by kernel_rfl) (by kernel_rfl) (fun _ _ _ h => h) (Or.inl ⟨by rfl, ?_⟩) hHeld ?_
      · intro w' hSw
        go_simp
      simp only [Act.put]
      refine wpAnyH_take (i := 4) (v := .pointer (some ⟨p, 0, none⟩)) rfl (by kernel_rfl) (by kernel_rfl) (by kernel_rfl) (fun _ _ _ h => h) (Or.inl ⟨by rfl, ?_⟩) hHeld ?_
      · intro w' hSw
        go_simp
      simp only [Act.put]
      refine wpAnyH_take (i := 5) (v := .pointer (some ⟨p, 2, none⟩)) rfl (by kernel_rfl) (by kernel_rfl) (by kernel_rfl) (fun _ _ _ h => h) (Or.inl ⟨by rfl, ?_⟩) hHeld ?_
      · intro w' hSw
        go_simp
      simp only [Act.put]
      refine wpAnyH_ready (rs := [6]) (by kernel_rfl) (by simp) ?_
      refine AllReadyH.cons rfl (fun K hK => ?_) AllReadyH.nil
      refine step_calls rfl 171 [.tmp 42] #[220] rfl [.pointer (some ⟨p, 2, none⟩)] (by simp [Act.eval]) entG ?_
      refine (unhide HGV).mono ?_
      rintro e w5 ⟨rfl, hC5, hk5⟩
      refine .inl ⟨_, rfl, ?_⟩
      refine hK.out _ _ trivial (fun hHeld => ?_)
      have HF5 := hide (unhide HFT w5 hC5)
      have HW5 := hide ((unhide HP4).wp.kc hk5)
      have HB5 := hide ((unhide HB4).trans (hk5.below.mono (by omega)))
      clear hK K HGV HFT hC5 hk5 HP4 HB4
      simp only [Act.put]
      refine wpAnyH_ready (rs := [7]) (by kernel_rfl) (by simp) ?_
      refine AllReadyH.cons rfl (fun K hK => ?_) AllReadyH.nil
      refine step_calls rfl 170 [.tmp 39, .tmp 43] #[220, 3] rfl [.pointer (some ⟨p, 2, none⟩), .int .i64 (N : Int)] (by simp [Act.eval]) entF ?_
      refine (unhide HF5).mono ?_
      rintro e w6 ⟨rfl, hC6, hk6⟩
      refine .inl ⟨_, rfl, ?_⟩
      refine hK.out _ _ trivial (fun hHeld => ?_)
      rw [fitS_size2] at hC6
      have HW6 := hide ((unhide HW5).kc hk6)
      have HB6 := hide ((unhide HB5).trans (hk6.below.mono (by omega)))
      have HEN : Hid (Calls Tryz.prog 172 #[.pointer (some ⟨p, 2, none⟩)] w6 fun e w'' => e = .returned (.int .i64 ((X + 1 : Nat) : Int)) ∧ w'' = w6) := by
        have := endCode_any p 2 W (size' S N) (N + 1) w6 hC6 (by omega)
        rw [← unhide HX] at this
        exact this
      have HT6 := hide (tell_any p (ls ++ [(c, S)]) (X + 1) (size' S N) w6 (unhide HW6) hC6.size hs12.2 (unhide HXS) (by rw [len_append]; simp only [len]; omega))
      clear hK K HF5 hC6 hk6 HW5 HB5 hHeld
      simp only [Act.put]
      refine wpAnyH_done (by kernel_rfl) ?_ _
      go_wp2_with fail
      refine (unhide HEN).mono ?_; rintro e w7 ⟨rfl, rfl⟩
      clear HEN
      go_wp2_with fail
      refine (unhide HT6).mono ?_; rintro e w8 ⟨rfl, hW8, hk8⟩
      have HW8 := hide hW8
      have HB8 := hide ((unhide HB6).trans (hk8.below (unhide HW6) (by omega)))
      clear HT6 hW8 hk8 HW6 HB6
      go_wp2
      go_end0
      exact ⟨rfl, by rw [unhide HGE]; exact unhide HW8, unhide HB8⟩
end Go.Proofs.YtjcoahahponabaaGreatDoor
