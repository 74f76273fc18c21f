/- Walk of the writer of blocks: tokens, and the block's end. Walks of the writer of blocks: codes, the fixed block. Results that lie in cells. Walks: used lengths, the best code of counts, the order of lengths of lengths. -/
import Derived.Test.YtfeljhikeddodadGreatDoorMh17
import Derived.Test.YtfeljhikeddodadGreatDoorMh9
import Derived.BigQuiet
import Derived.Laws.ResultCell
import Derived.Test.YtfeljhikeddodadGreatDoorMh1
import Derived.Test.YtfeljhikeddodadGreatDoorMh6
import Derived.Test.YtfeljhikeddodadGreatDoorMh16
namespace Go.Proofs.YtfeljhikeddodadGreatDoor
open Go.RowKit Pm Cn Nf Ps

/-- A block apart from the writer at p. -/
def Ap (w : World) (p q : Nat) : Prop := q < w.heap.size ∧ q ≠ p ∧ q ≠ rowOf w p
theorem Ap.kept {w w' : World} {p q : Nat} (h : Ap w p q) (hk : Kept p w w') : Ap w' p q := by
  have hs := hk.size
  obtain ⟨h1, h2, h3⟩ := h
  refine ⟨by omega, h2, ?_⟩
  rcases hk.row with e | e
  · rw [e]; exact h3
  · omega
theorem Ap.cell {w w' : World} {p q : Nat} (h : Ap w p q) (hk : Kept p w w') (o : Nat) : w'.cell? ⟨q, o, none⟩ = w.cell? ⟨q, o, none⟩ := hk.cell (a := ⟨q, o, none⟩) h.1 h.2.1 h.2.2
theorem Ap.new {w : World} {p : Nat} {l : List Pc} (h : WP w p l) (o : Obj) : Ap (w.alloc o) p w.heap.size := by
  have h1 := h.lt
  have h2 := h.row
  refine ⟨by simp, by omega, ?_⟩
  rw [rowOf_same (((Below.refl w.heap.size w).alloc (Nat.le_refl _) o).cell (p := ⟨p, 0, none⟩) h1)]
  omega
theorem tokP_len {l1 l2 : Nat → Nat} {N1 N2 b L D : Nat} (h1 : ∀ x, x < N1 → l1 x ≤ 15) (h2 : ∀ x, x < N2 → l2 x ≤ 15) (ht : Tok b L D) (hu : Uses l1 N1 l2 N2 b L D) : len (tokP (word l1 N1) (word l2 N2) b L D) ≤ 48 := by
  unfold tokP Tok Uses at *
  split
  · next e =>
    rw [if_pos e] at hu
    have := h1 b hu.1
    simp only [len, word]; omega
  · next e =>
    rw [if_neg e] at hu ht
    have a1 := h1 _ hu.1.1
    have a2 := h2 _ hu.2.1
    have a3 := lenBits_le _ (pl_lens ht.1).1
    have a4 := distBits_le _ (pl_dists ht.2).1
    simp only [len, word]; omega
theorem preP_len {l1 l2 : Nat → Nat} {N1 N2 n : Nat} {b L D : Nat → Nat} (h1 : ∀ x, x < N1 → l1 x ≤ 15) (h2 : ∀ x, x < N2 → l2 x ≤ 15) (ht : ∀ i, i < n → Tok (b i) (L i) (D i)) (hu : ∀ i, i < n → Uses l1 N1 l2 N2 (b i) (L i) (D i)) : len (preP (word l1 N1) (word l2 N2) b L D n) ≤ 48 * n := by
  induction n with
  | zero => exact Nat.le_refl _
  | succ n ih =>
    have := ih (fun i hi => ht i (by omega)) (fun i hi => hu i (by omega))
    have := tokP_len h1 h2 (ht n (by omega)) (hu n (by omega))
    simp only [preP, len_append]; omega
theorem three_new {w : World} {p : Nat} {l : List Pc} (h : WP w p l) (v0 v1 v2 : Value) (t : TypeId) : WP (w.alloc (.cells #[v0, v1, v2] t)) p l ∧ Kept p w (w.alloc (.cells #[v0, v1, v2] t)) ∧ Ap (w.alloc (.cells #[v0, v1, v2] t)) p w.heap.size ∧
    (w.alloc (.cells #[v0, v1, v2] t)).cell? ⟨w.heap.size, 0, none⟩ = some v0 ∧ (w.alloc (.cells #[v0, v1, v2] t)).cell? ⟨w.heap.size, 1, none⟩ = some v1 ∧ (w.alloc (.cells #[v0, v1, v2] t)).cell? ⟨w.heap.size, 2, none⟩ = some v2 := by
  have hb := (Below.refl w.heap.size w).alloc (Nat.le_refl _) (.cells #[v0, v1, v2] t)
  exact ⟨h.below hb, h.keep hb, Ap.new h _, by simp, by simp, by simp⟩
/-- What a code must be to write by it. -/
structure Cod (l : Nat → Nat) (N : Nat) : Prop where
  le : ∀ x, x < N → l x ≤ 15
  fit : all l N ≤ 2 ^ 15
set_option maxHeartbeats 4000000 in
set_option maxRecDepth 100000 in
theorem wtokens_any (p : Nat) (ls : List Pc) (ao : Option Addr) (n cap : Nat) (t : Tks) (x1 y1 x2 y2 : Value) (l1 : Nat → Nat) (N1 : Nat) (l2 : Nat → Nat) (N2 : Nat) (w : World) (hW : WP w p ls) (hT : ∀ w', Below p w w' → IsTokens w' ao n t) (hB : Bl w) (hnp : 12 ≤ p)
    (hC1 : CV w p (.agg #[x1, y1]) l1 N1) (hC2 : CV w p (.agg #[x2, y2]) l2 N2) (c1 : Cod l1 N1) (c2 : Cod l2 N2) (hsh : ∀ i, i < n → t.shaped i) (hu : ∀ i, i < n → Uses l1 N1 l2 N2 (t.b i) (t.l i).toNat (t.d i).toNat) (he : 256 < N1) (he0 : 0 < l1 256) (hc : len ls + 48 * n + 200 ≤ 4000000) :
    Calls Tryz.prog 63 #[.pointer (some ⟨p, 0, none⟩), .slice ao n cap, .agg #[x1, y1, x2, y2]] w fun e w' => e = .returned (.tuple #[]) ∧ WP w' p (ls ++ (preP (word l1 N1) (word l2 N2) t.b (fun i => (t.l i).toNat) (fun i => (t.d i).toNat) n ++ [word l1 N1 256])) ∧ Kept p w w' := by
  have hgood : ∀ i, i < n → t.b i < 256 ∧ (-9223372036854775808 ≤ t.l i ∧ t.l i ≤ 9223372036854775807) := fun i hi => by
    rcases hT w (Below.refl _ _) with h | ⟨b, off, _, _, h⟩
    · omega
    · exact ⟨(h i hi).2.2.2.1, (h i hi).2.2.2.2.1⟩
  have hTok : ∀ i, i < n → Tok (t.b i) (t.l i).toNat (t.d i).toNat := fun i hi => by
    have h1 := hsh i hi
    have h2 := (hgood i hi).1
    unfold Tks.shaped at h1
    unfold Tok
    split at h1
    · next e => rw [if_pos (by omega)]; exact h2
    · next e => rw [if_neg (by omega)]; omega
  obtain ⟨b1, o1, cc1, b2, o2, cc2, hv1, _, _, _, _⟩ := hC1.is
  obtain ⟨b3, o3, cc3, b4, o4, cc4, hv2, _, _, _, _⟩ := hC2.is
  simp only [Value.agg.injEq, Array.mk.injEq, List.cons.injEq, and_true] at hv1 hv2
  obtain ⟨rfl, rfl⟩ := hv1
  obtain ⟨rfl, rfl⟩ := hv2
  have hplen : ∀ j, j ≤ n → len (preP (word l1 N1) (word l2 N2) t.b (fun i => (t.l i).toNat) (fun i => (t.d i).toNat) j) ≤ 48 * n := fun j hj => Nat.le_trans (preP_len c1.le c2.le (fun i hi => hTok i (by omega)) (fun i hi => hu i (by omega))) (by omega)
  have hlt := hW.lt
  obtain ⟨q, hq⟩ : ∃ q, q = w.heap.size := ⟨_, rfl⟩
  have ba := (Below.refl w.heap.size w).alloc (Nat.le_refl _) (.cells #[.slice (some ⟨b1, o1, none⟩) N1 cc1, .slice (some ⟨b2, o2, none⟩) N1 cc2, .slice (some ⟨b3, o3, none⟩) N2 cc3, .slice (some ⟨b4, o4, none⟩) N2 cc4] 104)
  have hWa := hW.below ba
  have hka := hW.keep ba
  have hAp := Ap.new hW (.cells #[.slice (some ⟨b1, o1, none⟩) N1 cc1, .slice (some ⟨b2, o2, none⟩) N1 cc2, .slice (some ⟨b3, o3, none⟩) N2 cc3, .slice (some ⟨b4, o4, none⟩) N2 cc4] 104)
  rw [← hq] at hAp
  have S0 : (w.alloc (.cells #[.slice (some ⟨b1, o1, none⟩) N1 cc1, .slice (some ⟨b2, o2, none⟩) N1 cc2, .slice (some ⟨b3, o3, none⟩) N2 cc3, .slice (some ⟨b4, o4, none⟩) N2 cc4] 104)).cell? ⟨q, 0, none⟩ = some (.slice (some ⟨b1, o1, none⟩) N1 cc1) := by rw [hq]; simp
  have S1 : (w.alloc (.cells #[.slice (some ⟨b1, o1, none⟩) N1 cc1, .slice (some ⟨b2, o2, none⟩) N1 cc2, .slice (some ⟨b3, o3, none⟩) N2 cc3, .slice (some ⟨b4, o4, none⟩) N2 cc4] 104)).cell? ⟨q, 1, none⟩ = some (.slice (some ⟨b2, o2, none⟩) N1 cc2) := by rw [hq]; simp
  have S2 : (w.alloc (.cells #[.slice (some ⟨b1, o1, none⟩) N1 cc1, .slice (some ⟨b2, o2, none⟩) N1 cc2, .slice (some ⟨b3, o3, none⟩) N2 cc3, .slice (some ⟨b4, o4, none⟩) N2 cc4] 104)).cell? ⟨q, 2, none⟩ = some (.slice (some ⟨b3, o3, none⟩) N2 cc3) := by rw [hq]; simp
  have S3 : (w.alloc (.cells #[.slice (some ⟨b1, o1, none⟩) N1 cc1, .slice (some ⟨b2, o2, none⟩) N1 cc2, .slice (some ⟨b3, o3, none⟩) N2 cc3, .slice (some ⟨b4, o4, none⟩) N2 cc4] 104)).cell? ⟨q, 3, none⟩ = some (.slice (some ⟨b4, o4, none⟩) N2 cc4) := by rw [hq]; simp
  have HCELL : Hid (∀ w', Kept p (w.alloc (.cells #[.slice (some ⟨b1, o1, none⟩) N1 cc1, .slice (some ⟨b2, o2, none⟩) N1 cc2, .slice (some ⟨b3, o3, none⟩) N2 cc3, .slice (some ⟨b4, o4, none⟩) N2 cc4] 104)) w' → (w'.cell? ⟨q, 0, none⟩ = some (.slice (some ⟨b1, o1, none⟩) N1 cc1) ∧ w'.cell? ⟨q, 1, none⟩ = some (.slice (some ⟨b2, o2, none⟩) N1 cc2) ∧ w'.cell? ⟨q, 2, none⟩ = some (.slice (some ⟨b3, o3, none⟩) N2 cc3) ∧ w'.cell? ⟨q, 3, none⟩ = some (.slice (some ⟨b4, o4, none⟩) N2 cc4))) := fun w' hk =>
    ⟨(hAp.cell hk 0).trans S0, (hAp.cell hk 1).trans S1, (hAp.cell hk 2).trans S2, (hAp.cell hk 3).trans S3⟩
  have HSY1 : Hid (∀ w' l i, WP w' p l → Kept p w w' → i < N1 → 0 < l1 i → len l + 40 ≤ 4000000 → Calls Tryz.prog 96 #[.pointer (some ⟨p, 0, none⟩), .agg #[.slice (some ⟨b1, o1, none⟩) N1 cc1, .slice (some ⟨b2, o2, none⟩) N1 cc2], .int .i64 ((i : Nat) : Int)] w' fun e w'' => e = .returned (.tuple #[]) ∧ WP w'' p (l ++ [word l1 N1 i]) ∧ Kept p w' w'') := fun w' l i h1 h2 h3 h4 h5 => by
    exact wsymbol_any p l _ l1 N1 i w' h1 (hC1.kept h2) h3 (c1.le i h3) (code_lt l1 N1 i h3 h4 (c1.le i h3) c1.fit) h5
  have HSY2 : Hid (∀ w' l i, WP w' p l → Kept p w w' → i < N2 → 0 < l2 i → len l + 40 ≤ 4000000 → Calls Tryz.prog 96 #[.pointer (some ⟨p, 0, none⟩), .agg #[.slice (some ⟨b3, o3, none⟩) N2 cc3, .slice (some ⟨b4, o4, none⟩) N2 cc4], .int .i64 ((i : Nat) : Int)] w' fun e w'' => e = .returned (.tuple #[]) ∧ WP w'' p (l ++ [word l2 N2 i]) ∧ Kept p w' w'') := fun w' l i h1 h2 h3 h4 h5 => by
    exact wsymbol_any p l _ l2 N2 i w' h1 (hC2.kept h2) h3 (c2.le i h3) (code_lt l2 N2 i h3 h4 (c2.le i h3) c2.fit) h5
  have HBL : Hid (∀ w', Kept p w w' → Bl w') := fun w' hk => hB.below (hk.below hW (Nat.le_refl _)) hnp
  have HTK : Hid (∀ w', Kept p w w' → IsTokens w' ao n t) := fun w' hk => hT w' (hk.below hW (Nat.le_refl _))
  have HSH := hide hsh
  have HTok := hide hTok
  have HU := hide hu
  have HPL := hide hplen
  have HG := hide hgood
  have HWa := hide hWa
  have Hka := hide hka
  have HPS : Hid (∀ j, ls ++ preP (word l1 N1) (word l2 N2) t.b (fun i => (t.l i).toNat) (fun i => (t.d i).toNat) (j + 1) = (ls ++ preP (word l1 N1) (word l2 N2) t.b (fun i => (t.l i).toNat) (fun i => (t.d i).toNat) j) ++ tokP (word l1 N1) (word l2 N2) (t.b j) (t.l j).toNat (t.d j).toNat) := fun j => by
    show ls ++ (preP (word l1 N1) (word l2 N2) t.b (fun i => (t.l i).toNat) (fun i => (t.d i).toNat) j ++ _) = _
    rw [List.append_assoc]
  have HP0 : Hid (preP (word l1 N1) (word l2 N2) t.b (fun i => (t.l i).toNat) (fun i => (t.d i).toNat) 0 = []) := rfl
  obtain ⟨F, hF⟩ : ∃ F, F = preP (word l1 N1) (word l2 N2) t.b (fun i => (t.l i).toNat) (fun i => (t.d i).toNat) := ⟨_, rfl⟩
  rw [← hF] at HPL HPS HP0 ⊢
  have HNL : Hid (n ≤ maxLen) := by
    rcases hT w (Below.refl _ _) with h | ⟨b, off, _, h, _⟩
    · show n ≤ maxLen; omega
    · exact h
  clear hF hW hT hB hC1 hC2 hsh hu hgood hTok hplen ba hWa hka hAp S0 S1 S2 S3
  go_enter Tryz.func63, Tryz.ntmps63
  go_wp2
  rw [← hq]
  rw [← hq] at *
  generalize w.alloc (.cells #[.slice (some ⟨b1, o1, none⟩) N1 cc1, .slice (some ⟨b2, o2, none⟩) N1 cc2, .slice (some ⟨b3, o3, none⟩) N2 cc3, .slice (some ⟨b4, o4, none⟩) N2 cc4] 104) = wq at *
  go_loopw [15] (fun i wr => ∃ j : Nat, j ≤ n ∧ i = .int .i64 j ∧ Hid (WP wr p (ls ++ F j)) ∧ Kept p wq wr) (fun i _ => n - (intOf i).toNat)
  case atStart => exact ⟨0, by omega, rfl, by show WP _ _ _; rw [unhide HP0, List.append_nil]; exact unhide HWa, Kept.refl _ _⟩
  case round =>
    clear HWa
    obtain ⟨j, hj, rfl, HWr, hKr⟩ := hrel
    have hKw := (unhide Hka).trans hKr
    have hlF := unhide HPL j hj
    have hla : len (ls ++ F j) + 150 ≤ 4000000 := by rw [len_append]; omega
    by_cases hlt2 : j < n
    rotate_left
    · have : j = n := by omega
      subst this
      have g1 : decide ((j : Int) < (j : Int)) = false := by simp
      obtain ⟨k0, k1, k2, k3⟩ := unhide HCELL wr hKr
      have HX : Hid (Calls Tryz.prog 96 #[.pointer (some ⟨p, 0, none⟩), .agg #[.slice (some ⟨b1, o1, none⟩) N1 cc1, .slice (some ⟨b2, o2, none⟩) N1 cc2], .int .i64 256] wr fun e w'' => e = .returned (.tuple #[]) ∧ WP w'' p ((ls ++ F j) ++ [word l1 N1 256]) ∧ Kept p wr w'') := unhide HSY1 wr (ls ++ F j) 256 (unhide HWr) hKw he he0 (by omega)
      go_wp2_with fail
      refine (unhide HX).mono ?_; rintro e w2 ⟨rfl, hW2, hk2⟩
      have HW2 := hide hW2
      clear hW2 HX
      go_wp2
      go_end0
      exact ⟨rfl, by have := unhide HW2; rwa [List.append_assoc] at this, hKw.trans hk2⟩
    have g1 : decide ((j : Int) < (n : Int)) = true := by simp; omega
    have g2 : (j : Int) < (n : Int) := by omega
    rcases unhide HTK wr hKw with h | ⟨tb, off, rfl, hnl, hcells⟩
    · omega
    obtain ⟨t0, t1, t2, t3, t4, t5⟩ := hcells j hlt2
    clear hcells
    have hWr := unhide HWr
    have hsj := unhide HSH j hlt2
    have huj := unhide HU j hlt2
    have hnw : 12 ≤ wr.heap.size := by have := hWr.lt; omega
    by_cases hl0 : t.l j = 0
    · have g3 : (t.l j == 0) = true := by rw [hl0]; rfl
      have hu1 : t.b j < N1 ∧ 0 < l1 (t.b j) := by unfold Uses at huj; rw [if_pos (by rw [hl0]; rfl)] at huj; exact huj
      have HTP : Hid (tokP (word l1 N1) (word l2 N2) (t.b j) (t.l j).toNat (t.d j).toNat = [word l1 N1 (t.b j)]) := by show _ = _; unfold tokP; rw [if_pos (by rw [hl0]; rfl)]
      obtain ⟨hWa, hka, _⟩ := three_new hWr (.int .u8 (t.b j : Nat)) (.int .i64 (t.l j)) (.int .i64 (t.d j)) 51
      have hKqa := hKr.trans hka
      obtain ⟨k0, k1, k2, k3⟩ := unhide HCELL _ hKqa
      have HX := hide (unhide HSY1 _ (ls ++ F j) (t.b j) hWa (hKw.trans hka) hu1.1 hu1.2 (by omega))
      have HKA := hide hKqa
      clear hl0 hWr hWa hka hKqa HWr hsj huj hu1
      go_wp2_with fail
      refine (unhide HX).mono ?_; rintro e w2 ⟨rfl, hW2, hk2⟩
      have HW2 := hide hW2
      have hKf := (unhide HKA).trans hk2
      clear HX hW2 HKA hk2
      go_wp2
      go_roundw
      case rel => exact ⟨j + 1, by omega, by go_num, by show WP _ _ _; rw [unhide HPS, unhide HTP]; exact unhide HW2, hKf⟩
      case measure => simp [intOf]; omega
    · have g3 : (t.l j == 0) = false := by simpa using hl0
      have hs2 : t.b j = 0 ∧ (3 ≤ t.l j ∧ t.l j ≤ 258) ∧ 1 ≤ t.d j ∧ t.d j ≤ 32768 := by unfold Tks.shaped at hsj; rw [if_neg hl0] at hsj; exact hsj
      obtain ⟨L, hL⟩ := Int.eq_ofNat_of_zero_le (show (0 : Int) ≤ t.l j by omega)
      obtain ⟨D, hD⟩ := Int.eq_ofNat_of_zero_le (show (0 : Int) ≤ t.d j by omega)
      rw [hL] at t1 g3 hs2
      rw [hD] at t2 hs2
      have hLn : (t.l j).toNat = L := by omega
      have hDn : (t.d j).toNat = D := by omega
      obtain ⟨c, hc⟩ : ∃ c, c = pl lens L := ⟨_, rfl⟩
      obtain ⟨d, hd⟩ : ∃ d, d = pl dists D := ⟨_, rfl⟩
      have hu1 : (257 + c < N1 ∧ 0 < l1 (257 + c)) ∧ d < N2 ∧ 0 < l2 d := by unfold Uses at huj; rw [if_neg (by omega), hLn, hDn, ← hc, ← hd] at huj; exact huj
      obtain ⟨p1, p2, p3⟩ := pl_lens (n := L) (by omega)
      obtain ⟨q1, q2, q3⟩ := pl_dists (n := D) (by omega)
      have HSL : Hid (∀ w', Bl w' → Calls Tryz.prog 97 #[.int .i64 (L : Int)] w' fun e w'' => e = .returned (.int .i64 ((257 + pl lens L : Nat) : Int)) ∧ w'' = w') := fun w' h => symLen_any L w' h (by omega)
      have HSD : Hid (∀ w', Bl w' → Calls Tryz.prog 98 #[.int .i64 (D : Int)] w' fun e w'' => e = .returned (.int .i64 ((pl dists D : Nat) : Int)) ∧ w'' = w') := fun w' h => symDist_any D w' h (by omega)
      rw [← hc] at p1 p2 p3 HSL
      rw [← hd] at q1 q2 q3 HSD
      obtain ⟨sy, hsy⟩ : ∃ sy, sy = 257 + c := ⟨_, rfl⟩
      rw [← hsy] at HSL hu1
      have HLEN : Hid (∀ w', Bl w' → _) := fun w' h => blockLength_yes sy c w' h p1 (by omega)
      have HDIST : Hid (∀ w', Bl w' → _) := fun w' h => blockDistance_yes d w' h q1
      have hlb := lenBits_le c p1
      have hdb := distBits_le d q1
      obtain ⟨lc, hlc⟩ : ∃ lc, lc = lens.getD c 0 := ⟨_, rfl⟩
      obtain ⟨lb, hlbe⟩ : ∃ lb, lb = lenBits c := ⟨_, rfl⟩
      obtain ⟨dc, hdc⟩ : ∃ dc, dc = dists.getD d 0 := ⟨_, rfl⟩
      obtain ⟨db, hdbe⟩ : ∃ db, db = distBits d := ⟨_, rfl⟩
      have HTP : Hid (tokP (word l1 N1) (word l2 N2) (t.b j) (t.l j).toNat (t.d j).toNat = [word l1 N1 sy, (L - lc, lb), word l2 N2 d, (D - dc, db)]) := by show _ = _; unfold tokP; rw [if_neg (by omega), hLn, hDn, ← hc, ← hd, hsy, hlc, hlbe, hdc, hdbe]
      rw [← hlc] at p2 p3 HLEN
      rw [← hlbe] at p3 hlb HLEN
      rw [← hdc] at q2 q3 HDIST
      rw [← hdbe] at q3 hdb HDIST
      obtain ⟨r1, hr1⟩ : ∃ r, r = L - lc := ⟨_, rfl⟩
      obtain ⟨r2, hr2⟩ : ∃ r, r = D - dc := ⟨_, rfl⟩
      have zr1 : (L : Int) - (lc : Int) = (r1 : Int) := by omega
      have zr2 : (D : Int) - (dc : Int) = (r2 : Int) := by omega
      rw [← hr1] at p3 HTP
      rw [← hr2] at q3 HTP
      have hsyl : sy < 300 := by omega
      have hdl : d < 30 := q1
      have hLl : L ≤ 258 := by omega
      have hDl : D ≤ 32768 := by omega
      have hr1l : r1 ≤ 258 := by omega
      have hr2l : r2 ≤ 32768 := by omega
      have HP3 := hide p3
      have HQ3 := hide q3
      obtain ⟨hWa, hka, hApa, T0, T1, T2⟩ := three_new hWr (.int .u8 (t.b j : Nat)) (.int .i64 (L : Int)) (.int .i64 (D : Int)) 51
      have hKqa := hKr.trans hka
      have hKwa := hKw.trans hka
      have HCA := hide (unhide HCELL _ hKqa)
      have HBa := hide (unhide HBL _ hKwa)
      have hnwa : 12 ≤ (wr.alloc (.cells #[.int .u8 (t.b j : Nat), .int .i64 (L : Int), .int .i64 (D : Int)] 51)).heap.size := by have := hka.size; omega
      have HWA := hide hWa
      have HAPA := hide hApa
      have HTT := hide (And.intro T0 (And.intro T1 T2))
      have HKQ := hide hKqa
      have HKW := hide hKwa
      clear hWr hWa hka hKqa hKwa HWr hsj huj hl0 hL hD hLn hDn hc hd hs2 hsy hlc hlbe hdc hdbe hr1 hr2 p2 q2 p3 q3 T0 T1 T2 hApa
      go_wp2
      generalize wr.alloc (.cells #[.int .u8 (t.b j : Nat), .int .i64 (L : Int), .int .i64 (D : Int)] 51) = wa at *
      generalize wr.heap.size = x at *
      obtain ⟨T0, T1, T2⟩ := unhide HTT
      go_quiet (first | (go_at_call 97; exact Calls.quiet_of_same (unhide HSL _ ((unhide HBa).below (below_drewN (Below.refl _ _) _) hnwa))) | (go_at_call 98; exact Calls.quiet_of_same (unhide HSD _ ((unhide HBa).below (below_drewN (Below.refl _ _) _) hnwa))))
      have HTS := HTT
      clear T0 T1 T2 hnwa
      go_wp2_with fail
      have hkd : Kept p wa (wa.drewN nq) := (unhide HWA).keep (below_drewN (Below.refl _ _) nq)
      have hWd : WP (wa.drewN nq) p (ls ++ F j) := (unhide HWA).below (below_drewN (Below.refl _ _) nq)
      refine (unhide HLEN _ (unhide HBL _ ((unhide HKW).trans hkd))).mono ?_
      rintro e w1 ⟨rfl, m1, hw1⟩
      have hk1 : Kept p wa w1 := by rw [hw1]; exact hkd.trans (hWd.keep (below_drewN (Below.refl _ _) m1))
      have hW1 : WP w1 p (ls ++ F j) := by rw [hw1]; exact hWd.below (below_drewN (Below.refl _ _) m1)
      clear hw1 hkd hWd HLEN HSL HSD
      have hl15 := c1.le sy hu1.1.1
      have hd15 := c2.le d hu1.2.1
      obtain ⟨k0, k1, k2, k3⟩ := unhide HCELL w1 ((unhide HKQ).trans hk1)
      have HX := hide (unhide HSY1 w1 (ls ++ F j) sy hW1 ((unhide HKW).trans hk1) hu1.1.1 hu1.1.2 (by omega))
      clear hW1
      go_wp2_with fail
      refine (unhide HX).mono ?_; rintro e w2 ⟨rfl, hW2, hk2⟩
      have hkw2 := hk1.trans hk2
      have T1 := ((unhide HAPA).cell hkw2 1).trans (unhide HTS).2.1
      have hl2 : len ((ls ++ F j) ++ [word l1 N1 sy]) ≤ len (ls ++ F j) + 15 := by rw [len_append]; simp only [len, word]; omega
      have HY := hide (wnumber_any p ((ls ++ F j) ++ [word l1 N1 sy]) r1 lb w2 hW2 (by omega) (unhide HP3) (by omega))
      clear HX hW2 k0 k1 k2 k3 hk1 hk2
      go_wp2_with fail
      refine (unhide HY).mono ?_; rintro e w3 ⟨rfl, hW3, hk3⟩
      have hkw3 := hkw2.trans hk3
      have hl3 : len (((ls ++ F j) ++ [word l1 N1 sy]) ++ [(r1, lb)]) ≤ len (ls ++ F j) + 20 := by rw [len_append]; simp only [len]; omega
      have HZ := hide (unhide HDIST w3 (unhide HBL _ ((unhide HKW).trans hkw3)))
      have HW3 := hide hW3
      clear HY hW3 T1 hkw2 hk3 hl2
      go_wp2_with fail
      refine (unhide HZ).mono ?_; rintro e w4 ⟨rfl, m4, hw4⟩
      have hkw4 : Kept p wa w4 := by rw [hw4]; exact hkw3.trans ((unhide HW3).keep (below_drewN (Below.refl _ _) m4))
      have hW4 : WP w4 p (((ls ++ F j) ++ [word l1 N1 sy]) ++ [(r1, lb)]) := by rw [hw4]; exact (unhide HW3).below (below_drewN (Below.refl _ _) m4)
      obtain ⟨k0, k1, k2, k3⟩ := unhide HCELL w4 ((unhide HKQ).trans hkw4)
      have HX := hide (unhide HSY2 w4 _ d hW4 ((unhide HKW).trans hkw4) hu1.2.1 hu1.2.2 (by omega))
      clear HZ HW3 hw4 hW4 hkw3
      go_wp2_with fail
      refine (unhide HX).mono ?_; rintro e w5 ⟨rfl, hW5, hk5⟩
      have hkw5 := hkw4.trans hk5
      have T2 := ((unhide HAPA).cell hkw5 2).trans (unhide HTS).2.2
      have hl5 : len ((((ls ++ F j) ++ [word l1 N1 sy]) ++ [(r1, lb)]) ++ [word l2 N2 d]) ≤ len (ls ++ F j) + 35 := by rw [len_append, show len [word l2 N2 d] = l2 d by simp [len, word]]; omega
      have HY := hide (wnumber_any p ((((ls ++ F j) ++ [word l1 N1 sy]) ++ [(r1, lb)]) ++ [word l2 N2 d]) r2 db w5 hW5 (by omega) (unhide HQ3) (by omega))
      clear HX hW5 k0 k1 k2 k3 hk5 hkw4
      go_wp2_with fail
      refine (unhide HY).mono ?_; rintro e w6 ⟨rfl, hW6, hk6⟩
      have hkw6 := (unhide HKQ).trans (hkw5.trans hk6)
      have HW6 := hide hW6
      clear HY hW6 T2 hkw5 hk6
      go_wp2
      go_roundw
      case rel => exact ⟨j + 1, by omega, by go_num, by show WP _ _ _; rw [unhide HPS, unhide HTP]; simpa [List.append_assoc] using unhide HW6, hkw6⟩
      case measure => simp [intOf]; omega
end Go.Proofs.YtfeljhikeddodadGreatDoor
namespace Go.Proofs.YtfeljhikeddodadGreatDoor
open Go.RowKit Pm Cn Nf Ps

set_option maxHeartbeats 1000000 in
theorem codeOf_any (b o cap N : Nat) (l : Nat → Nat) (v1 v2 : Value) (w : World) (hP : IsInts w (some ⟨b, o, none⟩) N (zl l)) (hN : N ≤ 300)
    (h1 : w.cell? ⟨0, 0, none⟩ = some v1) (h2 : w.cell? ⟨2, 0, none⟩ = some v2) (hle : ∀ i, i < N → l i ≤ 15) (hr : Right l N) :
    Calls Tryz.prog 64 #[.slice (some ⟨b, o, none⟩) N cap] w fun e w' => ∃ g, e = .returned (.agg #[.slice (some ⟨b, o, none⟩) N cap, .slice (some ⟨g, 0, none⟩) N N]) ∧ (∀ i, i < N → w'.cell? ⟨g, i, none⟩ = some (.int .u32 (code l N i : Nat))) ∧ w.heap.size ≤ g ∧ Below w.heap.size w w' := by
  have ba : Below w.heap.size w (w.alloc (.cells #[.slice none 0 0, .slice none 0 0] 101)) := (Below.refl _ _).alloc (Nat.le_refl _) _
  have hsz : (w.alloc (.cells #[.slice none 0 0, .slice none 0 0] 101)).heap.size = w.heap.size + 1 := by simp
  have hnb : ¬ Bad (zl l) N := fun h => by
    rcases h with h | ⟨i, hi, h⟩
    · omega
    · have := hle i hi; unfold zl at h; omega
  have HC := hide (codes_right (some ⟨b, o, none⟩) N cap (zl l) v1 v2 (w.alloc (.cells #[.slice none 0 0, .slice none 0 0] 101)) (hP.below ba) hN ((ba.cell (World.block_lt_of_cell? _ _ h1)).trans h1) ((ba.cell (World.block_lt_of_cell? _ _ h2)).trans h2) hnb (by rw [nat_zl]; exact hr))
  rw [nat_zl] at HC
  have cB0 : (w.alloc (.cells #[.slice none 0 0, .slice none 0 0] 101)).cell? ⟨w.heap.size, 0, none⟩ = some (.slice none 0 0) := by simp
  have cB1 : (w.alloc (.cells #[.slice none 0 0, .slice none 0 0] 101)).cell? ⟨w.heap.size, 1, none⟩ = some (.slice none 0 0) := by simp
  have fB0 : (w.alloc (.cells #[.slice none 0 0, .slice none 0 0] 101)).frozen? ⟨w.heap.size, 0, none⟩ = false := by simp
  have fB1 : (w.alloc (.cells #[.slice none 0 0, .slice none 0 0] 101)).frozen? ⟨w.heap.size, 1, none⟩ = false := by simp
  have HF := hide (And.intro (And.intro cB0 cB1) (And.intro fB0 fB1))
  clear hP h1 h2 hnb hr cB0 cB1 fB0 fB1
  go_enter Tryz.func64, Tryz.ntmps64
  go_wp2_with fail
  generalize hB : w.heap.size = B at *
  generalize w.alloc (.cells #[.slice none 0 0, .slice none 0 0] 101) = w0 at *
  refine (unhide HC).mono ?_
  rintro e w1 ⟨g, rfl, hown, hb1⟩
  have hBl : B < w0.heap.size := by omega
  have k0 := (hb1.cell (p := ⟨B, 0, none⟩) hBl).trans (unhide HF).1.1
  have k1 := (hb1.cell (p := ⟨B, 1, none⟩) hBl).trans (unhide HF).1.2
  have f0 := (hb1.frozen (p := ⟨B, 0, none⟩) hBl).trans (unhide HF).2.1
  have f1 := (hb1.frozen (p := ⟨B, 1, none⟩) hBl).trans (unhide HF).2.2
  have hg := (hown.lt g rfl).1
  have hcells : ∀ i, i < N → w1.cell? ⟨g, i, none⟩ = some (.int .u32 (code l N i : Nat)) := fun i hi => by rw [hown.cellAt i (by omega), u32Vals_at _ _ _ hi]
  have HR : Hid (∀ x y : Value, (∀ i, i < N → ((w1.setCell ⟨B, 0, none⟩ x).setCell ⟨B, 1, none⟩ y).cell? ⟨g, i, none⟩ = some (.int .u32 (code l N i : Nat))) ∧ Below B w ((w1.setCell ⟨B, 0, none⟩ x).setCell ⟨B, 1, none⟩ y)) := fun x y => by
    refine ⟨fun i hi => ?_, ((ba.trans (hb1.mono (by omega))).setCell (p := ⟨B, 0, none⟩) (Nat.le_refl _) x).setCell (p := ⟨B, 1, none⟩) (Nat.le_refl _) y⟩
    rw [World.cell?_setCell_other _ _ _ _ (by intro q; injection q with q _; omega), World.cell?_setCell_other _ _ _ _ (by intro q; injection q with q _; omega)]
    exact hcells i hi
  have hgB : B ≤ g := by omega
  clear HC HF hown hb1 hcells
  go_wp2
  refine bodyPost_ret (v := .agg #[.slice (some ⟨b, o, none⟩) N cap, .slice (some ⟨g, 0, none⟩) N N]) ?_ rfl ⟨g, rfl, (unhide HR _ _).1, by omega, by rw [hB]; exact (unhide HR _ _).2⟩
  rw [results_cellB (p := 2) (ty := 101) (by kernel_rfl)]
  go_simp
/-- Lengths and words in memory: a code, as a value. -/
theorem CV.mk' {w : World} {p N b1 o1 c1 b2 c2 : Nat} {l : Nat → Nat} (h1 : ∀ i, i < N → w.cell? ⟨b1, o1 + i, none⟩ = some (.int .i64 (l i : Nat))) (h2 : ∀ i, i < N → w.cell? ⟨b2, i, none⟩ = some (.int .u32 (code l N i : Nat))) (hN : 0 < N) (hN3 : N ≤ 300) (a1 : b1 ≠ p ∧ b1 ≠ rowOf w p) (a2 : b2 ≠ p ∧ b2 ≠ rowOf w p) :
    CV w p (.agg #[.slice (some ⟨b1, o1, none⟩) N c1, .slice (some ⟨b2, 0, none⟩) N c2]) l N :=
  ⟨⟨b1, o1, c1, b2, 0, c2, rfl, h1, fun i hi => by rw [Nat.zero_add]; exact h2 i hi, a1, a2⟩, hN, hN3⟩
theorem Tks.tok {t : Tks} {i : Nat} (h : t.shaped i) (hb : t.b i < 256) : Tok (t.b i) (t.l i).toNat (t.d i).toNat := by
  unfold Tks.shaped at h
  unfold Tok
  split at h
  · next e => rw [if_pos (by omega)]; exact hb
  · next e => rw [if_neg (by omega)]; omega
end Go.Proofs.YtfeljhikeddodadGreatDoor
namespace Go.Proofs.YtfeljhikeddodadGreatDoor
open Go.RowKit

theorem results_c {fn : Func} {p : Tmp} {ty : TypeId} (h : fn.results = #[.cell p ty]) (tmps : Array Value) (P : Program) (w : World) :
    (results fn tmps).run P w = ((asAddr (tmps.getD p undef)).run P w).andThen fun a w₁ => (loadVar ty a).run P w₁ := by
  simp only [results, h]
  simp [Sem.run_bind, Result.andThen]
end Go.Proofs.YtfeljhikeddodadGreatDoor
namespace Go.Proofs.YtfeljhikeddodadGreatDoor
open Go.RowKit Ps Nf Pm Cn

set_option maxHeartbeats 2000000 in
/-- Without those of no word at the end. -/
theorem dused_any (b o N cap least : Nat) (l : Nat → Nat) (w : World) (hP : ∀ i, i < N → w.cell? ⟨b, o + i, none⟩ = some (.int .i64 (l i : Int))) (hl : least ≤ N) (hNc : N ≤ cap) (hcm : cap ≤ maxLen) :
    Calls Tryz.prog 80 #[.slice (some ⟨b, o, none⟩) N cap, .int .i64 (least : Int)] w fun e w' => ∃ n : Nat, e = .returned (.slice (some ⟨b, o, none⟩) n cap) ∧ least ≤ n ∧ n ≤ N ∧ (∀ j, n ≤ j → j < N → l j = 0) ∧ w' = w := by
  unfold maxLen at hcm
  go_enter Tryz.func80, Tryz.ntmps80
  go_wp2
  go_loop [5] (fun v => ∃ n : Nat, least ≤ n ∧ n ≤ N ∧ v = .int .i64 (n : Int) ∧ Hid (∀ j, n ≤ j → j < N → l j = 0)) (fun v => (intOf v).toNat)
  case atStart => exact ⟨N, hl, Nat.le_refl _, rfl, fun j h1 h2 => by omega⟩
  case round =>
    obtain ⟨n, hn1, hn2, rfl, HZ⟩ := hrel
    by_cases hlt : least < n
    · have d1 : decide ((n : Int) > (least : Int)) = true := decide_eq_true (by omega)
      have d1' : decide ((least : Int) < (n : Int)) = true := d1
      have d1n : decide (least < n) = true := decide_eq_true hlt
      obtain ⟨n1, hn1'⟩ : ∃ q, q = n - 1 := ⟨_, rfl⟩
      have z1 : (n : Int) - 1 = (n1 : Int) := by omega
      have c1 := hP n1 (by omega)
      have hni : (n1 : Int) < (N : Int) := by omega
      obtain ⟨x, hx⟩ : ∃ x, x = l n1 := ⟨_, rfl⟩
      rw [← hx] at c1
      by_cases h0 : x = 0
      · have g1 : ((x : Int) == 0) = true := by rw [h0]; rfl
        have HZ2 : Hid (∀ j, n1 ≤ j → j < N → l j = 0) := fun j h1 h2 => by
          by_cases e : j = n1
          · subst e; rw [← hx]; exact h0
          · exact unhide HZ j (by omega) h2
        have hle1 : least ≤ n1 := by omega
        have hlN : n1 ≤ N := by omega
        have hnn : n1 < n := by omega
        clear hx hn1' hP h0
        go_wp2
        go_round
        case rel => exact ⟨n1, hle1, hlN, rfl, HZ2⟩
        case measure => simp [intOf]; omega
      · have g1 : ((x : Int) == 0) = false := by rw [beq_eq_false_iff_ne]; omega
        have hni2 : (n : Int) ≤ (N : Int) := by omega
        have hnc : (n : Int) ≤ (cap : Int) := by omega
        have hncn : n ≤ cap := by omega
        clear hx hn1' hP
        go_wp2
        go_ret
        exact ⟨n, rfl, by omega, hn2, unhide HZ, rfl⟩
    · have d1 : decide ((n : Int) > (least : Int)) = false := decide_eq_false (by omega)
      have d1' : decide ((least : Int) < (n : Int)) = false := d1
      have d1n : decide (least < n) = false := decide_eq_false hlt
      have hncn : n ≤ cap := by omega
      have hnc : (n : Int) ≤ (cap : Int) := by omega
      clear hP
      go_wp2
      go_ret
      exact ⟨n, rfl, by omega, hn2, unhide HZ, rfl⟩
/-- A code of its own in memory: lengths and words, from a block on. -/
structure Cv (w : World) (B : Nat) (v : Value) (l : Nat → Nat) (N : Nat) : Prop where
  is : ∃ b1 b2, v = .agg #[.slice (some ⟨b1, 0, none⟩) N N, .slice (some ⟨b2, 0, none⟩) N N] ∧ B ≤ b1 ∧ B ≤ b2 ∧
    (∀ i, i < N → w.cell? ⟨b1, i, none⟩ = some (.int .i64 (l i : Int))) ∧ (∀ i, i < N → w.cell? ⟨b2, i, none⟩ = some (.int .u32 (code l N i : Nat)))
theorem Cv.below {w w' : World} {B N : Nat} {v : Value} {l : Nat → Nat} (h : Cv w B v l N) (hN : 0 < N) (hb : Below w.heap.size w w') : Cv w' B v l N := by
  obtain ⟨b1, b2, hv, h1, h2, h3, h4⟩ := h.is
  have g1 := World.block_lt_of_cell? _ _ (h3 0 hN)
  have g2 := World.block_lt_of_cell? _ _ (h4 0 hN)
  exact ⟨⟨b1, b2, hv, h1, h2, fun i hi => (hb.cell (p := ⟨b1, i, none⟩) g1).trans (h3 i hi), fun i hi => (hb.cell (p := ⟨b2, i, none⟩) g2).trans (h4 i hi)⟩⟩
/-- What counts must be, and the best lengths of them. -/
structure Bst (z l : Nat → Nat) (N most : Nat) : Prop where
  le : ∀ i, i < N → l i ≤ most
  same : ∀ i, i < N → (0 < l i ↔ 0 < z i)
  right : Right l N
  good : ∃ y, GoodL (fun i => (z i : Int)) y N most ∧ l = nat y
set_option maxHeartbeats 2000000 in
theorem dbest_any (ao : Option Addr) (N cap most : Nat) (z : Nat → Nat) (v1 v2 : Value) (w : World) (hP : IsInts w ao N (fun i => (z i : Int))) (hN : N ≤ 300) (hN0 : 0 < N) (hm1 : 1 ≤ most) (hm : most ≤ 15) (hz : ∀ i, i < N → z i ≤ 1048576) (hn : N ≤ 2 ^ most)
    (h1 : w.cell? ⟨0, 0, none⟩ = some v1) (h2 : w.cell? ⟨2, 0, none⟩ = some v2) :
    Calls Tryz.prog 118 #[.slice ao N cap, .int .i64 (most : Int)] w fun e w' => ∃ v l, e = .returned v ∧ Cv w' w.heap.size v l N ∧ Bst z l N most ∧ Below w.heap.size w w' := by
  have hb0 : Below w.heap.size w (w.alloc (.cells #[.slice none 0 0, .slice none 0 0] 101)) := (Below.refl _ _).alloc (Nat.le_refl _) _
  have l1 := World.block_lt_of_cell? _ _ h1
  have l2 := World.block_lt_of_cell? _ _ h2
  simp only at l1 l2
  have hsy : (syms (fun i => (z i : Int)) N).length ≤ N := by
    unfold syms
    exact Nat.le_trans (List.length_filter_le _ _) (by simp)
  have HX := hide (lengths_good ao N cap most (fun i => (z i : Int)) (w.alloc (.cells #[.slice none 0 0, .slice none 0 0] 101)) (hP.below hb0) hN hm1 hm (fun i hi => by
    have := hz i hi
    unfold badC
    simp only [Bool.or_eq_false_iff, decide_eq_false_iff_not]
    omega) (Nat.le_trans hsy hn))
  have f0 : (w.alloc (.cells #[.slice none 0 0, .slice none 0 0] 101)).heap[w.heap.size]? = some (.cells #[.slice none 0 0, .slice none 0 0] 101) := heap_alloc_new _ _
  have hsz : (w.alloc (.cells #[.slice none 0 0, .slice none 0 0] 101)).heap.size = w.heap.size + 1 := by simp
  have HS1 := hide ((hb0.cell (p := ⟨0, 0, none⟩) l1).trans h1)
  have HS2 := hide ((hb0.cell (p := ⟨2, 0, none⟩) l2).trans h2)
  have HB0 := hide hb0
  have F0 := hide f0
  obtain ⟨gp, hgp⟩ : ∃ q, q = w.heap.size := ⟨_, rfl⟩
  have Hgp := hide hgp
  rw [← hgp] at hsz HB0 F0
  clear hb0 f0 h1 h2 hsy hP hz
  go_enter Tryz.func118, Tryz.ntmps118
  go_wp2_with fail
  refine (unhide HX).mono ?_
  rw [← hgp] at l1 l2 ⊢
  generalize w.alloc (.cells #[.slice none 0 0, .slice none 0 0] 101) = w0 at *
  rintro e w1 ⟨g, y, rfl, hown, hG, hb1⟩
  clear HX hgp
  obtain ⟨l, hl⟩ : ∃ l, l = nat y := ⟨_, rfl⟩
  have hy : ∀ i, i < N → y i = (l i : Int) := fun i hi => by rw [hl]; unfold nat; have := (hG.low i hi).1; omega
  have hcell : ∀ i, i < N → w1.cell? ⟨g, i, none⟩ = some (.int .i64 (l i : Int)) := fun i hi => by rw [own_int hown i hi, hy i hi]
  have hg0 : gp + 1 ≤ g := by have := (own_inS hown g rfl).1; omega
  have hgl : g < w1.heap.size := (own_inS hown g rfl).2
  have hle : ∀ i, i < N → l i ≤ most := fun i hi => by have := (hG.low i hi).2; have := hy i hi; omega
  have hr : Right l N := by rw [hl]; exact hG.right
  have HBST : Hid (Bst z l N most) := ⟨hle, fun i hi => by have h3 := hG.same i hi; rw [hy i hi] at h3; constructor <;> intro h4 <;> omega, hr, y, hG, hl⟩
  have hI : IsInts w1 (some ⟨g, 0, none⟩) N (zl l) := .inr ⟨g, 0, rfl, by unfold maxLen; omega, fun i hi => ⟨by rw [Nat.zero_add]; exact hcell i hi, by have := hle i hi; unfold zl; omega, by have := hle i hi; unfold zl; omega⟩⟩
  have S1 := hide ((hb1.cell (p := ⟨0, 0, none⟩) (show _ < _ by simp only; omega)).trans (unhide HS1))
  have S2 := hide ((hb1.cell (p := ⟨2, 0, none⟩) (show _ < _ by simp only; omega)).trans (unhide HS2))
  have HX := hide (codeOf_any g 0 N N l v1 v2 w1 hI hN (unhide S1) (unhide S2) (fun i hi => by have := hle i hi; omega) hr)
  have F1 := hide ((hb1.block gp (by omega)).trans (unhide F0))
  have HB1 := hide ((unhide HB0).trans (hb1.mono (by omega)))
  have HC1 := hide hcell
  have hs1 : gp + 1 ≤ w1.heap.size := by omega
  clear hown hG hb1 hy hcell hle hr hI S1 S2 HS1 HS2 F0 HB0 hl
  go_wp2_with fail
  refine (unhide HX).mono ?_; rintro e w2 ⟨g2, rfl, hc2, hg2, hb2⟩
  have F2 := hide ((hb2.block gp (by omega)).trans (unhide F1))
  have HB2 := hide ((unhide HB1).trans (hb2.mono (by omega)))
  have HC2 : Hid (∀ i, i < N → w2.cell? ⟨g, i, none⟩ = some (.int .i64 (l i : Int))) := fun i hi => (hb2.cell (p := ⟨g, i, none⟩) hgl).trans (unhide HC1 i hi)
  have HD2 := hide hc2
  have hg2n : gp + 1 ≤ g2 := by omega
  have c0 : w2.cell? ⟨gp, 0, none⟩ = some (.slice none 0 0) := by simp only [World.cell?, unhide F2]; rfl
  have c1 : w2.cell? ⟨gp, 1, none⟩ = some (.slice none 0 0) := by simp only [World.cell?, unhide F2]; rfl
  have z0 : w2.frozen? ⟨gp, 0, none⟩ = false := by simp only [World.frozen?, unhide F2]; simp
  have z1 : w2.frozen? ⟨gp, 1, none⟩ = false := by simp only [World.frozen?, unhide F2]; simp
  clear HX hc2 hb2 HC1 F1 HB1 hg2
  have HF : Hid (∃ v l, (Ending.returned (.agg #[.slice (some ⟨g, 0, none⟩) N N, .slice (some ⟨g2, 0, none⟩) N N]) : Ending) = .returned v ∧ Cv ((w2.setCell ⟨gp, 0, none⟩ (.slice (some ⟨g, 0, none⟩) N N)).setCell ⟨gp, 1, none⟩ (.slice (some ⟨g2, 0, none⟩) N N)) gp v l N ∧ Bst z l N most ∧ Below gp w ((w2.setCell ⟨gp, 0, none⟩ (.slice (some ⟨g, 0, none⟩) N N)).setCell ⟨gp, 1, none⟩ (.slice (some ⟨g2, 0, none⟩) N N))) := by
    refine ⟨_, l, rfl, ⟨⟨g, g2, rfl, by omega, by omega, fun i hi => ?_, fun i hi => ?_⟩⟩, unhide HBST, ((unhide HB2).setCell (p := ⟨gp, 0, none⟩) (Nat.le_refl _) _).setCell (p := ⟨gp, 1, none⟩) (Nat.le_refl _) _⟩
    · rw [World.cell?_setCell_other _ _ _ _ (fun q => by injection q with q _; omega), World.cell?_setCell_other _ _ _ _ (fun q => by injection q with q _; omega)]
      exact unhide HC2 i hi
    · rw [World.cell?_setCell_other _ _ _ _ (fun q => by injection q with q _; omega), World.cell?_setCell_other _ _ _ _ (fun q => by injection q with q _; omega)]
      exact unhide HD2 i hi
  go_wp2
  refine bodyPost_ret (v := .agg #[.slice (some ⟨g, 0, none⟩) N N, .slice (some ⟨g2, 0, none⟩) N N]) ?_ rfl (by rw [← unhide Hgp]; exact unhide HF)
  rw [results_c (p := 4) (ty := 101) (by kernel_rfl)]
  go_simp
end Go.Proofs.YtfeljhikeddodadGreatDoor
