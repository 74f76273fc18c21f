/- Walks of the writer of blocks: codes, the fixed block. What the pieces of a fixed block mean; texts of pieces. Walks of the program's look at tokens. Walk of the program's measure of tokens. -/
import Derived.Test.YtbbcfghlhgaofadGreatDoorDf2
import Derived.Laws.ResultCell
import Derived.Test.YtbbcfghlhgaofadGreatDoorMg5
import Derived.Test.YtbbcfghlhgaofadGreatDoorMg16
import Derived.WalkLawsBesides
import Derived.WalkSpells
import Derived.Handy
import Derived.Below
import Derived.Deep.LoopGhost
import Derived.BigRegion
namespace Go.Proofs.YtbbcfghlhgaofadGreatDoor
open Go.RowKit Pm Cn Nf Ps

set_option maxHeartbeats 1000000 in
theorem codeOf_any (b o cap N : Nat) (l : Nat → Nat) (v1 v2 : Value) (w : World) (hP : IsInts w (some ⟨b, o, none⟩) N (zl l)) (hN : N ≤ 300)
    (h1 : w.cell? ⟨0, 0, none⟩ = some v1) (h2 : w.cell? ⟨2, 0, none⟩ = some v2) (hle : ∀ i, i < N → l i ≤ 15) (hr : Right l N) :
    Calls Tryz.prog 64 #[.slice (some ⟨b, o, none⟩) N cap] w fun e w' => ∃ g, e = .returned (.agg #[.slice (some ⟨b, o, none⟩) N cap, .slice (some ⟨g, 0, none⟩) N N]) ∧ (∀ i, i < N → w'.cell? ⟨g, i, none⟩ = some (.int .u32 (code l N i : Nat))) ∧ w.heap.size ≤ g ∧ Below w.heap.size w w' := by
  have ba : Below w.heap.size w (w.alloc (.cells #[.slice none 0 0, .slice none 0 0] 101)) := (Below.refl _ _).alloc (Nat.le_refl _) _
  have hsz : (w.alloc (.cells #[.slice none 0 0, .slice none 0 0] 101)).heap.size = w.heap.size + 1 := by simp
  have hnb : ¬ Bad (zl l) N := fun h => by
    rcases h with h | ⟨i, hi, h⟩
    · omega
    · have := hle i hi; unfold zl at h; omega
  have HC := hide (codes_right (some ⟨b, o, none⟩) N cap (zl l) v1 v2 (w.alloc (.cells #[.slice none 0 0, .slice none 0 0] 101)) (hP.below ba) hN ((ba.cell (World.block_lt_of_cell? _ _ h1)).trans h1) ((ba.cell (World.block_lt_of_cell? _ _ h2)).trans h2) hnb (by rw [nat_zl]; exact hr))
  rw [nat_zl] at HC
  have cB0 : (w.alloc (.cells #[.slice none 0 0, .slice none 0 0] 101)).cell? ⟨w.heap.size, 0, none⟩ = some (.slice none 0 0) := by simp
  have cB1 : (w.alloc (.cells #[.slice none 0 0, .slice none 0 0] 101)).cell? ⟨w.heap.size, 1, none⟩ = some (.slice none 0 0) := by simp
  have fB0 : (w.alloc (.cells #[.slice none 0 0, .slice none 0 0] 101)).frozen? ⟨w.heap.size, 0, none⟩ = false := by simp
  have fB1 : (w.alloc (.cells #[.slice none 0 0, .slice none 0 0] 101)).frozen? ⟨w.heap.size, 1, none⟩ = false := by simp
  have HF := hide (And.intro (And.intro cB0 cB1) (And.intro fB0 fB1))
  clear hP h1 h2 hnb hr cB0 cB1 fB0 fB1
  go_enter Tryz.func64, Tryz.ntmps64
  go_wp2_with fail
  generalize hB : w.heap.size = B at *
  generalize w.alloc (.cells #[.slice none 0 0, .slice none 0 0] 101) = w0 at *
  refine (unhide HC).mono ?_
  rintro e w1 ⟨g, rfl, hown, hb1⟩
  have hBl : B < w0.heap.size := by omega
  have k0 := (hb1.cell (p := ⟨B, 0, none⟩) hBl).trans (unhide HF).1.1
  have k1 := (hb1.cell (p := ⟨B, 1, none⟩) hBl).trans (unhide HF).1.2
  have f0 := (hb1.frozen (p := ⟨B, 0, none⟩) hBl).trans (unhide HF).2.1
  have f1 := (hb1.frozen (p := ⟨B, 1, none⟩) hBl).trans (unhide HF).2.2
  have hg := (hown.lt g rfl).1
  have hcells : ∀ i, i < N → w1.cell? ⟨g, i, none⟩ = some (.int .u32 (code l N i : Nat)) := fun i hi => by rw [hown.cellAt i (by omega), u32Vals_at _ _ _ hi]
  have HR : Hid (∀ x y : Value, (∀ i, i < N → ((w1.setCell ⟨B, 0, none⟩ x).setCell ⟨B, 1, none⟩ y).cell? ⟨g, i, none⟩ = some (.int .u32 (code l N i : Nat))) ∧ Below B w ((w1.setCell ⟨B, 0, none⟩ x).setCell ⟨B, 1, none⟩ y)) := fun x y => by
    refine ⟨fun i hi => ?_, ((ba.trans (hb1.mono (by omega))).setCell (p := ⟨B, 0, none⟩) (Nat.le_refl _) x).setCell (p := ⟨B, 1, none⟩) (Nat.le_refl _) y⟩
    rw [World.cell?_setCell_other _ _ _ _ (by intro q; injection q with q _; omega), World.cell?_setCell_other _ _ _ _ (by intro q; injection q with q _; omega)]
    exact hcells i hi
  have hgB : B ≤ g := by omega
  clear HC HF hown hb1 hcells
  go_wp2
  refine bodyPost_ret (v := .agg #[.slice (some ⟨b, o, none⟩) N cap, .slice (some ⟨g, 0, none⟩) N N]) ?_ rfl ⟨g, rfl, (unhide HR _ _).1, by omega, by rw [hB]; exact (unhide HR _ _).2⟩
  rw [results_cellB (p := 2) (ty := 101) (by kernel_rfl)]
  go_simp

/-- Lengths and words in memory: a code, as a value. -/
theorem CV.mk' {w : World} {p N b1 o1 c1 b2 c2 : Nat} {l : Nat → Nat} (h1 : ∀ i, i < N → w.cell? ⟨b1, o1 + i, none⟩ = some (.int .i64 (l i : Nat))) (h2 : ∀ i, i < N → w.cell? ⟨b2, i, none⟩ = some (.int .u32 (code l N i : Nat))) (hN : 0 < N) (hN3 : N ≤ 300) (a1 : b1 ≠ p ∧ b1 ≠ rowOf w p) (a2 : b2 ≠ p ∧ b2 ≠ rowOf w p) :
    CV w p (.agg #[.slice (some ⟨b1, o1, none⟩) N c1, .slice (some ⟨b2, 0, none⟩) N c2]) l N :=
  ⟨⟨b1, o1, c1, b2, 0, c2, rfl, h1, fun i hi => by rw [Nat.zero_add]; exact h2 i hi, a1, a2⟩, hN, hN3⟩

theorem fix_cod : Cod fixL 288 := ⟨fun i _ => (fixL_le i).1, by rw [all_fixL]; decide⟩
theorem fixD_cod : Cod fixD 32 := ⟨fun i _ => by unfold fixD; omega, by decide +kernel⟩
theorem fix_uses {b L D : Nat} (h : Tok b L D) : Uses fixL 288 fixD 32 b L D := by
  unfold Tok Uses at *
  split
  · next e => rw [if_pos e] at h; exact ⟨by omega, (fixL_le b).2⟩
  · next e =>
    rw [if_neg e] at h
    have h1 := (pl_lens h.1).1
    have h2 := (pl_dists h.2).1
    exact ⟨⟨by omega, (fixL_le _).2⟩, by omega, by unfold fixD; omega⟩
theorem Tks.tok {t : Tks} {i : Nat} (h : t.shaped i) (hb : t.b i < 256) : Tok (t.b i) (t.l i).toNat (t.d i).toNat := by
  unfold Tks.shaped at h
  unfold Tok
  split at h
  · next e => rw [if_pos (by omega)]; exact hb
  · next e => rw [if_neg (by omega)]; omega

/-- The pieces of a fixed block. -/
def fixP (t : Tks) (n : Nat) : List Pc := [(1, 1), (1, 2)] ++ (preP (word fixL 288) (word fixD 32) t.b (fun i => (t.l i).toNat) (fun i => (t.d i).toNat) n ++ [word fixL 288 256])
theorem fixP_is (t : Tks) (n : Nat) : ([] ++ [(true.toNat, 1), (1, 2)]) ++ (preP (word fixL 288) (word fixD 32) t.b (fun i => (t.l i).toNat) (fun i => (t.d i).toNat) n ++ [word fixL 288 256]) = fixP t n := by
  unfold fixP; rw [List.nil_append]; rfl

set_option maxHeartbeats 4000000 in
set_option maxRecDepth 100000 in
theorem fixed_any (s : ByteArray) (ao : Option Addr) (n cap : Nat) (t : Tks) (v1 v2 : Value) (w : World) (hT : IsTokens w ao n t) (hB : Bl w) (hn : 12 ≤ w.heap.size)
    (h1 : w.cell? ⟨0, 0, none⟩ = some v1) (h2 : w.cell? ⟨2, 0, none⟩ = some v2) (hsh : ∀ i, i < n → t.shaped i) (hc : 48 * n + 300 ≤ 4000000) :
    Calls Tryz.prog 24 #[.string s, .slice ao n cap] w fun e w' => e = .returned (.string (textP (fixP t n))) ∧ Below w.heap.size w w' := by
  have hb8 : ∀ i, i < n → t.b i < 256 := fun i hi => by
    rcases hT with h | ⟨b, off, _, _, h⟩
    · omega
    · exact (h i hi).2.2.2.1
  have ba : Below w.heap.size w (w.alloc (.cells #[.slice none 0 0, .int .i64 0] 96)) := (Below.refl _ _).alloc (Nat.le_refl _) _
  have hW0 := new_writer2 w
  have HH : Hid (Calls Tryz.prog 62 #[.pointer (some ⟨w.heap.size, 0, none⟩), .bool true, .int .i64 1] (w.alloc (.cells #[.slice none 0 0, .int .i64 0] 96)) fun e w' => e = .returned (.tuple #[]) ∧ WP w' w.heap.size ([] ++ [(true.toNat, 1), (1, 2)]) ∧ Kept w.heap.size (w.alloc (.cells #[.slice none 0 0, .int .i64 0] 96)) w') := whead_any w.heap.size [] true 1 _ hW0 (by omega) (by simp [len])
  have HK0 : Hid (∀ w', Kept w.heap.size (w.alloc (.cells #[.slice none 0 0, .int .i64 0] 96)) w' → Below w.heap.size w w') := fun w' hk => ba.trans (hk.below hW0 (Nat.le_refl _))
  have HT := hide hT
  have HB := hide hB
  have H1 := hide h1
  have H2 := hide h2
  clear hW0 hT hB h1 h2 ba
  go_enter Tryz.func24, Tryz.ntmps24
  go_wp2_with fail
  obtain ⟨p, hp⟩ : ∃ p, p = w.heap.size := ⟨_, rfl⟩
  rw [← hp] at HH HK0 hn ⊢
  have HP := hide hp
  clear hp
  refine (unhide HH).mono ?_
  rintro e w1 ⟨rfl, hW1, hk1⟩
  have hbw1 := unhide HK0 w1 hk1
  generalize w.alloc (.cells #[.slice none 0 0, .int .i64 0] 96) = w0 at *
  clear HH
  go_wp2_with fail
  refine (fixedSymbols_any w1).mono ?_
  rintro e w2 ⟨g2, rfl, hA2, hg2, hb2⟩
  have hs2 := hb2.size
  have hlp := hW1.lt
  have hrp := hW1.row
  have hbw2 : Below p w w2 := hbw1.trans (hb2.mono (by omega))
  have HC2 := hide (codeOf_any g2 0 288 288 fixL v1 v2 w2 (hA2.ints (by omega) (fun i _ => (fixL_le i).1)) (by omega) ((hbw2.cell (by rw [unhide HP]; exact World.block_lt_of_cell? _ _ (unhide H1))).trans (unhide H1)) ((hbw2.cell (by rw [unhide HP]; exact World.block_lt_of_cell? _ _ (unhide H2))).trans (unhide H2)) (fun i _ => (fixL_le i).1) (.inr (.inr all_fixL)))
  have HA2 := hide hA2
  have HW1 := hide hW1
  clear hA2 hW1
  go_wp2_with fail
  refine (unhide HC2).mono ?_
  rintro e w3 ⟨g3, rfl, hc3, hg3, hb3⟩
  have hs3 := hb3.size
  have hbw3 : Below p w w3 := hbw2.trans (hb3.mono (by omega))
  have hb13 : Below w1.heap.size w1 w3 := hb2.trans (hb3.mono hs2)
  have hW3 := (unhide HW1).below hb13
  have hr3 : rowOf w3 p = rowOf w1 p := rowOf_same (hb13.cell hlp)
  have HV1 : Hid (CV w3 p (.agg #[.slice (some ⟨g2, 0, none⟩) 288 288, .slice (some ⟨g3, 0, none⟩) 288 288]) fixL 288) := CV.mk' (fun i hi => by rw [Nat.zero_add]; exact ((unhide HA2).below hb3 i hi).1) hc3 (by omega) (by omega) (by rw [hr3]; omega) (by rw [hr3]; omega)
  have HW3 := hide hW3
  clear HC2 HA2 hc3 hW3 HW1 hb13 hr3
  go_wp2_with fail
  refine (fixedDistances_any w3).mono ?_
  rintro e w4 ⟨g4, rfl, hA4, hg4, hb4⟩
  have hs4 := hb4.size
  have hbw4 : Below p w w4 := hbw3.trans (hb4.mono (by omega))
  have HC4 := hide (codeOf_any g4 0 32 32 fixD v1 v2 w4 (hA4.ints (by omega) (fun i _ => by unfold fixD; omega)) (by omega) ((hbw4.cell (by rw [unhide HP]; exact World.block_lt_of_cell? _ _ (unhide H1))).trans (unhide H1)) ((hbw4.cell (by rw [unhide HP]; exact World.block_lt_of_cell? _ _ (unhide H2))).trans (unhide H2)) (fun i _ => by unfold fixD; omega) (.inr (.inr (by decide +kernel))))
  have HA4 := hide hA4
  clear hA4
  go_wp2_with fail
  refine (unhide HC4).mono ?_
  rintro e w5 ⟨g5, rfl, hc5, hg5, hb5⟩
  have hs5 := hb5.size
  have hbw5 : Below p w w5 := hbw4.trans (hb5.mono (by omega))
  have hb35 : Below w3.heap.size w3 w5 := hb4.trans (hb5.mono hs4)
  have hW5 := (unhide HW3).below hb35
  have hk35 := (unhide HW3).keep hb35
  have hl3 := (unhide HW3).lt
  have hro3 := (unhide HW3).row
  have hr5 : rowOf w5 p = rowOf w3 p := rowOf_same (hb35.cell hl3)
  have hV2 : CV w5 p (.agg #[.slice (some ⟨g4, 0, none⟩) 32 32, .slice (some ⟨g5, 0, none⟩) 32 32]) fixD 32 := CV.mk' (fun i hi => by rw [Nat.zero_add]; exact ((unhide HA4).below hb5 i hi).1) hc5 (by omega) (by omega) (by rw [hr5]; omega) (by rw [hr5]; omega)
  have HX := hide (wtokens_any p ([] ++ [(true.toNat, 1), (1, 2)]) ao n cap t _ _ _ _ fixL 288 fixD 32 w5 hW5 (fun w' hb => (unhide HT).below (by rw [← unhide HP]; exact hbw5.trans hb)) ((unhide HB).below hbw5 hn) hn ((unhide HV1).kept hk35) hV2 fix_cod fixD_cod hsh (fun i hi => fix_uses (Tks.tok (hsh i hi) (hb8 i hi))) (by omega) (fixL_le 256).2 (by simp only [List.nil_append, len]; omega))
  have HW5 := hide hW5
  clear HC4 HA4 hc5 hW5 HW3 HV1 hV2 hk35
  go_wp2_with fail
  refine (unhide HX).mono ?_
  rintro e w6 ⟨rfl, hW6, hk6⟩
  have hb6 : Below p w w6 := hbw5.trans (hk6.below (unhide HW5) (Nat.le_refl _))
  rw [fixP_is] at hW6
  have HTX := hide (wtext_any p (fixP t n) w6 hW6)
  clear HX hW6 HW5
  go_wp2_with fail
  refine (unhide HTX).mono ?_
  rintro e w7 ⟨rfl, rfl⟩
  go_wp2
  go_ret
  exact ⟨rfl, by rw [← unhide HP]; exact hb6⟩
end Go.Proofs.YtbbcfghlhgaofadGreatDoor
namespace Go.Proofs.YtbbcfghlhgaofadGreatDoor
open Pm Cn Nf Ps

theorem cpy_copied (out : List UInt8) (back n : Nat) : cpy out back n = copied out back n := by
  induction n with
  | zero => rfl
  | succ n ih => unfold cpy copied; rw [ih]
theorem preO_out (t : Tks) (n : Nat) (h : ∀ i, i < n → t.shaped i) : preO t.b (fun i => (t.l i).toNat) (fun i => (t.d i).toNat) n = t.out n := by
  induction n with
  | zero => rfl
  | succ n ih =>
    have hs := h n (by omega)
    show tokO (preO t.b _ _ n) (t.b n) (t.l n).toNat (t.d n).toNat = if t.l n = 0 then t.out n ++ [UInt8.ofNat (t.b n)] else cpy (t.out n) (t.d n).toNat (t.l n).toNat
    rw [ih (fun i hi => h i (by omega))]
    unfold tokO Tks.shaped at *
    split at hs
    · next e => rw [if_pos (by omega), if_pos e]
    · next e => rw [if_neg (by omega), if_neg e, cpy_copied]

theorem infl_fixed {V nb most n : Nat} {t : Tks} (hsh : ∀ i, i < n → t.shaped i) (hb : ∀ i, i < n → t.b i < 256) (hd : ∀ i, i < n → t.d i ≤ (t.out i).length) (hm : (t.out n).length ≤ most) (hat : At V nb 0 (fixP t n)) : infl V nb most = some (.ok (len (fixP t n)) (t.out n)) := by
  unfold fixP at hat
  obtain ⟨h1, h2⟩ := At.split (Fit.cons (by decide) (Fit.cons (by decide) Fit.nil)) hat
  obtain ⟨h3, h4⟩ := At.cons (by decide) h1
  have e3 := h3.one
  have e4 := h4.one
  simp only [Nat.zero_add] at e3 e4
  have hlen : len [((1 : Nat), 1), ((1 : Nat), 2)] = 3 := rfl
  rw [hlen, Nat.zero_add] at h2
  have hrun := toks_run (most := most) (l1 := fixL) (N1 := 288) (l2 := fixD) (N2 := 32) fix_cod.le fixD_cod.le fix_cod.fit fixD_cod.fit (fun i hi => Tks.tok (hsh i hi) (hb i hi)) (fun i hi => fix_uses (Tks.tok (hsh i hi) (hb i hi))) (fun i hi _ => by
    rw [preO_out t i (fun j hj => hsh j (by omega))]
    have := hd i hi
    omega) (by rw [preO_out t n hsh]; exact hm) (by omega) (fixL_le 256).2 h2
  rw [preO_out t n hsh] at hrun
  unfold infl
  refine run_done ?_
  unfold blockStep
  simp only [Nat.zero_add]
  rw [if_neg (by omega), e4.2]
  unfold blockOf
  rw [if_neg (by omega), if_pos rfl, run_of hrun]
  simp only
  rw [e3.2, if_pos rfl]
  unfold fixP
  rw [len_append (a := [(1, 1), (1, 2)]), hlen]
end Go.Proofs.YtbbcfghlhgaofadGreatDoor
namespace Go.Proofs.YtbbcfghlhgaofadGreatDoor
open Go.RowKit

/-- A byte, or a match. -/
def Shp (b : Nat) (l d : Int) : Prop := if l = 0 then d = 0 else b = 0 ∧ (3 ≤ l ∧ l ≤ 258) ∧ 1 ≤ d ∧ d ≤ 32768
theorem shaped_is (t : Tks) (i : Nat) : t.shaped i ↔ Shp (t.b i) (t.l i) (t.d i) := Iff.rfl
instance (b : Nat) (l d : Int) : Decidable (Shp b l d) := by unfold Shp; infer_instance

theorem ret_bool {a b : Bool} (h : a = b) : Ending.returned (.bool a) = .returned (.bool b) := by rw [h]

set_option maxHeartbeats 2000000 in
theorem shaped_any (b : Nat) (l d : Int) (w : World) :
    Calls Tryz.prog 136 #[.agg #[.int .u8 (b : Int), .int .i64 l, .int .i64 d]] w fun e w' => e = .returned (.bool (decide (Shp b l d))) ∧ Below w.heap.size w w' := by
  have hb : Below w.heap.size w (w.alloc (.cells #[.int .u8 (b : Int), .int .i64 l, .int .i64 d] 51)) := (Below.refl _ _).alloc (Nat.le_refl _) _
  have HB := hide hb
  clear hb
  by_cases h0 : l = 0
  · subst h0
    by_cases h1 : d = 0
    · subst h1
      have HX : Hid (decide (Shp b 0 0) = true) := by show _ = _; simp [Shp]
      go_enter Tryz.func136, Tryz.ntmps136
      go_wp2
      go_ret
      exact ⟨ret_bool (unhide HX).symm, unhide HB⟩
    · have g1 : (d == 0) = false := by simpa using h1
      have HX : Hid (decide (Shp b 0 d) = false) := by show _ = _; simp [Shp, h1]
      go_enter Tryz.func136, Tryz.ntmps136
      go_wp2
      go_ret
      exact ⟨ret_bool (unhide HX).symm, unhide HB⟩
  · have g0 : (l == 0) = false := by simpa using h0
    by_cases hb0 : b = 0
    · subst hb0
      by_cases h1 : 3 ≤ l
      · have e1 : decide (3 ≤ l) = true := by simpa using h1
        have e1' : decide (l ≥ 3) = true := e1
        by_cases h2 : l ≤ 258
        · have e2 : decide (l ≤ 258) = true := by simpa using h2
          by_cases h3 : 1 ≤ d
          · have e3 : decide (1 ≤ d) = true := by simpa using h3
            have e3' : decide (d ≥ 1) = true := e3
            by_cases h4 : d ≤ 32768
            · have e4 : decide (d ≤ 32768) = true := by simpa using h4
              have HX : Hid (decide (Shp 0 l d) = true) := by show _ = _; simp [Shp, h0]; omega
              clear h0 h1 h2 h3 h4
              go_enter Tryz.func136, Tryz.ntmps136
              go_wp2
              go_ret
              exact ⟨ret_bool (unhide HX).symm, unhide HB⟩
            · have e4 : decide (d ≤ 32768) = false := by simpa using h4
              have HX : Hid (decide (Shp 0 l d) = false) := by show _ = _; simp [Shp, h0]; omega
              clear h0 h1 h2 h3 h4
              go_enter Tryz.func136, Tryz.ntmps136
              go_wp2
              go_ret
              exact ⟨ret_bool (unhide HX).symm, unhide HB⟩
          · have e3 : decide (1 ≤ d) = false := by simpa using h3
            have e3' : decide (d ≥ 1) = false := e3
            have HX : Hid (decide (Shp 0 l d) = false) := by show _ = _; simp [Shp, h0]; omega
            clear h0 h1 h2 h3
            go_enter Tryz.func136, Tryz.ntmps136
            go_wp2
            go_ret
            exact ⟨ret_bool (unhide HX).symm, unhide HB⟩
        · have e2 : decide (l ≤ 258) = false := by simpa using h2
          have HX : Hid (decide (Shp 0 l d) = false) := by show _ = _; simp [Shp, h0]; omega
          clear h0 h1 h2
          go_enter Tryz.func136, Tryz.ntmps136
          go_wp2
          go_ret
          exact ⟨ret_bool (unhide HX).symm, unhide HB⟩
      · have e1 : decide (3 ≤ l) = false := by simpa using h1
        have e1' : decide (l ≥ 3) = false := e1
        have HX : Hid (decide (Shp 0 l d) = false) := by show _ = _; simp [Shp, h0]; omega
        clear h0 h1
        go_enter Tryz.func136, Tryz.ntmps136
        go_wp2
        go_ret
        exact ⟨ret_bool (unhide HX).symm, unhide HB⟩
    · have g1 : ((b : Int) == 0) = false := by simp; omega
      have HX : Hid (decide (Shp b l d) = false) := by show _ = _; simp [Shp, h0, hb0]
      clear h0 hb0
      go_enter Tryz.func136, Tryz.ntmps136
      go_wp2
      go_ret
      exact ⟨ret_bool (unhide HX).symm, unhide HB⟩

theorem bytesOf_any (b : Nat) (l d : Int) (w : World) (n : Int) (hn : n = if l = 0 then 1 else l) (hl : 0 ≤ l) :
    Calls Tryz.prog 90 #[.agg #[.int .u8 (b : Int), .int .i64 l, .int .i64 d]] w fun e w' => e = .returned (.int .i64 n) ∧ Below w.heap.size w w' := by
  have hb : Below w.heap.size w (w.alloc (.cells #[.int .u8 (b : Int), .int .i64 l, .int .i64 d] 51)) := (Below.refl _ _).alloc (Nat.le_refl _) _
  have HB := hide hb
  clear hb
  by_cases h0 : l = 0
  · subst h0
    rw [if_pos rfl] at hn
    subst hn
    go_enter Tryz.func90, Tryz.ntmps90
    go_wp2
    go_ret
    exact ⟨rfl, unhide HB⟩
  · rw [if_neg h0] at hn
    subst hn
    have hn1 : 1 ≤ n := by omega
    clear h0
    go_enter Tryz.func90, Tryz.ntmps90
    go_wp2
    all_goals (
      go_ret
      exact ⟨ret_int (by omega), unhide HB⟩)
end Go.Proofs.YtbbcfghlhgaofadGreatDoor
namespace Go.Proofs.YtbbcfghlhgaofadGreatDoor
open Go.RowKit

/-- The first wrong token is told. -/
structure Wrong (w' : World) (n : Nat) (t : Tks) (eS : Value) (i q len : Nat) : Prop where
  lt : i < len
  ahead : ∀ j, j < i → t.good j
  bad : ¬ t.good i
  at_ : w'.cell? ⟨q, 0, none⟩ = some (.int .i64 (i : Int))
  err : w'.cell? ⟨q, 1, none⟩ = some eS
  new : n ≤ q

set_option maxHeartbeats 4000000 in
set_option maxRecDepth 100000 in
theorem measure_any (ao : Option Addr) (len cap : Nat) (t : Tks) (w : World) (uT : TypeId) (uV : Value) (hS : w.cell? ⟨2, 0, none⟩ = some (.iface uT uV)) (hP : IsTokens w ao len t) (hlen : len ≤ 100000)
    (hsm : ∀ i, i ≤ len → (∀ j, j < i → t.good j) → (t.out i).length ≤ 300000) :
    Calls Tryz.prog 94 #[.slice ao len cap] w fun e w' =>
      ((∀ j, j < len → t.good j) ∧ e = .returned (.tuple #[.int .i64 ((t.out len).length : Int), .nilIface]) ∧ Below w.heap.size w w') ∨
      (∃ i q, Wrong w' w.heap.size t (.iface uT uV) i q len ∧ e = .returned (.tuple #[.int .i64 0, .iface 106 (.pointer (some ⟨q, 0, none⟩))]) ∧ Below w.heap.size w w') := by
  have HP := hide hP
  have HSM := hide hsm
  have HS := hide hS
  clear hP hsm hS
  go_enter Tryz.func94, Tryz.ntmps94
  go_wp2
  go_loopw [2, 3, 4, 11] (fun sz _ ov i wr => ∃ k : Nat, k ≤ len ∧ sz = .int .i64 ((t.out k).length : Int) ∧ ov = .int .i64 (len : Int) ∧ i = .int .i64 (k : Int) ∧ Hid (∀ j, j < k → t.good j) ∧ Below w.heap.size w wr) (fun _ _ _ i _ => len - (intOf i).toNat)
  case atStart => exact ⟨0, by omega, rfl, rfl, rfl, fun j hj => by omega, Below.refl _ _⟩
  case round =>
    obtain ⟨k, hk, rfl, rfl, rfl, HG, hb⟩ := hrel
    by_cases hlt : k < len
    · have g1 : decide ((k : Int) < (len : Int)) = true := by simp; omega
      have hki : (k : Int) < (len : Int) := by omega
      have hP1 := (unhide HP).below hb
      rcases hP1 with h0 | ⟨bb, off, rfl, hm, hc⟩
      · omega
      obtain ⟨c0, c1, c2, hb8, ⟨hl1, hl2⟩, ⟨hd1, hd2⟩⟩ := hc k hlt
      have hol := unhide HSM k hk (unhide HG)
      have hok : t.good k ↔ Shp (t.b k) (t.l k) (t.d k) ∧ t.d k ≤ ((t.out k).length : Int) := Iff.rfl
      have hnx : Shp (t.b k) (t.l k) (t.d k) → ((t.out (k + 1)).length : Int) = ((t.out k).length : Int) + (if t.l k = 0 then 1 else t.l k) := fun h => t.out_next h
      have HNX : Hid (t.good k → ∀ j, j < k + 1 → t.good j) := fun h j hj => by
        rcases Nat.lt_or_ge j k with c | c
        · exact unhide HG j c
        · rw [show j = k by omega]; exact h
      have hol2 : t.good k → (t.out (k + 1)).length ≤ 300000 := fun h => unhide HSM (k + 1) (by omega) (unhide HNX h)
      obtain ⟨o1, ho1⟩ : ∃ q, q = (t.out (k + 1)).length := ⟨_, rfl⟩
      have HO1 := hide ho1
      rw [← ho1] at hnx hol2
      obtain ⟨o, ho⟩ : ∃ q, q = (t.out k).length := ⟨_, rfl⟩
      rw [← ho] at hok hnx hol ⊢
      have HOK := hide hok
      obtain ⟨gd, hgd⟩ : ∃ q, q = t.good k := ⟨_, rfl⟩
      have HGD := hide hgd
      rw [← hgd] at hok hol2
      generalize t.b k = b at *
      generalize t.l k = l at *
      generalize t.d k = d at *
      have hba : Below w.heap.size w (wr.alloc (.cells #[.int .u8 (b : Int), .int .i64 l, .int .i64 d] 51)) := hb.alloc hb.size _
      have ca0 : (wr.alloc (.cells #[.int .u8 (b : Int), .int .i64 l, .int .i64 d] 51)).cell? ⟨wr.heap.size, 0, none⟩ = some (.int .u8 (b : Int)) := by simp
      have ca1 : (wr.alloc (.cells #[.int .u8 (b : Int), .int .i64 l, .int .i64 d] 51)).cell? ⟨wr.heap.size, 1, none⟩ = some (.int .i64 l) := by simp
      have ca2 : (wr.alloc (.cells #[.int .u8 (b : Int), .int .i64 l, .int .i64 d] 51)).cell? ⟨wr.heap.size, 2, none⟩ = some (.int .i64 d) := by simp
      have HC : Hid (∀ j w', Below (wr.alloc (.cells #[.int .u8 (b : Int), .int .i64 l, .int .i64 d] 51)).heap.size (wr.alloc (.cells #[.int .u8 (b : Int), .int .i64 l, .int .i64 d] 51)) w' → w'.cell? ⟨wr.heap.size, j, none⟩ = (wr.alloc (.cells #[.int .u8 (b : Int), .int .i64 l, .int .i64 d] 51)).cell? ⟨wr.heap.size, j, none⟩) := fun j w' h => h.cell (by simp)
      clear hc hok hgd ho ho1
      go_wp2_with fail
      refine (shaped_any b l d _).mono ?_
      generalize wr.alloc (.cells #[.int .u8 (b : Int), .int .i64 l, .int .i64 d] 51) = wa at *
      generalize wr.heap.size = p at *
      rintro e w2 ⟨rfl, hb2⟩
      have cb0 := (unhide HC 0 w2 hb2).trans ca0
      have cb1 := (unhide HC 1 w2 hb2).trans ca1
      have cb2 := (unhide HC 2 w2 hb2).trans ca2
      have hbw2 : Below w.heap.size w w2 := hba.trans (hb2.mono hba.size)
      clear ca0 ca1 ca2
      by_cases hshp : Shp b l d
      · have hsd : decide (Shp b l d) = true := by simpa using hshp
        rw [hsd]
        by_cases hbk : d ≤ (o : Int)
        · have e1 : decide ((o : Int) < d) = false := by simp; omega
          have e2 : decide (d > (o : Int)) = false := e1
          have hgk : t.good k := (unhide HOK).2 ⟨hshp, hbk⟩
          have HGK := hide hgk
          have hn := hnx hshp
          have hl0 : 0 ≤ l := by unfold Shp at hshp; split at hshp <;> omega
          obtain ⟨n, hnn⟩ : ∃ n : Int, n = if l = 0 then 1 else l := ⟨_, rfl⟩
          rw [← hnn] at hn
          have ho3 : o1 ≤ 300000 := hol2 (by rw [unhide HGD]; exact hgk)
          have HN := hide hnn
          have d3 : decide ((o1 : Int) > 300000) = false := by simp; omega
          have d4 : decide ((300000 : Int) < (o1 : Int)) = false := d3
          have zn : (o : Int) + n = (o1 : Int) := hn.symm
          have HBY := hide (bytesOf_any b l d w2 n hnn hl0)
          have Hst : Hid (∀ w3, Below w2.heap.size w2 w3 → Below w.heap.size w w3) := fun w3 h => hbw2.trans (h.mono hbw2.size)
          clear hgk hshp hbk hnx hn hnn hol2 hsd
          go_wp2_with fail
          refine (unhide HBY).mono ?_
          rintro e w3 ⟨rfl, hb3⟩
          go_wp2
          go_roundw
          case rel => exact ⟨k + 1, by omega, by rw [← unhide HO1], rfl, by go_num, unhide HNX (unhide HGK), unhide Hst w3 hb3⟩
          case measure => simp [intOf]; omega
        · have e1 : decide ((o : Int) < d) = true := by simp; omega
          have e2 : decide (d > (o : Int)) = true := e1
          have HGK : Hid (¬ t.good k) := fun h => hbk ((unhide HOK).1 h).2
          have cS := (hbw2.cell (p := ⟨2, 0, none⟩) (World.block_lt_of_cell? _ _ (unhide HS))).trans (unhide HS)
          have HB2 := hide hbw2
          clear hshp hbk hnx hol2 hsd hbw2
          go_wp2
          go_region
          all_goals (
            go_wp2
            go_ret2
            exact .inr ⟨k, _, ⟨hlt, unhide HG, unhide HGK, by simp, by simp, by have := (unhide HB2).size; simp; omega⟩, rfl, ((unhide HB2).drew.alloc (by have := (unhide HB2).size; simp; omega) _)⟩)
      · have hsd : decide (Shp b l d) = false := by simpa using hshp
        rw [hsd]
        have HGK : Hid (¬ t.good k) := fun h => hshp ((unhide HOK).1 h).1
        have cS := (hbw2.cell (p := ⟨2, 0, none⟩) (World.block_lt_of_cell? _ _ (unhide HS))).trans (unhide HS)
        have HB2 := hide hbw2
        clear hshp hnx hol2 hsd hbw2
        go_wp2
        go_region
        all_goals (
          go_wp2
          go_ret2
          exact .inr ⟨k, _, ⟨hlt, unhide HG, unhide HGK, by simp, by simp, by have := (unhide HB2).size; simp; omega⟩, rfl, ((unhide HB2).drew.alloc (by have := (unhide HB2).size; simp; omega) _)⟩)
    · have : k = len := by omega
      subst this
      have g1 : decide ((k : Int) < (k : Int)) = false := by simp
      go_wp2
      go_ret2
      exact .inl ⟨unhide HG, rfl, hb⟩
end Go.Proofs.YtbbcfghlhgaofadGreatDoor
