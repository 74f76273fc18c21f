/- Walks of the writer of blocks: codes, the fixed block. Results that lie in cells. Walks: used lengths, the best code of counts, the order of lengths of lengths. Walks: the code of a row's steps. Walks: lengths of lengths in their order. -/
import Derived.Test.YtfeljhikeddodadGreatDoorMg18
import Derived.Laws.ResultCell
import Derived.Test.YtfeljhikeddodadGreatDoorMg1
import Derived.Test.YtfeljhikeddodadGreatDoorMg6
import Derived.Test.YtfeljhikeddodadGreatDoorMg16
namespace Go.Proofs.YtfeljhikeddodadGreatDoor
open Go.RowKit Pm Cn Nf Ps

set_option maxHeartbeats 1000000 in
theorem codeOf_any (b o cap N : Nat) (l : Nat → Nat) (v1 v2 : Value) (w : World) (hP : IsInts w (some ⟨b, o, none⟩) N (zl l)) (hN : N ≤ 300)
    (h1 : w.cell? ⟨0, 0, none⟩ = some v1) (h2 : w.cell? ⟨2, 0, none⟩ = some v2) (hle : ∀ i, i < N → l i ≤ 15) (hr : Right l N) :
    Calls Tryz.prog 64 #[.slice (some ⟨b, o, none⟩) N cap] w fun e w' => ∃ g, e = .returned (.agg #[.slice (some ⟨b, o, none⟩) N cap, .slice (some ⟨g, 0, none⟩) N N]) ∧ (∀ i, i < N → w'.cell? ⟨g, i, none⟩ = some (.int .u32 (code l N i : Nat))) ∧ w.heap.size ≤ g ∧ Below w.heap.size w w' := by
  have ba : Below w.heap.size w (w.alloc (.cells #[.slice none 0 0, .slice none 0 0] 101)) := (Below.refl _ _).alloc (Nat.le_refl _) _
  have hsz : (w.alloc (.cells #[.slice none 0 0, .slice none 0 0] 101)).heap.size = w.heap.size + 1 := by simp
  have hnb : ¬ Bad (zl l) N := fun h => by
    rcases h with h | ⟨i, hi, h⟩
    · omega
    · have := hle i hi; unfold zl at h; omega
  have HC := hide (codes_right (some ⟨b, o, none⟩) N cap (zl l) v1 v2 (w.alloc (.cells #[.slice none 0 0, .slice none 0 0] 101)) (hP.below ba) hN ((ba.cell (World.block_lt_of_cell? _ _ h1)).trans h1) ((ba.cell (World.block_lt_of_cell? _ _ h2)).trans h2) hnb (by rw [nat_zl]; exact hr))
  rw [nat_zl] at HC
  have cB0 : (w.alloc (.cells #[.slice none 0 0, .slice none 0 0] 101)).cell? ⟨w.heap.size, 0, none⟩ = some (.slice none 0 0) := by simp
  have cB1 : (w.alloc (.cells #[.slice none 0 0, .slice none 0 0] 101)).cell? ⟨w.heap.size, 1, none⟩ = some (.slice none 0 0) := by simp
  have fB0 : (w.alloc (.cells #[.slice none 0 0, .slice none 0 0] 101)).frozen? ⟨w.heap.size, 0, none⟩ = false := by simp
  have fB1 : (w.alloc (.cells #[.slice none 0 0, .slice none 0 0] 101)).frozen? ⟨w.heap.size, 1, none⟩ = false := by simp
  have HF := hide (And.intro (And.intro cB0 cB1) (And.intro fB0 fB1))
  clear hP h1 h2 hnb hr cB0 cB1 fB0 fB1
  go_enter Tryz.func64, Tryz.ntmps64
  go_wp2_with fail
  generalize hB : w.heap.size = B at *
  generalize w.alloc (.cells #[.slice none 0 0, .slice none 0 0] 101) = w0 at *
  refine (unhide HC).mono ?_
  rintro e w1 ⟨g, rfl, hown, hb1⟩
  have hBl : B < w0.heap.size := by omega
  have k0 := (hb1.cell (p := ⟨B, 0, none⟩) hBl).trans (unhide HF).1.1
  have k1 := (hb1.cell (p := ⟨B, 1, none⟩) hBl).trans (unhide HF).1.2
  have f0 := (hb1.frozen (p := ⟨B, 0, none⟩) hBl).trans (unhide HF).2.1
  have f1 := (hb1.frozen (p := ⟨B, 1, none⟩) hBl).trans (unhide HF).2.2
  have hg := (hown.lt g rfl).1
  have hcells : ∀ i, i < N → w1.cell? ⟨g, i, none⟩ = some (.int .u32 (code l N i : Nat)) := fun i hi => by rw [hown.cellAt i (by omega), u32Vals_at _ _ _ hi]
  have HR : Hid (∀ x y : Value, (∀ i, i < N → ((w1.setCell ⟨B, 0, none⟩ x).setCell ⟨B, 1, none⟩ y).cell? ⟨g, i, none⟩ = some (.int .u32 (code l N i : Nat))) ∧ Below B w ((w1.setCell ⟨B, 0, none⟩ x).setCell ⟨B, 1, none⟩ y)) := fun x y => by
    refine ⟨fun i hi => ?_, ((ba.trans (hb1.mono (by omega))).setCell (p := ⟨B, 0, none⟩) (Nat.le_refl _) x).setCell (p := ⟨B, 1, none⟩) (Nat.le_refl _) y⟩
    rw [World.cell?_setCell_other _ _ _ _ (by intro q; injection q with q _; omega), World.cell?_setCell_other _ _ _ _ (by intro q; injection q with q _; omega)]
    exact hcells i hi
  have hgB : B ≤ g := by omega
  clear HC HF hown hb1 hcells
  go_wp2
  refine bodyPost_ret (v := .agg #[.slice (some ⟨b, o, none⟩) N cap, .slice (some ⟨g, 0, none⟩) N N]) ?_ rfl ⟨g, rfl, (unhide HR _ _).1, by omega, by rw [hB]; exact (unhide HR _ _).2⟩
  rw [results_cellB (p := 2) (ty := 101) (by kernel_rfl)]
  go_simp
/-- Lengths and words in memory: a code, as a value. -/
theorem CV.mk' {w : World} {p N b1 o1 c1 b2 c2 : Nat} {l : Nat → Nat} (h1 : ∀ i, i < N → w.cell? ⟨b1, o1 + i, none⟩ = some (.int .i64 (l i : Nat))) (h2 : ∀ i, i < N → w.cell? ⟨b2, i, none⟩ = some (.int .u32 (code l N i : Nat))) (hN : 0 < N) (hN3 : N ≤ 300) (a1 : b1 ≠ p ∧ b1 ≠ rowOf w p) (a2 : b2 ≠ p ∧ b2 ≠ rowOf w p) :
    CV w p (.agg #[.slice (some ⟨b1, o1, none⟩) N c1, .slice (some ⟨b2, 0, none⟩) N c2]) l N :=
  ⟨⟨b1, o1, c1, b2, 0, c2, rfl, h1, fun i hi => by rw [Nat.zero_add]; exact h2 i hi, a1, a2⟩, hN, hN3⟩
theorem fix_cod : Cod fixL 288 := ⟨fun i _ => (fixL_le i).1, by rw [all_fixL]; decide⟩
theorem fixD_cod : Cod fixD 32 := ⟨fun i _ => by unfold fixD; omega, by decide +kernel⟩
theorem fix_uses {b L D : Nat} (h : Tok b L D) : Uses fixL 288 fixD 32 b L D := by
  unfold Tok Uses at *
  split
  · next e => rw [if_pos e] at h; exact ⟨by omega, (fixL_le b).2⟩
  · next e =>
    rw [if_neg e] at h
    have h1 := (pl_lens h.1).1
    have h2 := (pl_dists h.2).1
    exact ⟨⟨by omega, (fixL_le _).2⟩, by omega, by unfold fixD; omega⟩
theorem Tks.tok {t : Tks} {i : Nat} (h : t.shaped i) (hb : t.b i < 256) : Tok (t.b i) (t.l i).toNat (t.d i).toNat := by
  unfold Tks.shaped at h
  unfold Tok
  split at h
  · next e => rw [if_pos (by omega)]; exact hb
  · next e => rw [if_neg (by omega)]; omega
/-- The pieces of a fixed block. -/
def fixP (t : Tks) (n : Nat) : List Pc := [(1, 1), (1, 2)] ++ (preP (word fixL 288) (word fixD 32) t.b (fun i => (t.l i).toNat) (fun i => (t.d i).toNat) n ++ [word fixL 288 256])
theorem fixP_is (t : Tks) (n : Nat) : ([] ++ [(true.toNat, 1), (1, 2)]) ++ (preP (word fixL 288) (word fixD 32) t.b (fun i => (t.l i).toNat) (fun i => (t.d i).toNat) n ++ [word fixL 288 256]) = fixP t n := by
  unfold fixP; rw [List.nil_append]; rfl
set_option maxHeartbeats 4000000 in
set_option maxRecDepth 100000 in
theorem fixed_any (s : ByteArray) (ao : Option Addr) (n cap : Nat) (t : Tks) (v1 v2 : Value) (w : World) (hT : IsTokens w ao n t) (hB : Bl w) (hn : 12 ≤ w.heap.size)
    (h1 : w.cell? ⟨0, 0, none⟩ = some v1) (h2 : w.cell? ⟨2, 0, none⟩ = some v2) (hsh : ∀ i, i < n → t.shaped i) (hc : 48 * n + 300 ≤ 4000000) :
    Calls Tryz.prog 24 #[.string s, .slice ao n cap] w fun e w' => e = .returned (.string (textP (fixP t n))) ∧ Below w.heap.size w w' := by
  have hb8 : ∀ i, i < n → t.b i < 256 := fun i hi => by
    rcases hT with h | ⟨b, off, _, _, h⟩
    · omega
    · exact (h i hi).2.2.2.1
  have ba : Below w.heap.size w (w.alloc (.cells #[.slice none 0 0, .int .i64 0] 96)) := (Below.refl _ _).alloc (Nat.le_refl _) _
  have hW0 := new_writer2 w
  have HH : Hid (Calls Tryz.prog 62 #[.pointer (some ⟨w.heap.size, 0, none⟩), .bool true, .int .i64 1] (w.alloc (.cells #[.slice none 0 0, .int .i64 0] 96)) fun e w' => e = .returned (.tuple #[]) ∧ WP w' w.heap.size ([] ++ [(true.toNat, 1), (1, 2)]) ∧ Kept w.heap.size (w.alloc (.cells #[.slice none 0 0, .int .i64 0] 96)) w') := whead_any w.heap.size [] true 1 _ hW0 (by omega) (by simp [len])
  have HK0 : Hid (∀ w', Kept w.heap.size (w.alloc (.cells #[.slice none 0 0, .int .i64 0] 96)) w' → Below w.heap.size w w') := fun w' hk => ba.trans (hk.below hW0 (Nat.le_refl _))
  have HT := hide hT
  have HB := hide hB
  have H1 := hide h1
  have H2 := hide h2
  clear hW0 hT hB h1 h2 ba
  go_enter Tryz.func24, Tryz.ntmps24
  go_wp2_with fail
  obtain ⟨p, hp⟩ : ∃ p, p = w.heap.size := ⟨_, rfl⟩
  rw [← hp] at HH HK0 hn ⊢
  have HP := hide hp
  clear hp
  refine (unhide HH).mono ?_
  rintro e w1 ⟨rfl, hW1, hk1⟩
  have hbw1 := unhide HK0 w1 hk1
  generalize w.alloc (.cells #[.slice none 0 0, .int .i64 0] 96) = w0 at *
  clear HH
  go_wp2_with fail
  refine (fixedSymbols_any w1).mono ?_
  rintro e w2 ⟨g2, rfl, hA2, hg2, hb2⟩
  have hs2 := hb2.size
  have hlp := hW1.lt
  have hrp := hW1.row
  have hbw2 : Below p w w2 := hbw1.trans (hb2.mono (by omega))
  have HC2 := hide (codeOf_any g2 0 288 288 fixL v1 v2 w2 (hA2.ints (by omega) (fun i _ => (fixL_le i).1)) (by omega) ((hbw2.cell (by rw [unhide HP]; exact World.block_lt_of_cell? _ _ (unhide H1))).trans (unhide H1)) ((hbw2.cell (by rw [unhide HP]; exact World.block_lt_of_cell? _ _ (unhide H2))).trans (unhide H2)) (fun i _ => (fixL_le i).1) (.inr (.inr all_fixL)))
  have HA2 := hide hA2
  have HW1 := hide hW1
  clear hA2 hW1
  go_wp2_with fail
  refine (unhide HC2).mono ?_
  rintro e w3 ⟨g3, rfl, hc3, hg3, hb3⟩
  have hs3 := hb3.size
  have hbw3 : Below p w w3 := hbw2.trans (hb3.mono (by omega))
  have hb13 : Below w1.heap.size w1 w3 := hb2.trans (hb3.mono hs2)
  have hW3 := (unhide HW1).below hb13
  have hr3 : rowOf w3 p = rowOf w1 p := rowOf_same (hb13.cell hlp)
  have HV1 : Hid (CV w3 p (.agg #[.slice (some ⟨g2, 0, none⟩) 288 288, .slice (some ⟨g3, 0, none⟩) 288 288]) fixL 288) := CV.mk' (fun i hi => by rw [Nat.zero_add]; exact ((unhide HA2).below hb3 i hi).1) hc3 (by omega) (by omega) (by rw [hr3]; omega) (by rw [hr3]; omega)
  have HW3 := hide hW3
  clear HC2 HA2 hc3 hW3 HW1 hb13 hr3
  go_wp2_with fail
  refine (fixedDistances_any w3).mono ?_
  rintro e w4 ⟨g4, rfl, hA4, hg4, hb4⟩
  have hs4 := hb4.size
  have hbw4 : Below p w w4 := hbw3.trans (hb4.mono (by omega))
  have HC4 := hide (codeOf_any g4 0 32 32 fixD v1 v2 w4 (hA4.ints (by omega) (fun i _ => by unfold fixD; omega)) (by omega) ((hbw4.cell (by rw [unhide HP]; exact World.block_lt_of_cell? _ _ (unhide H1))).trans (unhide H1)) ((hbw4.cell (by rw [unhide HP]; exact World.block_lt_of_cell? _ _ (unhide H2))).trans (unhide H2)) (fun i _ => by unfold fixD; omega) (.inr (.inr (by decide +kernel))))
  have HA4 := hide hA4
  clear hA4
  go_wp2_with fail
  refine (unhide HC4).mono ?_
  rintro e w5 ⟨g5, rfl, hc5, hg5, hb5⟩
  have hs5 := hb5.size
  have hbw5 : Below p w w5 := hbw4.trans (hb5.mono (by omega))
  have hb35 : Below w3.heap.size w3 w5 := hb4.trans (hb5.mono hs4)
  have hW5 := (unhide HW3).below hb35
  have hk35 := (unhide HW3).keep hb35
  have hl3 := (unhide HW3).lt
  have hro3 := (unhide HW3).row
  have hr5 : rowOf w5 p = rowOf w3 p := rowOf_same (hb35.cell hl3)
  have hV2 : CV w5 p (.agg #[.slice (some ⟨g4, 0, none⟩) 32 32, .slice (some ⟨g5, 0, none⟩) 32 32]) fixD 32 := CV.mk' (fun i hi => by rw [Nat.zero_add]; exact ((unhide HA4).below hb5 i hi).1) hc5 (by omega) (by omega) (by rw [hr5]; omega) (by rw [hr5]; omega)
  have HX := hide (wtokens_any p ([] ++ [(true.toNat, 1), (1, 2)]) ao n cap t _ _ _ _ fixL 288 fixD 32 w5 hW5 (fun w' hb => (unhide HT).below (by rw [← unhide HP]; exact hbw5.trans hb)) ((unhide HB).below hbw5 hn) hn ((unhide HV1).kept hk35) hV2 fix_cod fixD_cod hsh (fun i hi => fix_uses (Tks.tok (hsh i hi) (hb8 i hi))) (by omega) (fixL_le 256).2 (by simp only [List.nil_append, len]; omega))
  have HW5 := hide hW5
  clear HC4 HA4 hc5 hW5 HW3 HV1 hV2 hk35
  go_wp2_with fail
  refine (unhide HX).mono ?_
  rintro e w6 ⟨rfl, hW6, hk6⟩
  have hb6 : Below p w w6 := hbw5.trans (hk6.below (unhide HW5) (Nat.le_refl _))
  rw [fixP_is] at hW6
  have HTX := hide (wtext_any p (fixP t n) w6 hW6)
  clear HX hW6 HW5
  go_wp2_with fail
  refine (unhide HTX).mono ?_
  rintro e w7 ⟨rfl, rfl⟩
  go_wp2
  go_ret
  exact ⟨rfl, by rw [← unhide HP]; exact hb6⟩
end Go.Proofs.YtfeljhikeddodadGreatDoor
namespace Go.Proofs.YtfeljhikeddodadGreatDoor
open Go.RowKit

theorem results_c {fn : Func} {p : Tmp} {ty : TypeId} (h : fn.results = #[.cell p ty]) (tmps : Array Value) (P : Program) (w : World) :
    (results fn tmps).run P w = ((asAddr (tmps.getD p undef)).run P w).andThen fun a w₁ => (loadVar ty a).run P w₁ := by
  simp only [results, h]
  simp [Sem.run_bind, Result.andThen]
end Go.Proofs.YtfeljhikeddodadGreatDoor
namespace Go.Proofs.YtfeljhikeddodadGreatDoor
open Go.RowKit Ps Nf Pm Cn

set_option maxHeartbeats 2000000 in
/-- Without those of no word at the end. -/
theorem dused_any (b o N cap least : Nat) (l : Nat → Nat) (w : World) (hP : ∀ i, i < N → w.cell? ⟨b, o + i, none⟩ = some (.int .i64 (l i : Int))) (hl : least ≤ N) (hNc : N ≤ cap) (hcm : cap ≤ maxLen) :
    Calls Tryz.prog 80 #[.slice (some ⟨b, o, none⟩) N cap, .int .i64 (least : Int)] w fun e w' => ∃ n : Nat, e = .returned (.slice (some ⟨b, o, none⟩) n cap) ∧ least ≤ n ∧ n ≤ N ∧ (∀ j, n ≤ j → j < N → l j = 0) ∧ w' = w := by
  unfold maxLen at hcm
  go_enter Tryz.func80, Tryz.ntmps80
  go_wp2
  go_loop [5] (fun v => ∃ n : Nat, least ≤ n ∧ n ≤ N ∧ v = .int .i64 (n : Int) ∧ Hid (∀ j, n ≤ j → j < N → l j = 0)) (fun v => (intOf v).toNat)
  case atStart => exact ⟨N, hl, Nat.le_refl _, rfl, fun j h1 h2 => by omega⟩
  case round =>
    obtain ⟨n, hn1, hn2, rfl, HZ⟩ := hrel
    by_cases hlt : least < n
    · have d1 : decide ((n : Int) > (least : Int)) = true := decide_eq_true (by omega)
      have d1' : decide ((least : Int) < (n : Int)) = true := d1
      have d1n : decide (least < n) = true := decide_eq_true hlt
      obtain ⟨n1, hn1'⟩ : ∃ q, q = n - 1 := ⟨_, rfl⟩
      have z1 : (n : Int) - 1 = (n1 : Int) := by omega
      have c1 := hP n1 (by omega)
      have hni : (n1 : Int) < (N : Int) := by omega
      obtain ⟨x, hx⟩ : ∃ x, x = l n1 := ⟨_, rfl⟩
      rw [← hx] at c1
      by_cases h0 : x = 0
      · have g1 : ((x : Int) == 0) = true := by rw [h0]; rfl
        have HZ2 : Hid (∀ j, n1 ≤ j → j < N → l j = 0) := fun j h1 h2 => by
          by_cases e : j = n1
          · subst e; rw [← hx]; exact h0
          · exact unhide HZ j (by omega) h2
        have hle1 : least ≤ n1 := by omega
        have hlN : n1 ≤ N := by omega
        have hnn : n1 < n := by omega
        clear hx hn1' hP h0
        go_wp2
        go_round
        case rel => exact ⟨n1, hle1, hlN, rfl, HZ2⟩
        case measure => simp [intOf]; omega
      · have g1 : ((x : Int) == 0) = false := by rw [beq_eq_false_iff_ne]; omega
        have hni2 : (n : Int) ≤ (N : Int) := by omega
        have hnc : (n : Int) ≤ (cap : Int) := by omega
        have hncn : n ≤ cap := by omega
        clear hx hn1' hP
        go_wp2
        go_ret
        exact ⟨n, rfl, by omega, hn2, unhide HZ, rfl⟩
    · have d1 : decide ((n : Int) > (least : Int)) = false := decide_eq_false (by omega)
      have d1' : decide ((least : Int) < (n : Int)) = false := d1
      have d1n : decide (least < n) = false := decide_eq_false hlt
      have hncn : n ≤ cap := by omega
      have hnc : (n : Int) ≤ (cap : Int) := by omega
      clear hP
      go_wp2
      go_ret
      exact ⟨n, rfl, by omega, hn2, unhide HZ, rfl⟩
/-- A code of its own in memory: lengths and words, from a block on. -/
structure Cv (w : World) (B : Nat) (v : Value) (l : Nat → Nat) (N : Nat) : Prop where
  is : ∃ b1 b2, v = .agg #[.slice (some ⟨b1, 0, none⟩) N N, .slice (some ⟨b2, 0, none⟩) N N] ∧ B ≤ b1 ∧ B ≤ b2 ∧
    (∀ i, i < N → w.cell? ⟨b1, i, none⟩ = some (.int .i64 (l i : Int))) ∧ (∀ i, i < N → w.cell? ⟨b2, i, none⟩ = some (.int .u32 (code l N i : Nat)))
theorem Cv.below {w w' : World} {B N : Nat} {v : Value} {l : Nat → Nat} (h : Cv w B v l N) (hN : 0 < N) (hb : Below w.heap.size w w') : Cv w' B v l N := by
  obtain ⟨b1, b2, hv, h1, h2, h3, h4⟩ := h.is
  have g1 := World.block_lt_of_cell? _ _ (h3 0 hN)
  have g2 := World.block_lt_of_cell? _ _ (h4 0 hN)
  exact ⟨⟨b1, b2, hv, h1, h2, fun i hi => (hb.cell (p := ⟨b1, i, none⟩) g1).trans (h3 i hi), fun i hi => (hb.cell (p := ⟨b2, i, none⟩) g2).trans (h4 i hi)⟩⟩
/-- What counts must be, and the best lengths of them. -/
structure Bst (z l : Nat → Nat) (N most : Nat) : Prop where
  le : ∀ i, i < N → l i ≤ most
  same : ∀ i, i < N → (0 < l i ↔ 0 < z i)
  right : Right l N
  good : ∃ y, GoodL (fun i => (z i : Int)) y N most ∧ l = nat y
set_option maxHeartbeats 2000000 in
theorem dbest_any (ao : Option Addr) (N cap most : Nat) (z : Nat → Nat) (v1 v2 : Value) (w : World) (hP : IsInts w ao N (fun i => (z i : Int))) (hN : N ≤ 300) (hN0 : 0 < N) (hm1 : 1 ≤ most) (hm : most ≤ 15) (hz : ∀ i, i < N → z i ≤ 1048576) (hn : N ≤ 2 ^ most)
    (h1 : w.cell? ⟨0, 0, none⟩ = some v1) (h2 : w.cell? ⟨2, 0, none⟩ = some v2) :
    Calls Tryz.prog 118 #[.slice ao N cap, .int .i64 (most : Int)] w fun e w' => ∃ v l, e = .returned v ∧ Cv w' w.heap.size v l N ∧ Bst z l N most ∧ Below w.heap.size w w' := by
  have hb0 : Below w.heap.size w (w.alloc (.cells #[.slice none 0 0, .slice none 0 0] 101)) := (Below.refl _ _).alloc (Nat.le_refl _) _
  have l1 := World.block_lt_of_cell? _ _ h1
  have l2 := World.block_lt_of_cell? _ _ h2
  simp only at l1 l2
  have hsy : (syms (fun i => (z i : Int)) N).length ≤ N := by
    unfold syms
    exact Nat.le_trans (List.length_filter_le _ _) (by simp)
  have HX := hide (lengths_good ao N cap most (fun i => (z i : Int)) (w.alloc (.cells #[.slice none 0 0, .slice none 0 0] 101)) (hP.below hb0) hN hm1 hm (fun i hi => by
    have := hz i hi
    unfold badC
    simp only [Bool.or_eq_false_iff, decide_eq_false_iff_not]
    omega) (Nat.le_trans hsy hn))
  have f0 : (w.alloc (.cells #[.slice none 0 0, .slice none 0 0] 101)).heap[w.heap.size]? = some (.cells #[.slice none 0 0, .slice none 0 0] 101) := heap_alloc_new _ _
  have hsz : (w.alloc (.cells #[.slice none 0 0, .slice none 0 0] 101)).heap.size = w.heap.size + 1 := by simp
  have HS1 := hide ((hb0.cell (p := ⟨0, 0, none⟩) l1).trans h1)
  have HS2 := hide ((hb0.cell (p := ⟨2, 0, none⟩) l2).trans h2)
  have HB0 := hide hb0
  have F0 := hide f0
  obtain ⟨gp, hgp⟩ : ∃ q, q = w.heap.size := ⟨_, rfl⟩
  have Hgp := hide hgp
  rw [← hgp] at hsz HB0 F0
  clear hb0 f0 h1 h2 hsy hP hz
  go_enter Tryz.func118, Tryz.ntmps118
  go_wp2_with fail
  refine (unhide HX).mono ?_
  rw [← hgp] at l1 l2 ⊢
  generalize w.alloc (.cells #[.slice none 0 0, .slice none 0 0] 101) = w0 at *
  rintro e w1 ⟨g, y, rfl, hown, hG, hb1⟩
  clear HX hgp
  obtain ⟨l, hl⟩ : ∃ l, l = nat y := ⟨_, rfl⟩
  have hy : ∀ i, i < N → y i = (l i : Int) := fun i hi => by rw [hl]; unfold nat; have := (hG.low i hi).1; omega
  have hcell : ∀ i, i < N → w1.cell? ⟨g, i, none⟩ = some (.int .i64 (l i : Int)) := fun i hi => by rw [own_int hown i hi, hy i hi]
  have hg0 : gp + 1 ≤ g := by have := (own_inS hown g rfl).1; omega
  have hgl : g < w1.heap.size := (own_inS hown g rfl).2
  have hle : ∀ i, i < N → l i ≤ most := fun i hi => by have := (hG.low i hi).2; have := hy i hi; omega
  have hr : Right l N := by rw [hl]; exact hG.right
  have HBST : Hid (Bst z l N most) := ⟨hle, fun i hi => by have h3 := hG.same i hi; rw [hy i hi] at h3; constructor <;> intro h4 <;> omega, hr, y, hG, hl⟩
  have hI : IsInts w1 (some ⟨g, 0, none⟩) N (zl l) := .inr ⟨g, 0, rfl, by unfold maxLen; omega, fun i hi => ⟨by rw [Nat.zero_add]; exact hcell i hi, by have := hle i hi; unfold zl; omega, by have := hle i hi; unfold zl; omega⟩⟩
  have S1 := hide ((hb1.cell (p := ⟨0, 0, none⟩) (show _ < _ by simp only; omega)).trans (unhide HS1))
  have S2 := hide ((hb1.cell (p := ⟨2, 0, none⟩) (show _ < _ by simp only; omega)).trans (unhide HS2))
  have HX := hide (codeOf_any g 0 N N l v1 v2 w1 hI hN (unhide S1) (unhide S2) (fun i hi => by have := hle i hi; omega) hr)
  have F1 := hide ((hb1.block gp (by omega)).trans (unhide F0))
  have HB1 := hide ((unhide HB0).trans (hb1.mono (by omega)))
  have HC1 := hide hcell
  have hs1 : gp + 1 ≤ w1.heap.size := by omega
  clear hown hG hb1 hy hcell hle hr hI S1 S2 HS1 HS2 F0 HB0 hl
  go_wp2_with fail
  refine (unhide HX).mono ?_; rintro e w2 ⟨g2, rfl, hc2, hg2, hb2⟩
  have F2 := hide ((hb2.block gp (by omega)).trans (unhide F1))
  have HB2 := hide ((unhide HB1).trans (hb2.mono (by omega)))
  have HC2 : Hid (∀ i, i < N → w2.cell? ⟨g, i, none⟩ = some (.int .i64 (l i : Int))) := fun i hi => (hb2.cell (p := ⟨g, i, none⟩) hgl).trans (unhide HC1 i hi)
  have HD2 := hide hc2
  have hg2n : gp + 1 ≤ g2 := by omega
  have c0 : w2.cell? ⟨gp, 0, none⟩ = some (.slice none 0 0) := by simp only [World.cell?, unhide F2]; rfl
  have c1 : w2.cell? ⟨gp, 1, none⟩ = some (.slice none 0 0) := by simp only [World.cell?, unhide F2]; rfl
  have z0 : w2.frozen? ⟨gp, 0, none⟩ = false := by simp only [World.frozen?, unhide F2]; simp
  have z1 : w2.frozen? ⟨gp, 1, none⟩ = false := by simp only [World.frozen?, unhide F2]; simp
  clear HX hc2 hb2 HC1 F1 HB1 hg2
  have HF : Hid (∃ v l, (Ending.returned (.agg #[.slice (some ⟨g, 0, none⟩) N N, .slice (some ⟨g2, 0, none⟩) N N]) : Ending) = .returned v ∧ Cv ((w2.setCell ⟨gp, 0, none⟩ (.slice (some ⟨g, 0, none⟩) N N)).setCell ⟨gp, 1, none⟩ (.slice (some ⟨g2, 0, none⟩) N N)) gp v l N ∧ Bst z l N most ∧ Below gp w ((w2.setCell ⟨gp, 0, none⟩ (.slice (some ⟨g, 0, none⟩) N N)).setCell ⟨gp, 1, none⟩ (.slice (some ⟨g2, 0, none⟩) N N))) := by
    refine ⟨_, l, rfl, ⟨⟨g, g2, rfl, by omega, by omega, fun i hi => ?_, fun i hi => ?_⟩⟩, unhide HBST, ((unhide HB2).setCell (p := ⟨gp, 0, none⟩) (Nat.le_refl _) _).setCell (p := ⟨gp, 1, none⟩) (Nat.le_refl _) _⟩
    · rw [World.cell?_setCell_other _ _ _ _ (fun q => by injection q with q _; omega), World.cell?_setCell_other _ _ _ _ (fun q => by injection q with q _; omega)]
      exact unhide HC2 i hi
    · rw [World.cell?_setCell_other _ _ _ _ (fun q => by injection q with q _; omega), World.cell?_setCell_other _ _ _ _ (fun q => by injection q with q _; omega)]
      exact unhide HD2 i hi
  go_wp2
  refine bodyPost_ret (v := .agg #[.slice (some ⟨g, 0, none⟩) N N, .slice (some ⟨g2, 0, none⟩) N N]) ?_ rfl (by rw [← unhide Hgp]; exact unhide HF)
  rw [results_c (p := 4) (ty := 101) (by kernel_rfl)]
  go_simp
end Go.Proofs.YtfeljhikeddodadGreatDoor
namespace Go.Proofs.YtfeljhikeddodadGreatDoor
open Go.RowKit Ps Nf Pm Cn

/-- An array of numbers at a block of a call's own. -/
structure Nr (w : World) (g n : Nat) (f : Nat → Nat) : Prop where
  cell : ∀ j, j < n → w.cell? ⟨g, j, none⟩ = some (.int .i64 (f j : Int))
  free : ∀ j, j < n → w.frozen? ⟨g, j, none⟩ = false
  lt : g < w.heap.size
theorem Nr.set {w : World} {g n : Nat} {f : Nat → Nat} (h : Nr w g n f) (j v : Nat) (hj : j < n) : Nr (w.setCell ⟨g, j, none⟩ (.int .i64 (v : Int))) g n (fun i => if i = j then v else f i) := by
  refine ⟨fun i hi => ?_, fun i hi => ?_, by have := h.lt; simpa [World.setCell] using this⟩
  · by_cases e : i = j
    · subst e
      have hc := h.cell i hj
      rw [if_pos rfl]
      simp [go_sem, hc]
    · rw [if_neg e]
      rw [World.cell?_setCell_other _ _ _ _ (fun q => e (by injection q with _ q; exact q.symm))]
      exact h.cell i hi
  · have := h.free i hi
    simp [go_sem, this]
theorem Nr.keep {w w' : World} {g n : Nat} {f : Nat → Nat} (h : Nr w g n f) (hb : w'.heap[g]? = w.heap[g]?) (hs : w.heap.size ≤ w'.heap.size) : Nr w' g n f :=
  ⟨fun j hj => (World.cell?_of_block (a := ⟨g, j, none⟩) hb).trans (h.cell j hj), fun j hj => (World.frozen?_of_block (a := ⟨g, j, none⟩) hb).trans (h.free j hj), Nat.lt_of_lt_of_le h.lt hs⟩
theorem Nr.congr {w : World} {g n : Nat} {f f' : Nat → Nat} (h : Nr w g n f) (he : ∀ j, j < n → f j = f' j) : Nr w g n f' :=
  ⟨fun j hj => by rw [← he j hj]; exact h.cell j hj, h.free, h.lt⟩
theorem Nr.new (w : World) (n : Nat) (t : TypeId) : Nr (w.alloc (.cells (Array.replicate n (.int .i64 0)) t)) w.heap.size n (fun _ => 0) := by
  have h2 := heap_alloc_new w (.cells (Array.replicate n (.int .i64 0)) t)
  refine ⟨fun j hj => ?_, fun j _ => ?_, by simp⟩
  · simp only [World.cell?, h2]
    rw [Array.getElem?_replicate, if_pos hj]
    rfl
  · simp only [World.frozen?, h2]
    simp
theorem Nr.ints {w : World} {g n : Nat} {f : Nat → Nat} (h : Nr w g n f) (hn : n ≤ 100000) (hf : ∀ j, j < n → f j ≤ 1048576) : IsInts w (some ⟨g, 0, none⟩) n (fun i => (f i : Int)) :=
  .inr ⟨g, 0, rfl, by unfold maxLen; omega, fun i hi => ⟨by rw [Nat.zero_add]; exact h.cell i hi, by have := hf i hi; show _ ≤ ((f i : Nat) : Int); omega, by have := hf i hi; show ((f i : Nat) : Int) ≤ _; omega⟩⟩
/-- How often each symbol stands in steps. -/
def cntS (ss : List Sp) (x : Nat) : Nat := (ss.map (·.1)).count x
theorem cntS_le (ss : List Sp) (x : Nat) : cntS ss x ≤ ss.length := by
  unfold cntS
  have := List.count_le_length (a := x) (l := ss.map (·.1))
  simpa using this
theorem cntS_pos {ss : List Sp} {s : Sp} (h : s ∈ ss) : 0 < cntS ss s.1 := List.count_pos_iff.2 (List.mem_map.2 ⟨s, h, rfl⟩)
theorem cntS_next (ss : List Sp) (i x : Nat) (h : i < ss.length) : cntS (ss.take (i + 1)) x = if x = (ss.getD i (0, 0)).1 then cntS (ss.take i) x + 1 else cntS (ss.take i) x := by
  have e : ss.getD i (0, 0) = ss[i] := by rw [List.getD_eq_getElem?_getD, List.getElem?_eq_getElem h]; rfl
  unfold cntS
  rw [List.take_succ_eq_append_getElem h, List.map_append, List.count_append, e]
  by_cases c : x = ss[i].1
  · rw [if_pos c, c]; simp
  · rw [if_neg c]
    simp [Ne.symm c]
set_option maxHeartbeats 4000000 in
set_option maxRecDepth 100000 in
theorem ownCode_any (g n c : Nat) (ss : List Sp) (v1 v2 : Value) (w : World) (hQ : ∀ j u, (stV ss)[j]? = some u → w.cell? ⟨g, j, none⟩ = some u) (hn : n = ss.length) (h0 : 0 < n) (hn3 : n ≤ 1000) (hs : ∀ s ∈ ss, s.1 < 19)
    (h1 : w.cell? ⟨0, 0, none⟩ = some v1) (h2 : w.cell? ⟨2, 0, none⟩ = some v2) :
    Calls Tryz.prog 121 #[.slice (some ⟨g, 0, none⟩) n c] w fun e w' => ∃ v l, e = .returned v ∧ Cv w' w.heap.size v l 19 ∧ Bst (cntS ss) l 19 7 ∧ Below w.heap.size w w' := by
  have hgl : g < w.heap.size := by
    have := (stV_at ss 0 (by omega)).1
    exact World.block_lt_of_cell? _ _ (hQ _ _ this)
  have l1 := World.block_lt_of_cell? _ _ h1
  have l2 := World.block_lt_of_cell? _ _ h2
  simp only at l1 l2
  have hb2 : Below w.heap.size w ((w.alloc (.cells #[.slice none 0 0, .slice none 0 0] 101)).alloc (.cells #[.int .i64 0, .int .i64 0, .int .i64 0, .int .i64 0, .int .i64 0, .int .i64 0, .int .i64 0, .int .i64 0, .int .i64 0, .int .i64 0, .int .i64 0, .int .i64 0, .int .i64 0, .int .i64 0, .int .i64 0, .int .i64 0, .int .i64 0, .int .i64 0, .int .i64 0] 217)) := ((Below.refl _ _).alloc (Nat.le_refl _) _).alloc (by simp) _
  have hN0 : Nr ((w.alloc (.cells #[.slice none 0 0, .slice none 0 0] 101)).alloc (.cells #[.int .i64 0, .int .i64 0, .int .i64 0, .int .i64 0, .int .i64 0, .int .i64 0, .int .i64 0, .int .i64 0, .int .i64 0, .int .i64 0, .int .i64 0, .int .i64 0, .int .i64 0, .int .i64 0, .int .i64 0, .int .i64 0, .int .i64 0, .int .i64 0, .int .i64 0] 217)) (w.heap.size + 1) 19 (fun _ => 0) := by
    have := Nr.new (w.alloc (.cells #[.slice none 0 0, .slice none 0 0] 101)) 19 217
    rw [show (w.alloc (.cells #[.slice none 0 0, .slice none 0 0] 101)).heap.size = w.heap.size + 1 by simp] at this
    exact this
  have f0 : ((w.alloc (.cells #[.slice none 0 0, .slice none 0 0] 101)).alloc (.cells #[.int .i64 0, .int .i64 0, .int .i64 0, .int .i64 0, .int .i64 0, .int .i64 0, .int .i64 0, .int .i64 0, .int .i64 0, .int .i64 0, .int .i64 0, .int .i64 0, .int .i64 0, .int .i64 0, .int .i64 0, .int .i64 0, .int .i64 0, .int .i64 0, .int .i64 0] 217)).heap[w.heap.size]? = some (.cells #[.slice none 0 0, .slice none 0 0] 101) := (Below.heap_alloc _ _ _ (by simp)).trans (heap_alloc_new _ _)
  have HB0 := hide hb2
  have HN0 := hide hN0
  have F0 := hide f0
  have HQ := hide hQ
  have Hn := hide hn
  have HS := hide hs
  have H1 := hide h1
  have H2 := hide h2
  clear hb2 hN0 f0 hQ hn hs h1 h2
  go_enter Tryz.func121, Tryz.ntmps121
  go_wp2
  obtain ⟨gp, hgp⟩ : ∃ q, q = w.heap.size := ⟨_, rfl⟩
  rw [← hgp] at HN0 HB0 F0 hgl l1 l2
  rw [← hgp]
  have Hgp := hide hgp
  clear hgp
  generalize (w.alloc (.cells #[.slice none 0 0, .slice none 0 0] 101)).alloc (.cells #[.int .i64 0, .int .i64 0, .int .i64 0, .int .i64 0, .int .i64 0, .int .i64 0, .int .i64 0, .int .i64 0, .int .i64 0, .int .i64 0, .int .i64 0, .int .i64 0, .int .i64 0, .int .i64 0, .int .i64 0, .int .i64 0, .int .i64 0, .int .i64 0, .int .i64 0] 217) = w0 at *
  go_loopw [8] (fun iv wr => ∃ i : Nat, i ≤ n ∧ iv = .int .i64 (i : Int) ∧ Hid (Nr wr (gp + 1) 19 (cntS (ss.take i))) ∧ Hid (wr.heap[gp]? = some (.cells #[.slice none 0 0, .slice none 0 0] 101)) ∧ Hid (Below gp w wr) ∧ gp + 2 ≤ wr.heap.size) (fun iv _ => n - (intOf iv).toNat)
  case atStart => exact ⟨0, Nat.zero_le _, rfl, (unhide HN0).congr (fun j _ => rfl), F0, HB0, (unhide HN0).lt⟩
  case round =>
    clear HN0 F0 HB0
    obtain ⟨i, hi, rfl, HN, HF, HB, hwz⟩ := hrel
    by_cases hlt : i < n
    · have d1 : decide ((i : Int) < (n : Int)) = true := decide_eq_true (by omega)
      have d1n : decide (i < n) = true := decide_eq_true hlt
      have hii : (i : Int) < (n : Int) := by omega
      have hil : i < ss.length := by have := unhide Hn; omega
      obtain ⟨q0, q1⟩ := stV_at ss i hil
      have c0 := ((unhide HB).cell (p := ⟨g, i * 2, none⟩) hgl).trans (unhide HQ _ _ q0)
      have c1 := ((unhide HB).cell (p := ⟨g, i * 2 + 1, none⟩) hgl).trans (unhide HQ _ _ q1)
      obtain ⟨x, hx⟩ : ∃ x, x = (ss.getD i (0, 0)).1 := ⟨_, rfl⟩
      obtain ⟨y, hy⟩ : ∃ y, y = (ss.getD i (0, 0)).2 := ⟨_, rfl⟩
      rw [← hx] at c0
      rw [← hy] at c1
      have hx19 : x < 19 := by
        rw [hx, List.getD_eq_getElem?_getD, List.getElem?_eq_getElem hil]
        exact unhide HS _ (List.getElem_mem hil)
      have hxi : (x : Int) < 19 := by omega
      have hba : Below wr.heap.size wr (wr.alloc (.cells #[.int .i64 (x : Int), .int .i64 (y : Int)] 176)) := (Below.refl _ _).alloc (Nat.le_refl _) _
      have hN1 := (unhide HN).keep (hba.block (gp + 1) (by omega)) hba.size
      have k0 := hN1.cell x hx19
      have k1 := hN1.free x hx19
      obtain ⟨m, hm⟩ : ∃ m, m = cntS (ss.take i) x := ⟨_, rfl⟩
      rw [← hm] at k0
      have hm3 : m ≤ 1000 := by
        rw [hm]
        have := cntS_le (ss.take i) x
        rw [List.length_take] at this
        omega
      obtain ⟨m1, hm1⟩ : ∃ m1, m1 = m + 1 := ⟨_, rfl⟩
      have zm : (m : Int) + 1 = (m1 : Int) := by omega
      have HN2 : Hid (Nr ((wr.alloc (.cells #[.int .i64 (x : Int), .int .i64 (y : Int)] 176)).setCell ⟨gp + 1, x, none⟩ (.int .i64 (m1 : Int))) (gp + 1) 19 (cntS (ss.take (i + 1)))) := (hN1.set x m1 hx19).congr (fun j _ => by
        rw [cntS_next ss i j hil, ← hx]
        by_cases e : j = x
        · rw [if_pos e, if_pos e, e, ← hm]; exact hm1
        · rw [if_neg e, if_neg e])
      have HF2 : Hid (((wr.alloc (.cells #[.int .i64 (x : Int), .int .i64 (y : Int)] 176)).setCell ⟨gp + 1, x, none⟩ (.int .i64 (m1 : Int))).heap[gp]? = some (.cells #[.slice none 0 0, .slice none 0 0] 101)) := by
        show _ = _
        rw [Below.heap_setCell _ _ _ _ (fun q => by simp only at q; omega), hba.block gp (by omega)]
        exact unhide HF
      have HB2 := hide (((unhide HB).trans (hba.mono (by omega))).setCell (p := ⟨gp + 1, x, none⟩) (by show gp ≤ gp + 1; omega) (.int .i64 (m1 : Int)))
      have hwz2 : gp + 2 ≤ ((wr.alloc (.cells #[.int .i64 (x : Int), .int .i64 (y : Int)] 176)).setCell ⟨gp + 1, x, none⟩ (.int .i64 (m1 : Int))).heap.size := by
        have := hba.size
        simpa [World.setCell] using Nat.le_trans hwz this
      have hne : gp + 1 ≠ wr.heap.size := by omega
      have Hx := hide hx
      have Hy := hide hy
      have Hm := hide hm
      have Hm1 := hide hm1
      clear q0 q1 hx hy hm hm1 hba hN1 HN HF HB
      go_wp2
      go_roundw
      case rel => exact ⟨i + 1, by omega, by go_num, HN2, HF2, HB2, hwz2⟩
      case measure => simp [intOf]; omega
    · obtain rfl : i = n := by omega
      have d1 : decide ((i : Int) < (i : Int)) = false := by simp
      have hN1 : Nr wr (gp + 1) 19 (cntS ss) := by
        have := unhide HN
        rwa [unhide Hn, List.take_length] at this
      have HX := hide (dbest_any (some ⟨gp + 1, 0, none⟩) 19 19 7 (cntS ss) v1 v2 wr (hN1.ints (by omega) (fun j _ => by have := cntS_le ss j; have := unhide Hn; omega)) (by omega) (by omega) (by omega) (by omega) (fun j _ => by have := cntS_le ss j; have := unhide Hn; omega) (by decide)
        (((unhide HB).cell (p := ⟨0, 0, none⟩) l1).trans (unhide H1)) (((unhide HB).cell (p := ⟨2, 0, none⟩) l2).trans (unhide H2)))
      clear hN1 HN
      go_wp2_with fail
      refine (unhide HX).mono ?_; rintro e w2 ⟨v, l, rfl, hcv, hbst, hb2⟩
      obtain ⟨b1, b2, rfl, hb1g, hb2g, hc1, hc2⟩ := hcv.is
      have HC1 := hide hc1
      have HC2 := hide hc2
      have HBS := hide hbst
      have F2 := hide ((hb2.block gp (by omega)).trans (unhide HF))
      have HB2 := hide ((unhide HB).trans (hb2.mono (by omega)))
      have c0 : w2.cell? ⟨gp, 0, none⟩ = some (.slice none 0 0) := by simp only [World.cell?, unhide F2]; rfl
      have c1 : w2.cell? ⟨gp, 1, none⟩ = some (.slice none 0 0) := by simp only [World.cell?, unhide F2]; rfl
      have z0 : w2.frozen? ⟨gp, 0, none⟩ = false := by simp only [World.frozen?, unhide F2]; simp
      have z1 : w2.frozen? ⟨gp, 1, none⟩ = false := by simp only [World.frozen?, unhide F2]; simp
      have HFin : Hid (∃ v l, (Ending.returned (.agg #[.slice (some ⟨b1, 0, none⟩) 19 19, .slice (some ⟨b2, 0, none⟩) 19 19]) : Ending) = .returned v ∧ Cv ((w2.setCell ⟨gp, 0, none⟩ (.slice (some ⟨b1, 0, none⟩) 19 19)).setCell ⟨gp, 1, none⟩ (.slice (some ⟨b2, 0, none⟩) 19 19)) gp v l 19 ∧ Bst (cntS ss) l 19 7 ∧ Below gp w ((w2.setCell ⟨gp, 0, none⟩ (.slice (some ⟨b1, 0, none⟩) 19 19)).setCell ⟨gp, 1, none⟩ (.slice (some ⟨b2, 0, none⟩) 19 19))) := by
        refine ⟨_, l, rfl, ⟨⟨b1, b2, rfl, by omega, by omega, fun i hi => ?_, fun i hi => ?_⟩⟩, unhide HBS, ((unhide HB2).setCell (p := ⟨gp, 0, none⟩) (Nat.le_refl _) _).setCell (p := ⟨gp, 1, none⟩) (Nat.le_refl _) _⟩
        · rw [World.cell?_setCell_other _ _ _ _ (fun q => by injection q with q _; omega), World.cell?_setCell_other _ _ _ _ (fun q => by injection q with q _; omega)]
          exact unhide HC1 i hi
        · rw [World.cell?_setCell_other _ _ _ _ (fun q => by injection q with q _; omega), World.cell?_setCell_other _ _ _ _ (fun q => by injection q with q _; omega)]
          exact unhide HC2 i hi
      clear HX hcv hbst hb2 hc1 hc2 HF HB
      go_wp2
      refine bodyPost_ret (v := .agg #[.slice (some ⟨b1, 0, none⟩) 19 19, .slice (some ⟨b2, 0, none⟩) 19 19]) ?_ rfl (by first | exact unhide HFin | (rw [← unhide Hgp]; exact unhide HFin))
      rw [results_c (p := 2) (ty := 101) (by kernel_rfl)]
      go_simp
end Go.Proofs.YtfeljhikeddodadGreatDoor
namespace Go.Proofs.YtfeljhikeddodadGreatDoor
open Go.RowKit Ps Nf Pm Cn

def nV (l : List Nat) : List Value := l.map fun (x : Nat) => .int .i64 (x : Int)
theorem nV_append (a b : List Nat) : nV (a ++ b) = nV a ++ nV b := by simp [nV]
theorem nV_length (l : List Nat) : (nV l).length = l.length := by simp [nV]
theorem nV_at (l : List Nat) (i : Nat) (h : i < l.length) : (nV l)[i]? = some (.int .i64 (l.getD i 0 : Int)) := by
  simp [nV, List.getElem?_eq_getElem h]
theorem info_int : (Tryz.prog.info? 3).map (fun i => (i.zero, i.size, i.bytes)) = some (some (.int .i64 0), 1, 8) := by kernel_rfl
theorem app_n1 (w : World) (base q : Nat) (v : Value) (l : List Nat) (x : Nat) (t : TypeId) (hown : w.ownsRow base 3 1 v l.length (nV l)) (hq : w.cell? ⟨q, 0, none⟩ = some (.int .i64 (x : Int))) (hl : l.length ≤ 1000000) (hb : base ≤ w.heap.size) :
    ∃ v' w', (Builtin.append_ #[38, 38] t #[v, .slice (some ⟨q, 0, none⟩) 1 1]).run Tryz.prog w = .ok v' w' ∧ w'.ownsRow base 3 1 v' (l ++ [x]).length (nV (l ++ [x])) ∧ w.grownBy w' v.ownBlock := by
  obtain ⟨i0, hi, hz0, hz1, hz2⟩ := info_parts info_int
  obtain ⟨v', w', a1, a2, a3, _, _⟩ := run_append_own_at (P := Tryz.prog) w base 38 t 3 i0 (.int .i64 0) 1 8 Tryz.underlying38 hi hz0 hz1 hz2 rfl (by omega) v l.length (nV l) hown ⟨q, 0, none⟩ 1 1 [.int .i64 (x : Int)] rfl (fun j u hj => by
    match j, hj with
    | 0, hj => rw [addr_add, Nat.zero_add, hq]; simpa using hj) (fun u hu => by rw [List.mem_singleton] at hu; subst hu; rfl) (by unfold maxLen; omega) (by omega) hb
  refine ⟨v', w', a1, ?_, a3⟩
  rw [nV_append, List.length_append]
  exact a2
theorem wpList_appN1 (w : World) {ops : Array Oper} {rest : List Oper} {o : Oper} {a : Act} {Q : Exit → Act → World → Prop} (hgd : o.guard = none) (s x : Operand)
    (ho : o.op = .call { callee := .builtin .append, args := #[s, x], argTypes := #[38, 38] }) (base q : Nat) (v : Value) (l : List Nat) (y : Nat) (hs : a.eval s = v) (hx : a.eval x = .slice (some ⟨q, 0, none⟩) 1 1)
    (hown : w.ownsRow base 3 1 v l.length (nV l)) (hq : w.cell? ⟨q, 0, none⟩ = some (.int .i64 (y : Int))) (hl : l.length ≤ 1000000) (hb : base ≤ w.heap.size)
    (h : ∀ v' w', w'.ownsRow base 3 1 v' (l ++ [y]).length (nV (l ++ [y])) → w.grownBy w' v.ownBlock → wpList Tryz.prog ops Q rest (a.put o.dst v') w') : wpList Tryz.prog ops Q (o :: rest) a w := by
  obtain ⟨v', w', a1, a2, a3⟩ := app_n1 w base q v l y o.type hown hq hl hb
  refine wpList_plain hgd fun _ hK => ?_
  unfold Oper.wp execOp
  simp only [ho, resolve, invoke, builtin, Sem.run_bind, Sem.run_pure, Result.andThen_ok, List.map_toArray, List.map_cons, List.map_nil, hs, hx, a1]
  exact hK _ _ (h v' w' a2 a3)
/-- Lengths of lengths, in their order. -/
def ordL (l : Nat → Nat) (n : Nat) : List Nat := (List.range n).map fun j => l (order.getD j 0)
theorem ordL_succ (l : Nat → Nat) (n : Nat) : ordL l (n + 1) = ordL l n ++ [l (order.getD n 0)] := by simp [ordL, List.range_succ]
theorem ordL_length (l : Nat → Nat) (n : Nat) : (ordL l n).length = n := by simp [ordL]
theorem index_order (w : World) (i : Nat) (h : i < 19) : (Instr.index 217 (.agg orderV) (.int .i64 (i : Int))).run Tryz.prog w = .ok (.int .i64 ((order.getD i 0 : Nat) : Int)) w := by
  rcases (show i = 0 ∨ i = 1 ∨ i = 2 ∨ i = 3 ∨ i = 4 ∨ i = 5 ∨ i = 6 ∨ i = 7 ∨ i = 8 ∨ i = 9 ∨ i = 10 ∨ i = 11 ∨ i = 12 ∨ i = 13 ∨ i = 14 ∨ i = 15 ∨ i = 16 ∨ i = 17 ∨ i = 18 by omega) with rfl | rfl | rfl | rfl | rfl | rfl | rfl | rfl | rfl | rfl | rfl | rfl | rfl | rfl | rfl | rfl | rfl | rfl | rfl <;> kernel_rfl
set_option maxHeartbeats 4000000 in
set_option maxRecDepth 100000 in
theorem ordered_any (b c : Nat) (l : Nat → Nat) (w : World) (hP : ∀ i, i < 19 → w.cell? ⟨b, i, none⟩ = some (.int .i64 (l i : Int))) (h15 : ∀ i, i < 19 → l i ≤ 15) :
    Calls Tryz.prog 122 #[.slice (some ⟨b, 0, none⟩) 19 c] w fun e w' => ∃ a c', e = .returned (.slice a 19 c') ∧ w'.ownsRow w.heap.size 3 1 (.slice a 19 c') 19 (nV (ordL l 19)) ∧ Below w.heap.size w w' := by
  have HX := hide (ofLengths_any w)
  have hbl : b < w.heap.size := World.block_lt_of_cell? _ _ (hP 0 (by omega))
  have HP := hide hP
  have H15 := hide h15
  clear hP h15
  go_enter Tryz.func122, Tryz.ntmps122
  go_wp2_with fail
  refine (unhide HX).mono ?_; rintro e w1 ⟨rfl, hb1⟩
  have HB1 := hide hb1
  clear HX hb1
  have HOA := hide index_order
  generalize orderV = oV at *
  go_wp2
  go_loopw [3, 7] (fun lv iv wr => ∃ (i n cc : Nat) (a : Option Addr), i ≤ 19 ∧ iv = .int .i64 (i : Int) ∧ lv = .slice a n cc ∧ n = i ∧ Hid (wr.ownsRow w.heap.size 3 1 (.slice a n cc) (ordL l i).length (nV (ordL l i))) ∧ Hid (Below w.heap.size w wr)) (fun _ iv _ => 19 - (intOf iv).toNat)
  case atStart => exact ⟨0, 0, 0, none, by omega, rfl, rfl, rfl, World.ownsRow_nil _ _ _ _, HB1⟩
  case round =>
    clear HB1
    obtain ⟨i, n, cc, a, hi, rfl, rfl, hni, HO, HB⟩ := hrel
    subst hni
    by_cases hlt : n < 19
    · have d1 : decide ((n : Int) < 19) = true := decide_eq_true (by omega)
      have hii : (n : Int) < 19 := by omega
      have ho := unhide HOA wr n hlt
      obtain ⟨y, hy⟩ : ∃ y, y = order.getD n 0 := ⟨_, rfl⟩
      have hy19 : y < 19 := by
        have : ∀ j, j < 19 → order.getD j 0 < 19 := by decide
        rw [hy]; exact this n hlt
      rw [← hy] at ho
      have hyi : (y : Int) < 19 := by omega
      have cy := ((unhide HB).cell (p := ⟨b, y, none⟩) hbl).trans (unhide HP y hy19)
      obtain ⟨x, hx⟩ : ∃ x, x = l y := ⟨_, rfl⟩
      rw [← hx] at cy
      have hba : Below wr.heap.size wr (wr.alloc (.cells #[.int .i64 (x : Int)] 3)) := (Below.refl _ _).alloc (Nat.le_refl _) _
      have HO1 : Hid ((wr.alloc (.cells #[.int .i64 (x : Int)] 3)).ownsRow w.heap.size 3 1 (.slice a n cc) (ordL l n).length (nV (ordL l n))) := own_keepS (unhide HO) (fun k _ hk => hba.block k hk)
      have HIN := hide (own_inS (unhide HO))
      have HB1 := hide ((unhide HB).trans (hba.mono (unhide HB).size))
      have hB1 : w.heap.size ≤ (wr.alloc (.cells #[.int .i64 (x : Int)] 3)).heap.size := Nat.le_trans (unhide HB).size hba.size
      have CQ : Hid ((wr.alloc (.cells #[.int .i64 (x : Int)] 3)).cell? ⟨wr.heap.size, 0, none⟩ = some (.int .i64 (x : Int))) := by show _ = _; simp [go_sem]
      have hsu : ordL l (n + 1) = ordL l n ++ [x] := by rw [ordL_succ, ← hy, ← hx]
      have HSU := hide hsu
      have hol := ordL_length l n
      have HOL : Hid ((ordL l n).length ≤ 1000000) := by show _ ≤ _; omega
      have Hx := hide hx
      have Hy := hide hy
      clear hba HO HB hx hy hsu
      generalize ordL l n = ol at *
      go_wp2_with (at_builtin; refine wpList_appN1 _ rfl (.tmp 10) (.tmp 15) rfl w.heap.size wr.heap.size (.slice a n cc) ol x rfl rfl (unhide HO1) (unhide CQ) (unhide HOL) hB1 ?_)
      intro v5 w5 ho5 hg5
      obtain ⟨a5, c5, rfl⟩ := own_sliceS ho5
      have HB5 := hide ((unhide HB1).grown hg5 hB1 (fun k e => (unhide HIN k e).1))
      have HO5 : Hid (w5.ownsRow w.heap.size 3 1 (.slice a5 (n + 1) c5) (ordL l (n + 1)).length (nV (ordL l (n + 1)))) := by
        show World.ownsRow _ _ _ _ _ _ _
        have e : (ol ++ [x]).length = n + 1 := by rw [List.length_append, hol]; rfl
        rw [unhide HSU, e]
        first
          | exact ho5
          | (rw [e] at ho5; exact ho5)
          | (rw [List.length_append, hol] at ho5; exact ho5)
          | (rw [hol] at ho5; exact ho5)
      clear ho5 hg5 HO1 HB1 CQ
      go_wp2
      go_roundw
      case rel => exact ⟨n + 1, n + 1, c5, a5, by omega, by go_num, by first | rfl | simp [hol], rfl, HO5, HB5⟩
      case measure => simp [intOf]; omega
    · obtain rfl : n = 19 := by omega
      have HO2 : Hid (wr.ownsRow w.heap.size 3 1 (.slice a 19 cc) 19 (nV (ordL l 19))) := by
        have := unhide HO
        rw [ordL_length] at this
        exact this
      go_wp2
      go_ret
      exact ⟨a, cc, rfl, unhide HO2, unhide HB⟩
end Go.Proofs.YtfeljhikeddodadGreatDoor
