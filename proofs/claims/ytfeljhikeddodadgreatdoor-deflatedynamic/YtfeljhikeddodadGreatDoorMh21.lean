/- Walks of the writer of blocks: codes, the fixed block. Results that lie in cells. Walks: used lengths, the best code of counts, the order of lengths of lengths. Walks of the statement's own helpers: are two rows of tokens the same? Do lengths cost no more than the best? -/
import Derived.Test.YtfeljhikeddodadGreatDoorDf2
import Derived.Laws.ResultCell
import Derived.Test.YtfeljhikeddodadGreatDoorMh1
import Derived.Test.YtfeljhikeddodadGreatDoorMh13
import Derived.Test.YtfeljhikeddodadGreatDoorMh19
import Derived.Test.YtfeljhikeddodadGreatDoorMh11
import Derived.Deep.QuietTactic
namespace Go.Proofs.YtfeljhikeddodadGreatDoor
open Go.RowKit Pm Cn Nf Ps

set_option maxHeartbeats 1000000 in
theorem codeOf_any (b o cap N : Nat) (l : Nat → Nat) (v1 v2 : Value) (w : World) (hP : IsInts w (some ⟨b, o, none⟩) N (zl l)) (hN : N ≤ 300)
    (h1 : w.cell? ⟨0, 0, none⟩ = some v1) (h2 : w.cell? ⟨2, 0, none⟩ = some v2) (hle : ∀ i, i < N → l i ≤ 15) (hr : Right l N) :
    Calls Tryz.prog 64 #[.slice (some ⟨b, o, none⟩) N cap] w fun e w' => ∃ g, e = .returned (.agg #[.slice (some ⟨b, o, none⟩) N cap, .slice (some ⟨g, 0, none⟩) N N]) ∧ (∀ i, i < N → w'.cell? ⟨g, i, none⟩ = some (.int .u32 (code l N i : Nat))) ∧ w.heap.size ≤ g ∧ Below w.heap.size w w' := by
  have ba : Below w.heap.size w (w.alloc (.cells #[.slice none 0 0, .slice none 0 0] 101)) := (Below.refl _ _).alloc (Nat.le_refl _) _
  have hsz : (w.alloc (.cells #[.slice none 0 0, .slice none 0 0] 101)).heap.size = w.heap.size + 1 := by simp
  have hnb : ¬ Bad (zl l) N := fun h => by
    rcases h with h | ⟨i, hi, h⟩
    · omega
    · have := hle i hi; unfold zl at h; omega
  have HC := hide (codes_right (some ⟨b, o, none⟩) N cap (zl l) v1 v2 (w.alloc (.cells #[.slice none 0 0, .slice none 0 0] 101)) (hP.below ba) hN ((ba.cell (World.block_lt_of_cell? _ _ h1)).trans h1) ((ba.cell (World.block_lt_of_cell? _ _ h2)).trans h2) hnb (by rw [nat_zl]; exact hr))
  rw [nat_zl] at HC
  have cB0 : (w.alloc (.cells #[.slice none 0 0, .slice none 0 0] 101)).cell? ⟨w.heap.size, 0, none⟩ = some (.slice none 0 0) := by simp
  have cB1 : (w.alloc (.cells #[.slice none 0 0, .slice none 0 0] 101)).cell? ⟨w.heap.size, 1, none⟩ = some (.slice none 0 0) := by simp
  have fB0 : (w.alloc (.cells #[.slice none 0 0, .slice none 0 0] 101)).frozen? ⟨w.heap.size, 0, none⟩ = false := by simp
  have fB1 : (w.alloc (.cells #[.slice none 0 0, .slice none 0 0] 101)).frozen? ⟨w.heap.size, 1, none⟩ = false := by simp
  have HF := hide (And.intro (And.intro cB0 cB1) (And.intro fB0 fB1))
  clear hP h1 h2 hnb hr cB0 cB1 fB0 fB1
  go_enter Tryz.func64, Tryz.ntmps64
  go_wp2_with fail
  generalize hB : w.heap.size = B at *
  generalize w.alloc (.cells #[.slice none 0 0, .slice none 0 0] 101) = w0 at *
  refine (unhide HC).mono ?_
  rintro e w1 ⟨g, rfl, hown, hb1⟩
  have hBl : B < w0.heap.size := by omega
  have k0 := (hb1.cell (p := ⟨B, 0, none⟩) hBl).trans (unhide HF).1.1
  have k1 := (hb1.cell (p := ⟨B, 1, none⟩) hBl).trans (unhide HF).1.2
  have f0 := (hb1.frozen (p := ⟨B, 0, none⟩) hBl).trans (unhide HF).2.1
  have f1 := (hb1.frozen (p := ⟨B, 1, none⟩) hBl).trans (unhide HF).2.2
  have hg := (hown.lt g rfl).1
  have hcells : ∀ i, i < N → w1.cell? ⟨g, i, none⟩ = some (.int .u32 (code l N i : Nat)) := fun i hi => by rw [hown.cellAt i (by omega), u32Vals_at _ _ _ hi]
  have HR : Hid (∀ x y : Value, (∀ i, i < N → ((w1.setCell ⟨B, 0, none⟩ x).setCell ⟨B, 1, none⟩ y).cell? ⟨g, i, none⟩ = some (.int .u32 (code l N i : Nat))) ∧ Below B w ((w1.setCell ⟨B, 0, none⟩ x).setCell ⟨B, 1, none⟩ y)) := fun x y => by
    refine ⟨fun i hi => ?_, ((ba.trans (hb1.mono (by omega))).setCell (p := ⟨B, 0, none⟩) (Nat.le_refl _) x).setCell (p := ⟨B, 1, none⟩) (Nat.le_refl _) y⟩
    rw [World.cell?_setCell_other _ _ _ _ (by intro q; injection q with q _; omega), World.cell?_setCell_other _ _ _ _ (by intro q; injection q with q _; omega)]
    exact hcells i hi
  have hgB : B ≤ g := by omega
  clear HC HF hown hb1 hcells
  go_wp2
  refine bodyPost_ret (v := .agg #[.slice (some ⟨b, o, none⟩) N cap, .slice (some ⟨g, 0, none⟩) N N]) ?_ rfl ⟨g, rfl, (unhide HR _ _).1, by omega, by rw [hB]; exact (unhide HR _ _).2⟩
  rw [results_cellB (p := 2) (ty := 101) (by kernel_rfl)]
  go_simp
/-- Lengths and words in memory: a code, as a value. -/
theorem CV.mk' {w : World} {p N b1 o1 c1 b2 c2 : Nat} {l : Nat → Nat} (h1 : ∀ i, i < N → w.cell? ⟨b1, o1 + i, none⟩ = some (.int .i64 (l i : Nat))) (h2 : ∀ i, i < N → w.cell? ⟨b2, i, none⟩ = some (.int .u32 (code l N i : Nat))) (hN : 0 < N) (hN3 : N ≤ 300) (a1 : b1 ≠ p ∧ b1 ≠ rowOf w p) (a2 : b2 ≠ p ∧ b2 ≠ rowOf w p) :
    CV w p (.agg #[.slice (some ⟨b1, o1, none⟩) N c1, .slice (some ⟨b2, 0, none⟩) N c2]) l N :=
  ⟨⟨b1, o1, c1, b2, 0, c2, rfl, h1, fun i hi => by rw [Nat.zero_add]; exact h2 i hi, a1, a2⟩, hN, hN3⟩
theorem Tks.tok {t : Tks} {i : Nat} (h : t.shaped i) (hb : t.b i < 256) : Tok (t.b i) (t.l i).toNat (t.d i).toNat := by
  unfold Tks.shaped at h
  unfold Tok
  split at h
  · next e => rw [if_pos (by omega)]; exact hb
  · next e => rw [if_neg (by omega)]; omega
end Go.Proofs.YtfeljhikeddodadGreatDoor
namespace Go.Proofs.YtfeljhikeddodadGreatDoor
open Go.RowKit

theorem results_c {fn : Func} {p : Tmp} {ty : TypeId} (h : fn.results = #[.cell p ty]) (tmps : Array Value) (P : Program) (w : World) :
    (results fn tmps).run P w = ((asAddr (tmps.getD p undef)).run P w).andThen fun a w₁ => (loadVar ty a).run P w₁ := by
  simp only [results, h]
  simp [Sem.run_bind, Result.andThen]
end Go.Proofs.YtfeljhikeddodadGreatDoor
namespace Go.Proofs.YtfeljhikeddodadGreatDoor
open Go.RowKit Ps Nf Pm Cn

set_option maxHeartbeats 2000000 in
/-- Without those of no word at the end. -/
theorem dused_any (b o N cap least : Nat) (l : Nat → Nat) (w : World) (hP : ∀ i, i < N → w.cell? ⟨b, o + i, none⟩ = some (.int .i64 (l i : Int))) (hl : least ≤ N) (hNc : N ≤ cap) (hcm : cap ≤ maxLen) :
    Calls Tryz.prog 80 #[.slice (some ⟨b, o, none⟩) N cap, .int .i64 (least : Int)] w fun e w' => ∃ n : Nat, e = .returned (.slice (some ⟨b, o, none⟩) n cap) ∧ least ≤ n ∧ n ≤ N ∧ (∀ j, n ≤ j → j < N → l j = 0) ∧ w' = w := by
  unfold maxLen at hcm
  go_enter Tryz.func80, Tryz.ntmps80
  go_wp2
  go_loop [5] (fun v => ∃ n : Nat, least ≤ n ∧ n ≤ N ∧ v = .int .i64 (n : Int) ∧ Hid (∀ j, n ≤ j → j < N → l j = 0)) (fun v => (intOf v).toNat)
  case atStart => exact ⟨N, hl, Nat.le_refl _, rfl, fun j h1 h2 => by omega⟩
  case round =>
    obtain ⟨n, hn1, hn2, rfl, HZ⟩ := hrel
    by_cases hlt : least < n
    · have d1 : decide ((n : Int) > (least : Int)) = true := decide_eq_true (by omega)
      have d1' : decide ((least : Int) < (n : Int)) = true := d1
      have d1n : decide (least < n) = true := decide_eq_true hlt
      obtain ⟨n1, hn1'⟩ : ∃ q, q = n - 1 := ⟨_, rfl⟩
      have z1 : (n : Int) - 1 = (n1 : Int) := by omega
      have c1 := hP n1 (by omega)
      have hni : (n1 : Int) < (N : Int) := by omega
      obtain ⟨x, hx⟩ : ∃ x, x = l n1 := ⟨_, rfl⟩
      rw [← hx] at c1
      by_cases h0 : x = 0
      · have g1 : ((x : Int) == 0) = true := by rw [h0]; rfl
        have HZ2 : Hid (∀ j, n1 ≤ j → j < N → l j = 0) := fun j h1 h2 => by
          by_cases e : j = n1
          · subst e; rw [← hx]; exact h0
          · exact unhide HZ j (by omega) h2
        have hle1 : least ≤ n1 := by omega
        have hlN : n1 ≤ N := by omega
        have hnn : n1 < n := by omega
        clear hx hn1' hP h0
        go_wp2
        go_round
        case rel => exact ⟨n1, hle1, hlN, rfl, HZ2⟩
        case measure => simp [intOf]; omega
      · have g1 : ((x : Int) == 0) = false := by rw [beq_eq_false_iff_ne]; omega
        have hni2 : (n : Int) ≤ (N : Int) := by omega
        have hnc : (n : Int) ≤ (cap : Int) := by omega
        have hncn : n ≤ cap := by omega
        clear hx hn1' hP
        go_wp2
        go_ret
        exact ⟨n, rfl, by omega, hn2, unhide HZ, rfl⟩
    · have d1 : decide ((n : Int) > (least : Int)) = false := decide_eq_false (by omega)
      have d1' : decide ((least : Int) < (n : Int)) = false := d1
      have d1n : decide (least < n) = false := decide_eq_false hlt
      have hncn : n ≤ cap := by omega
      have hnc : (n : Int) ≤ (cap : Int) := by omega
      clear hP
      go_wp2
      go_ret
      exact ⟨n, rfl, by omega, hn2, unhide HZ, rfl⟩
/-- A code of its own in memory: lengths and words, from a block on. -/
structure Cv (w : World) (B : Nat) (v : Value) (l : Nat → Nat) (N : Nat) : Prop where
  is : ∃ b1 b2, v = .agg #[.slice (some ⟨b1, 0, none⟩) N N, .slice (some ⟨b2, 0, none⟩) N N] ∧ B ≤ b1 ∧ B ≤ b2 ∧
    (∀ i, i < N → w.cell? ⟨b1, i, none⟩ = some (.int .i64 (l i : Int))) ∧ (∀ i, i < N → w.cell? ⟨b2, i, none⟩ = some (.int .u32 (code l N i : Nat)))
theorem Cv.below {w w' : World} {B N : Nat} {v : Value} {l : Nat → Nat} (h : Cv w B v l N) (hN : 0 < N) (hb : Below w.heap.size w w') : Cv w' B v l N := by
  obtain ⟨b1, b2, hv, h1, h2, h3, h4⟩ := h.is
  have g1 := World.block_lt_of_cell? _ _ (h3 0 hN)
  have g2 := World.block_lt_of_cell? _ _ (h4 0 hN)
  exact ⟨⟨b1, b2, hv, h1, h2, fun i hi => (hb.cell (p := ⟨b1, i, none⟩) g1).trans (h3 i hi), fun i hi => (hb.cell (p := ⟨b2, i, none⟩) g2).trans (h4 i hi)⟩⟩
/-- What counts must be, and the best lengths of them. -/
structure Bst (z l : Nat → Nat) (N most : Nat) : Prop where
  le : ∀ i, i < N → l i ≤ most
  same : ∀ i, i < N → (0 < l i ↔ 0 < z i)
  right : Right l N
  good : ∃ y, GoodL (fun i => (z i : Int)) y N most ∧ l = nat y
set_option maxHeartbeats 2000000 in
theorem dbest_any (ao : Option Addr) (N cap most : Nat) (z : Nat → Nat) (v1 v2 : Value) (w : World) (hP : IsInts w ao N (fun i => (z i : Int))) (hN : N ≤ 300) (hN0 : 0 < N) (hm1 : 1 ≤ most) (hm : most ≤ 15) (hz : ∀ i, i < N → z i ≤ 1048576) (hn : N ≤ 2 ^ most)
    (h1 : w.cell? ⟨0, 0, none⟩ = some v1) (h2 : w.cell? ⟨2, 0, none⟩ = some v2) :
    Calls Tryz.prog 118 #[.slice ao N cap, .int .i64 (most : Int)] w fun e w' => ∃ v l, e = .returned v ∧ Cv w' w.heap.size v l N ∧ Bst z l N most ∧ Below w.heap.size w w' := by
  have hb0 : Below w.heap.size w (w.alloc (.cells #[.slice none 0 0, .slice none 0 0] 101)) := (Below.refl _ _).alloc (Nat.le_refl _) _
  have l1 := World.block_lt_of_cell? _ _ h1
  have l2 := World.block_lt_of_cell? _ _ h2
  simp only at l1 l2
  have hsy : (syms (fun i => (z i : Int)) N).length ≤ N := by
    unfold syms
    exact Nat.le_trans (List.length_filter_le _ _) (by simp)
  have HX := hide (lengths_good ao N cap most (fun i => (z i : Int)) (w.alloc (.cells #[.slice none 0 0, .slice none 0 0] 101)) (hP.below hb0) hN hm1 hm (fun i hi => by
    have := hz i hi
    unfold badC
    simp only [Bool.or_eq_false_iff, decide_eq_false_iff_not]
    omega) (Nat.le_trans hsy hn))
  have f0 : (w.alloc (.cells #[.slice none 0 0, .slice none 0 0] 101)).heap[w.heap.size]? = some (.cells #[.slice none 0 0, .slice none 0 0] 101) := heap_alloc_new _ _
  have hsz : (w.alloc (.cells #[.slice none 0 0, .slice none 0 0] 101)).heap.size = w.heap.size + 1 := by simp
  have HS1 := hide ((hb0.cell (p := ⟨0, 0, none⟩) l1).trans h1)
  have HS2 := hide ((hb0.cell (p := ⟨2, 0, none⟩) l2).trans h2)
  have HB0 := hide hb0
  have F0 := hide f0
  obtain ⟨gp, hgp⟩ : ∃ q, q = w.heap.size := ⟨_, rfl⟩
  have Hgp := hide hgp
  rw [← hgp] at hsz HB0 F0
  clear hb0 f0 h1 h2 hsy hP hz
  go_enter Tryz.func118, Tryz.ntmps118
  go_wp2_with fail
  refine (unhide HX).mono ?_
  rw [← hgp] at l1 l2 ⊢
  generalize w.alloc (.cells #[.slice none 0 0, .slice none 0 0] 101) = w0 at *
  rintro e w1 ⟨g, y, rfl, hown, hG, hb1⟩
  clear HX hgp
  obtain ⟨l, hl⟩ : ∃ l, l = nat y := ⟨_, rfl⟩
  have hy : ∀ i, i < N → y i = (l i : Int) := fun i hi => by rw [hl]; unfold nat; have := (hG.low i hi).1; omega
  have hcell : ∀ i, i < N → w1.cell? ⟨g, i, none⟩ = some (.int .i64 (l i : Int)) := fun i hi => by rw [own_int hown i hi, hy i hi]
  have hg0 : gp + 1 ≤ g := by have := (own_inS hown g rfl).1; omega
  have hgl : g < w1.heap.size := (own_inS hown g rfl).2
  have hle : ∀ i, i < N → l i ≤ most := fun i hi => by have := (hG.low i hi).2; have := hy i hi; omega
  have hr : Right l N := by rw [hl]; exact hG.right
  have HBST : Hid (Bst z l N most) := ⟨hle, fun i hi => by have h3 := hG.same i hi; rw [hy i hi] at h3; constructor <;> intro h4 <;> omega, hr, y, hG, hl⟩
  have hI : IsInts w1 (some ⟨g, 0, none⟩) N (zl l) := .inr ⟨g, 0, rfl, by unfold maxLen; omega, fun i hi => ⟨by rw [Nat.zero_add]; exact hcell i hi, by have := hle i hi; unfold zl; omega, by have := hle i hi; unfold zl; omega⟩⟩
  have S1 := hide ((hb1.cell (p := ⟨0, 0, none⟩) (show _ < _ by simp only; omega)).trans (unhide HS1))
  have S2 := hide ((hb1.cell (p := ⟨2, 0, none⟩) (show _ < _ by simp only; omega)).trans (unhide HS2))
  have HX := hide (codeOf_any g 0 N N l v1 v2 w1 hI hN (unhide S1) (unhide S2) (fun i hi => by have := hle i hi; omega) hr)
  have F1 := hide ((hb1.block gp (by omega)).trans (unhide F0))
  have HB1 := hide ((unhide HB0).trans (hb1.mono (by omega)))
  have HC1 := hide hcell
  have hs1 : gp + 1 ≤ w1.heap.size := by omega
  clear hown hG hb1 hy hcell hle hr hI S1 S2 HS1 HS2 F0 HB0 hl
  go_wp2_with fail
  refine (unhide HX).mono ?_; rintro e w2 ⟨g2, rfl, hc2, hg2, hb2⟩
  have F2 := hide ((hb2.block gp (by omega)).trans (unhide F1))
  have HB2 := hide ((unhide HB1).trans (hb2.mono (by omega)))
  have HC2 : Hid (∀ i, i < N → w2.cell? ⟨g, i, none⟩ = some (.int .i64 (l i : Int))) := fun i hi => (hb2.cell (p := ⟨g, i, none⟩) hgl).trans (unhide HC1 i hi)
  have HD2 := hide hc2
  have hg2n : gp + 1 ≤ g2 := by omega
  have c0 : w2.cell? ⟨gp, 0, none⟩ = some (.slice none 0 0) := by simp only [World.cell?, unhide F2]; rfl
  have c1 : w2.cell? ⟨gp, 1, none⟩ = some (.slice none 0 0) := by simp only [World.cell?, unhide F2]; rfl
  have z0 : w2.frozen? ⟨gp, 0, none⟩ = false := by simp only [World.frozen?, unhide F2]; simp
  have z1 : w2.frozen? ⟨gp, 1, none⟩ = false := by simp only [World.frozen?, unhide F2]; simp
  clear HX hc2 hb2 HC1 F1 HB1 hg2
  have HF : Hid (∃ v l, (Ending.returned (.agg #[.slice (some ⟨g, 0, none⟩) N N, .slice (some ⟨g2, 0, none⟩) N N]) : Ending) = .returned v ∧ Cv ((w2.setCell ⟨gp, 0, none⟩ (.slice (some ⟨g, 0, none⟩) N N)).setCell ⟨gp, 1, none⟩ (.slice (some ⟨g2, 0, none⟩) N N)) gp v l N ∧ Bst z l N most ∧ Below gp w ((w2.setCell ⟨gp, 0, none⟩ (.slice (some ⟨g, 0, none⟩) N N)).setCell ⟨gp, 1, none⟩ (.slice (some ⟨g2, 0, none⟩) N N))) := by
    refine ⟨_, l, rfl, ⟨⟨g, g2, rfl, by omega, by omega, fun i hi => ?_, fun i hi => ?_⟩⟩, unhide HBST, ((unhide HB2).setCell (p := ⟨gp, 0, none⟩) (Nat.le_refl _) _).setCell (p := ⟨gp, 1, none⟩) (Nat.le_refl _) _⟩
    · rw [World.cell?_setCell_other _ _ _ _ (fun q => by injection q with q _; omega), World.cell?_setCell_other _ _ _ _ (fun q => by injection q with q _; omega)]
      exact unhide HC2 i hi
    · rw [World.cell?_setCell_other _ _ _ _ (fun q => by injection q with q _; omega), World.cell?_setCell_other _ _ _ _ (fun q => by injection q with q _; omega)]
      exact unhide HD2 i hi
  go_wp2
  refine bodyPost_ret (v := .agg #[.slice (some ⟨g, 0, none⟩) N N, .slice (some ⟨g2, 0, none⟩) N N]) ?_ rfl (by rw [← unhide Hgp]; exact unhide HF)
  rw [results_c (p := 4) (ty := 101) (by kernel_rfl)]
  go_simp
end Go.Proofs.YtfeljhikeddodadGreatDoor
namespace Go.Proofs.YtfeljhikeddodadGreatDoor
open Go.RowKit Pm Cn

/-- Two best codes of the same counts cost the same. -/
theorem good_same {z y y' : Nat → Int} {len most : Nat} (h : GoodL z y len most) (h' : GoodL z y' len most) : upto (fun i => nat y i * nat z i) len = upto (fun i => nat y' i * nat z i) len := by
  have hp : ((posOf (nat z) len).mergeSort (fun a b => decide (a ≤ b))).Perm (posOf (nat z) len) := List.mergeSort_perm _ _
  have ho : Ord ((posOf (nat z) len).mergeSort (fun a b => decide (a ≤ b))) := by
    have := List.pairwise_mergeSort (le := fun a b => decide (a ≤ b)) (fun a b c => by simp; omega) (fun a b => by simp; omega) (posOf (nat z) len)
    exact this.imp (fun h => by simpa using h)
  rw [← h.least _ ho hp, ← h'.least _ ho hp]
theorem upto_le (f : Nat → Nat) (b n : Nat) (h : ∀ i, i < n → f i ≤ b) : upto f n ≤ n * b := by
  induction n with
  | zero => simp [upto]
  | succ n ih =>
    show f n + upto f n ≤ _
    have h1 := h n (by omega)
    have h2 := ih (fun i hi => h i (by omega))
    rw [Nat.succ_mul]
    omega
set_option maxHeartbeats 4000000 in
set_option maxRecDepth 100000 in
theorem cost_dd (ao bo : Option Addr) (N M capA capB : Nat) (z l : Nat → Nat) (w : World) (hP : IsInts w ao N (fun i => (z i : Int))) (hL : IsInts w bo M (fun i => (l i : Int))) (hN : N ≤ 300) (hN0 : 0 < N) (hM0 : 0 < M) (hMN : M ≤ N) (htl : ∀ i, M ≤ i → i < N → l i = 0) (hB : Bst z l N 15) (hz : ∀ i, i < N → z i ≤ 1048576) :
    Calls Tryz.prog 17 #[.slice ao N capA, .slice bo M capB] w fun e w' => e = .returned (.tuple #[.bool true, .bool true]) ∧ Below w.heap.size w w' := by
  have HI := hide (ints_any ao N capA _ w hP (by omega))
  have hsy : (syms (fun i => (z i : Int)) N).length ≤ N := by
    have := List.length_filter_le (fun i => decide (0 < ((z i : Nat) : Int))) (List.range N)
    simpa [syms] using this
  have hbc : ∀ i, i < N → badC ((z i : Nat) : Int) = false := fun i hi => by
    have := hz i hi
    unfold badC
    simp
    omega
  obtain ⟨y0, hg0, hl0⟩ := hB.good
  have HBS := hide hB.same
  have HBL := hide hB.le
  have HG0 := hide (And.intro hg0 hl0)
  have HZ := hide hz
  have HTL := hide htl
  have HP := hide hP
  have HL := hide hL
  clear hP hL hB hg0 hl0 hz htl
  go_enter Tryz.func17, Tryz.ntmps17
  go_wp2_with fail
  refine (unhide HI).mono ?_; rintro e w1 ⟨v1, rfl, hown1, hb1⟩
  obtain ⟨a1, cap1, rfl, hP1⟩ := ints_own hown1 (fun i hi => by have := unhide HZ i hi; omega)
  have HLG := hide (lengths_good a1 N cap1 15 _ w1 hP1 hN (by omega) (by omega) hbc (by omega))
  clear HI hown1 hP1 hbc hsy
  go_wp2_with fail
  refine (unhide HLG).mono ?_; rintro e w2 ⟨g, y, rfl, hown2, hgl, hb2⟩
  have hb2w : Below w.heap.size w w2 := hb1.trans (hb2.mono hb1.size)
  have hylow := hgl.low
  have HY : Hid (∀ i, i < N → ∃ q : Nat, y i = (q : Int) ∧ q ≤ 15 ∧ w2.cell? ⟨g, i, none⟩ = some (.int .i64 (q : Int)) ∧ nat y i = q) := fun i hi => by
    obtain ⟨h1, h2⟩ := hylow i hi
    obtain ⟨q, hq⟩ := Int.eq_ofNat_of_zero_le h1
    refine ⟨q, hq, by omega, ?_, by unfold nat; rw [hq]; simp⟩
    rw [hown2.cellAt i (by omega), intVals_at _ _ _ hi, hq]
  have HEQ : Hid (upto (fun i => l i * z i) N = upto (fun i => nat y i * z i) N) := by
    obtain ⟨h1, h2⟩ := unhide HG0
    have := good_same h1 hgl
    have hnz : (nat fun i => ((z i : Nat) : Int)) = z := by funext i; unfold nat; simp
    rw [hnz, ← h2] at this
    exact this
  obtain ⟨bA, oA, rfl, hmA, hcA⟩ : ∃ b off, ao = some ⟨b, off, none⟩ ∧ N ≤ maxLen ∧ ∀ i, i < N → w2.cell? ⟨b, off + i, none⟩ = some (.int .i64 (z i : Int)) := by
    rcases (unhide HP).below hb2w with h | ⟨b, off, h1, h2, h3⟩
    · omega
    · exact ⟨b, off, h1, h2, fun i hi => (h3 i hi).1⟩
  obtain ⟨bB, oB, rfl, hmB, hcB⟩ : ∃ b off, bo = some ⟨b, off, none⟩ ∧ M ≤ maxLen ∧ ∀ i, i < M → w2.cell? ⟨b, off + i, none⟩ = some (.int .i64 (l i : Int)) := by
    rcases (unhide HL).below hb2w with h | ⟨b, off, h1, h2, h3⟩
    · omega
    · exact ⟨b, off, h1, h2, fun i hi => (h3 i hi).1⟩
  have HCA := hide hcA
  have HCB := hide hcB
  have HX : Hid (∀ i, i ≤ N → upto (fun i => l i * z i) i ≤ 6000000000 ∧ upto (fun i => nat y i * z i) i ≤ 6000000000) := fun i hi => by
    refine ⟨Nat.le_trans (upto_le _ (15 * 1048576) i (fun j hj => Nat.mul_le_mul (unhide HBL j (by omega)) (unhide HZ j (by omega)))) ?_, Nat.le_trans (upto_le _ (15 * 1048576) i (fun j hj => Nat.mul_le_mul ?_ (unhide HZ j (by omega)))) ?_⟩
    · have : i * (15 * 1048576) ≤ 300 * (15 * 1048576) := Nat.mul_le_mul_right _ (by omega)
      omega
    · obtain ⟨q, _, hq, _, he⟩ := unhide HY j (by omega)
      omega
    · have : i * (15 * 1048576) ≤ 300 * (15 * 1048576) := Nat.mul_le_mul_right _ (by omega)
      omega
  have HBW := hide hb2w
  clear HLG hown2 hgl hylow hcA hcB HG0 HP HL hb1 hb2 hb2w
  go_wp2
  go_loopw [8, 9, 10] (fun xv yv iv wr => ∃ i nn : Nat, i ≤ N ∧ iv = .int .i64 (i : Int) ∧ xv = .int .i64 ((upto (fun i => l i * z i) i : Nat) : Int) ∧ yv = .int .i64 ((upto (fun i => nat y i * z i) i : Nat) : Int) ∧ wr = w2.drewN nn) (fun _ _ iv _ => N - (intOf iv).toNat)
  case atStart => exact ⟨0, 0, by omega, rfl, rfl, rfl, rfl⟩
  case round =>
    obtain ⟨i, nn, hi, rfl, rfl, rfl, rfl⟩ := hrel
    obtain ⟨x1, x2⟩ := unhide HX i hi
    by_cases hlt : i < N
    · have g1 : decide ((i : Int) < (N : Int)) = true := decide_eq_true (by omega)
      have g1n : decide (i < N) = true := decide_eq_true hlt
      have hli := unhide HBL i hlt
      have hzi := unhide HZ i hlt
      have hsm := unhide HBS i hlt
      obtain ⟨q, hyq, hq15, hcq, hnq⟩ := unhide HY i hlt
      have hca := unhide HCA i hlt
      have HN1 : Hid (upto (fun i => l i * z i) (i + 1) = upto (fun i => l i * z i) i + l i * z i) := by show l i * z i + _ = _; omega
      have HN2 : Hid (upto (fun i => nat y i * z i) (i + 1) = upto (fun i => nat y i * z i) i + q * z i) := by show nat y i * z i + _ = _; rw [hnq]; omega
      have hm1 : l i * z i ≤ 15728640 := Nat.le_trans (Nat.mul_le_mul hli hzi) (by omega)
      have hm2 : q * z i ≤ 15728640 := Nat.le_trans (Nat.mul_le_mul hq15 hzi) (by omega)
      have hxb := (unhide HX (i + 1) (by omega)).1
      obtain ⟨Z, hZ⟩ : ∃ Z, Z = z i := ⟨_, rfl⟩
      obtain ⟨L, hL⟩ : ∃ L, L = l i := ⟨_, rfl⟩
      rw [← hL, ← hZ] at HN1 hm1
      rw [← hZ] at HN2 hm2 hca hzi hsm
      rw [← hL] at hli hsm
      obtain ⟨P1, hP1⟩ : ∃ P1, P1 = L * Z := ⟨_, rfl⟩
      obtain ⟨P2, hP2⟩ : ∃ P2, P2 = q * Z := ⟨_, rfl⟩
      have zp1 : (Z : Int) * (L : Int) = (P1 : Int) := by rw [hP1, Nat.mul_comm]; simp
      have zp2 : (Z : Int) * (q : Int) = (P2 : Int) := by rw [hP2, Nat.mul_comm]; simp
      rw [← hP1] at HN1 hm1
      rw [← hP2] at HN2 hm2
      obtain ⟨X, hX⟩ : ∃ X, X = upto (fun i => l i * z i) i := ⟨_, rfl⟩
      obtain ⟨Y, hY⟩ : ∃ Y, Y = upto (fun i => nat y i * z i) i := ⟨_, rfl⟩
      rw [← hX] at HN1 x1
      rw [← hY] at HN2 x2
      rw [← hX, ← hY]
      have ha1 : (i : Int) < (N : Int) := by omega
      have HPZ : Hid (0 < L ↔ 0 < Z) := hsm
      clear hZ hP1 hP2 hX hY hyq hnq hsm hxb
      by_cases hz0 : 0 < Z
      · have hl0 : 0 < L := (unhide HPZ).2 hz0
        have g2 : decide ((Z : Int) > 0) = true := decide_eq_true (by omega)
        have g2' : decide ((0 : Int) < (Z : Int)) = true := g2
        have g2n : decide (0 < Z) = true := decide_eq_true hz0
        have g3 : ((L : Int) == 0) = false := beq_eq_false_iff_ne.2 (by omega)
        by_cases hiM : i < M
        · have g4 : decide ((i : Int) < (M : Int)) = true := decide_eq_true (by omega)
          have g4n : decide (i < M) = true := decide_eq_true hiM
          have hcb := unhide HCB i hiM
          rw [← hL] at hcb
          have ha2 : (i : Int) < (M : Int) := by omega
          clear hL HCA HCB
          go_wp2
          go_quiet (fail)
          go_wp2
          go_roundw
          case rel => exact ⟨i + 1, _, by omega, by go_num, by rw [unhide HN1]; go_num, by rw [unhide HN2]; go_num, rfl⟩
          case measure => simp [intOf]; omega
        · exact absurd (unhide HTL i (by omega) hlt) (by omega)
      · have hZ0 : Z = 0 := by omega
        have hL0 : L = 0 := by
          rcases Nat.eq_zero_or_pos L with h | h
          · exact h
          · have := (unhide HPZ).1 h; omega
        have hP10 : P1 = 0 := by subst hZ0; simp at zp1; omega
        have hP20 : P2 = 0 := by subst hZ0; simp at zp2; omega
        by_cases hiM : i < M
        · have g4 : decide ((i : Int) < (M : Int)) = true := decide_eq_true (by omega)
          have g4n : decide (i < M) = true := decide_eq_true hiM
          have hcb := unhide HCB i hiM
          rw [← hL] at hcb
          have ha2 : (i : Int) < (M : Int) := by omega
          subst hZ0 hL0 hP10 hP20
          clear hL HCA HCB zp1 zp2 hz0
          go_wp2
          go_quiet (fail)
          go_wp2
          go_roundw
          case rel => exact ⟨i + 1, _, by omega, by go_num, by rw [unhide HN1]; go_num, by rw [unhide HN2]; go_num, rfl⟩
          case measure => simp [intOf]; omega
        · have g4 : decide ((i : Int) < (M : Int)) = false := decide_eq_false (by omega)
          have g4n : decide (i < M) = false := decide_eq_false hiM
          subst hZ0 hL0 hP10 hP20
          clear hL HCA HCB zp1 zp2 hz0
          go_wp2
          go_quiet (fail)
          go_wp2
          go_roundw
          case rel => exact ⟨i + 1, _, by omega, by go_num, by rw [unhide HN1]; go_num, by rw [unhide HN2]; go_num, rfl⟩
          case measure => simp [intOf]; omega
    · obtain rfl : i = N := by omega
      have g1 : decide ((i : Int) < (i : Int)) = false := by simp
      have hle := unhide HEQ
      have HBF := hide (below_drewN (unhide HBW) nn)
      obtain ⟨X, hX⟩ : ∃ X, X = upto (fun j => l j * z j) i := ⟨_, rfl⟩
      obtain ⟨Y, hY⟩ : ∃ Y, Y = upto (fun j => nat y j * z j) i := ⟨_, rfl⟩
      rw [← hX, ← hY]
      have hXY : X = Y := by rw [hX, hY]; exact hle
      have g5 : decide ((X : Int) ≤ (Y : Int)) = true := decide_eq_true (by omega)
      have g5n : decide (X ≤ Y) = true := decide_eq_true (by omega)
      clear hX hY hle hXY
      go_wp2
      go_ret2
      exact ⟨rfl, unhide HBF⟩
set_option maxHeartbeats 2000000 in
set_option maxRecDepth 100000 in
theorem sameTokens_any (ao bo : Option Addr) (n capA capB : Nat) (t : Tks) (w : World) (hA : IsTokens w ao n t) (hB : IsTokens w bo n t) :
    Calls Tryz.prog 16 #[.slice ao n capA, .slice bo n capB] w fun e w' => e = .returned (.bool true) ∧ ∃ nn, w' = w.drewN nn := by
  have g0 : ((n : Int) != (n : Int)) = false := by simp
  have HA := hide hA
  have HB := hide hB
  clear hA hB
  go_enter Tryz.func16, Tryz.ntmps16
  go_wp2
  go_loopw [5] (fun iv wr => ∃ i nn : Nat, i ≤ n ∧ iv = .int .i64 (i : Int) ∧ wr = w.drewN nn) (fun iv _ => n - (intOf iv).toNat)
  case atStart => exact ⟨0, 0, by omega, rfl, rfl⟩
  case round =>
    obtain ⟨i, nn, hi, rfl, rfl⟩ := hrel
    by_cases hlt : i < n
    · have g1 : decide ((i : Int) < (n : Int)) = true := decide_eq_true (by omega)
      have g1n : decide (i < n) = true := decide_eq_true hlt
      obtain ⟨bA, oA, rfl, _, hcA⟩ := (unhide HA).resolve_left (by omega)
      obtain ⟨bB, oB, rfl, hm, hcB⟩ := (unhide HB).resolve_left (by omega)
      obtain ⟨a0, a1, a2, _⟩ := hcA i hlt
      obtain ⟨b0, b1, b2, _⟩ := hcB i hlt
      have ha1 : (i : Int) < (n : Int) := by omega
      have hnm : n ≤ 9223372036854775807 := by unfold maxLen at hm; omega
      clear hcA hcB HA HB
      go_wp2
      go_quiet (fail)
      go_wp2
      go_roundw
      case rel => exact ⟨i + 1, _, by omega, by go_num, rfl⟩
      case measure => simp [intOf]; omega
    · obtain rfl : i = n := by omega
      have g1 : decide ((i : Int) < (i : Int)) = false := by simp
      go_wp2
      go_ret
      exact ⟨rfl, nn, rfl⟩
end Go.Proofs.YtfeljhikeddodadGreatDoor
