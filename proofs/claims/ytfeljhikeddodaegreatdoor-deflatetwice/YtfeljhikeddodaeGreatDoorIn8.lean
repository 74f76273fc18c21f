/- Walks of the program's reader of packed texts: all lengths of a dynamic block. -/
import Derived.Test.YtfeljhikeddodaeGreatDoorMg28
import Derived.Test.YtfeljhikeddodaeGreatDoorMg7
namespace Go.Proofs.YtfeljhikeddodaeGreatDoor
open Go.RowKit Pm Cn Cd Nf

theorem rowStep_eq (V nb tot : Nat) (l : Nat → Nat) (k : Nat) (row : List Nat) (h : row.length < tot) : rowStep V nb tot l (k, row) =
    match wd V nb l 19 k with
    | none => .done none
    | some i => match runOf V nb (k + l i) i row with
      | none => .done none
      | some (x, n, b) => if tot < row.length + n then .done none else .more (k + l i + b, row ++ List.replicate n x) := by
  unfold rowStep
  simp only
  rw [if_neg (by omega)]
  cases wd V nb l 19 k with
  | none => rfl
  | some i =>
    simp only
    unfold runOf
    by_cases h16 : i < 16
    · rw [if_pos h16, if_pos h16]
      simp only
      rw [if_neg (by omega)]
      rfl
    · rw [if_neg h16, if_neg h16]
      by_cases h0 : i = 16 ∧ row.length = 0
      · rw [if_pos h0, if_pos h0]
      · rw [if_neg h0, if_neg h0]
        cases get V nb (k + l i) (againBits i) with
        | none => rfl
        | some x => rfl
theorem IA.apart {w w' : World} {P p k most g : Nat} {s : ByteArray} {out : List UInt8} {fx : Value} (h : IA w P p s k out most fx) (hb : But (· = g) w w') (h1 : g ≠ p) (h2 : g ≠ P) (h3 : g ≠ rowT w P) : IA w' P p s k out most fx ∧ rowT w' P = rowT w P := by
  have hl := h.lt
  have hp := h.ltp
  have hne : ¬ P = g := fun q => h2 q.symm
  have hnp : ¬ p = g := fun q => h1 q.symm
  obtain ⟨v, hv, hown⟩ := h.text
  have hv' := (hb.cell (p := ⟨P, 1, none⟩) hl hne).trans hv
  refine ⟨⟨(hb.cell (p := ⟨P, 0, none⟩) hl hne).trans h.rd, ⟨v, hv', ?_⟩, (hb.cell (p := ⟨P, 2, none⟩) hl hne).trans h.mst, (hb.cell (p := ⟨P, 3, none⟩) hl hne).trans h.fixed, (hb.frozen (p := ⟨P, 1, none⟩) hl hne).trans h.free1, (hb.frozen (p := ⟨P, 3, none⟩) hl hne).trans h.free3, h.bits.but hb hnp, hp, h.small, h.low, h.glob⟩, rowT_same (hb.cell (p := ⟨P, 1, none⟩) hl hne)⟩
  refine hown.kept (row := some g) hb.grownBy ?_
  cases e : v.ownBlock with
  | none => exact .inl rfl
  | some b => exact .inr (fun q => by injection q with q; exact h3 (by rw [rowT_own hv e, q]))
theorem own_blk {w w' : World} {base size n : Nat} {e : TypeId} {v : Value} {xs : List Value} (h : w.ownsRow base e size v n xs) (hb : ∀ g, v.ownBlock = some g → w'.heap[g]? = w.heap[g]?) : w'.ownsRow base e size v n xs := by
  obtain ⟨h1, h2⟩ := h
  refine ⟨h1, ?_⟩
  rcases h2 with h2 | ⟨g, cap, cur, hv, hg, hh, r⟩
  · exact Or.inl h2
  · exact Or.inr ⟨g, cap, cur, hv, hg, by rw [hb g (by rw [hv]; rfl)]; exact hh, r⟩
theorem IA.aparts {w w' : World} {P p k most : Nat} {s : ByteArray} {out : List UInt8} {fx : Value} {S : Nat → Prop} (h : IA w P p s k out most fx) (hb : But S w w') (h1 : ¬ S p) (h2 : ¬ S P) (h3 : ¬ S (rowT w P)) : IA w' P p s k out most fx ∧ rowT w' P = rowT w P := by
  have hl := h.lt
  have hp := h.ltp
  obtain ⟨v, hv, hown⟩ := h.text
  have hv' := (hb.cell (p := ⟨P, 1, none⟩) hl h2).trans hv
  refine ⟨⟨(hb.cell (p := ⟨P, 0, none⟩) hl h2).trans h.rd, ⟨v, hv', own_blk hown (fun g e => hb.block g (hown.lt g e).2 (by rw [← rowT_own hv e]; exact h3))⟩, (hb.cell (p := ⟨P, 2, none⟩) hl h2).trans h.mst, (hb.cell (p := ⟨P, 3, none⟩) hl h2).trans h.fixed, (hb.frozen (p := ⟨P, 1, none⟩) hl h2).trans h.free1, (hb.frozen (p := ⟨P, 3, none⟩) hl h2).trans h.free3, h.bits.but hb h1, hp, h.small, h.low, h.glob⟩, rowT_same (hb.cell (p := ⟨P, 1, none⟩) hl h2)⟩
theorem Tre.aparts {w w' : World} {P p T G N : Nat} {l : Nat → Nat} {S : Nat → Prop} (h : Tre w P p T G l N) (hb : But S w w') (h1 : ¬ S T) (h2 : ¬ S G) (hr : rowT w' P = rowT w P) : Tre w' P p T G l N := by
  obtain ⟨sy, a, b, c⟩ := h.tree
  exact ⟨⟨sy, a.but hb h1 h2, b, c⟩, h.le, h.few, by rw [hr]; exact h.apT, by rw [hr]; exact h.apG⟩
theorem order_lt : ∀ j, j < 19 → order.getD j 0 < 19 := by decide
section
variable {P p : Nat} {s : ByteArray} {k : Nat} {out : List UInt8} {most : Nat} {fx : Value} {t : TypeId} {xT xB xS : Value}

theorem sym2_any (T G N : Nat) (l : Nat → Nat) (w : World) (h : IA w P p s k out most fx) (hG : Gl w t xT xB xS) (hT : Tre w P p T G l N) :
    Calls Tryz.prog 77 #[.pointer (some ⟨P, 0, none⟩), .pointer (some ⟨T, 0, none⟩)] w fun e w' =>
      (∃ i, wd (tv s) (8 * s.size) l N k = some i ∧ i < N ∧ 0 < l i ∧ e = .returned (.int .i64 (i : Nat)) ∧ IA w' P p s (k + l i) out most fx ∧ Gl w' t xT xB xS ∧ But (· = p) w w' ∧ rowT w' P = rowT w P) ∨
      (wd (tv s) (8 * s.size) l N k = none ∧ e = .panicked (thrown t xT) ∧ Below p w w') := by
  obtain ⟨sy, h1, h2, h3⟩ := hT.tree
  have hlt := h.lt
  have hpP := h.ltp
  have h1' : Tr w T G (nat (zl l)) sy := by rw [nat_zl]; exact h1
  refine (symbol_any T G N (zl l) sy w h hG h1' hT.apT.1 hT.apG.1 h2 h3 (fun i hi => by have := hT.le i hi; unfold zl; omega) hT.few).mono ?_
  rw [nat_zl]
  rintro e w' (⟨i, hi, rfl, hI, hb, hr⟩ | ⟨hi, rfl, hb⟩)
  · exact .inl ⟨i, wd_some hT.le hi, hi.1, hi.2.1, rfl, hI, hG.bits hb h, hb, hr⟩
  · exact .inr ⟨wd_none hi, rfl, hb.below (by omega) (fun i hi q => by omega)⟩
theorem own_but {w w' : World} {base n g : Nat} {v : Value} {xs : List Value} (h : w.ownsRow base 3 1 v n xs) (hb : But (· = g) w w') (hg : g < base) : w'.ownsRow base 3 1 v n xs := by
  refine h.kept (row := some g) hb.grownBy ?_
  cases e : v.ownBlock with
  | none => exact .inl rfl
  | some b => exact .inr (fun q => by injection q with q; have := (h.lt b e).1; omega)
theorem Tre.moved {w w' : World} {T G N : Nat} {l : Nat → Nat} (h : Tre w P p T G l N) (hb : But (· = p) w w') (hr : rowT w' P = rowT w P) : Tre w' P p T G l N := h.ki (KI.of_but hb hr)
set_option maxHeartbeats 4000000 in
set_option maxRecDepth 100000 in
theorem lengths_any (few tot : Nat) (w : World) (h : IA w P p s k out most fx) (hG : Gl w t xT xB xS) (hfew : few ≤ 19) (ht1 : 1 ≤ tot) (ht2 : tot ≤ 400) :
    Calls Tryz.prog 81 #[.pointer (some ⟨P, 0, none⟩), .int .i64 (few : Int), .int .i64 (tot : Int)] w fun e w' =>
      (∃ k' row v, k + 3 * few ≤ 8 * s.size ∧ Right (small (tv s) k few) 19 ∧ Run (rowStep (tv s) (8 * s.size) tot (small (tv s) k few)) (k + 3 * few, []) (some (k', row)) ∧ e = .returned v ∧ w'.ownsRow w.heap.size 3 1 v row.length (natVals row) ∧ (∀ x ∈ row, x ≤ 15) ∧ row.length = tot ∧ IA w' P p s k' out most fx ∧ Gl w' t xT xB xS ∧ But (· = p) w w' ∧ rowT w' P = rowT w P) ∨
      ((¬ k + 3 * few ≤ 8 * s.size ∨ ¬ Right (small (tv s) k few) 19 ∨ Run (rowStep (tv s) (8 * s.size) tot (small (tv s) k few)) (k + 3 * few, []) none) ∧ e = .panicked (thrown t xT) ∧ Below p w w') := by
  have HI := hide h
  have HG := hide hG
  have hlt := h.lt
  have hpP := h.ltp
  have hgl := h.glob
  have hwi := h.bits.within
  have HA0 := hide (AR.new w #[.int .i64 0, .int .i64 0, .int .i64 0, .int .i64 0, .int .i64 0, .int .i64 0, .int .i64 0, .int .i64 0, .int .i64 0, .int .i64 0, .int .i64 0, .int .i64 0, .int .i64 0, .int .i64 0, .int .i64 0, .int .i64 0, .int .i64 0, .int .i64 0, .int .i64 0] 19 144 rfl)
  have hb0 : Below w.heap.size w (w.alloc (.cells #[.int .i64 0, .int .i64 0, .int .i64 0, .int .i64 0, .int .i64 0, .int .i64 0, .int .i64 0, .int .i64 0, .int .i64 0, .int .i64 0, .int .i64 0, .int .i64 0, .int .i64 0, .int .i64 0, .int .i64 0, .int .i64 0, .int .i64 0, .int .i64 0, .int .i64 0] 144)) := (Below.refl _ _).alloc (Nat.le_refl _) _
  have hs0 : w.heap.size < (w.alloc (.cells #[.int .i64 0, .int .i64 0, .int .i64 0, .int .i64 0, .int .i64 0, .int .i64 0, .int .i64 0, .int .i64 0, .int .i64 0, .int .i64 0, .int .i64 0, .int .i64 0, .int .i64 0, .int .i64 0, .int .i64 0, .int .i64 0, .int .i64 0, .int .i64 0, .int .i64 0] 144)).heap.size := by simp
  have entN : ∀ args w, (callFunc 48 args).run Tryz.prog w = .ok (.enter 48 args) w := enters_of Tryz.func48 (by kernel_rfl) rfl
  clear h hG
  go_enter Tryz.func81, Tryz.ntmps81
  go_wp2_with fail
  refine (ofLengths_any _).mono ?_; rintro e wb ⟨rfl, hbb⟩
  have hA1 := (unhide HA0).below hbb
  have hsb := hbb.size
  have hbc : Below wb.heap.size wb (wb.alloc (.cells orderV 144)) := (Below.refl _ _).alloc (Nat.le_refl _) _
  have HO0 := hide (AR.order wb 144)
  have HA2 := hide (hA1.below hbc)
  have hsc : wb.heap.size < (wb.alloc (.cells orderV 144)).heap.size := by simp
  replace hb0 := (hb0.trans (hbb.mono (Nat.le_of_lt hs0))).trans (hbc.mono (by omega))
  have hAO : w.heap.size < wb.heap.size := by omega
  replace hs0 : w.heap.size < (wb.alloc (.cells orderV 144)).heap.size := by omega
  clear HA0 hbb hA1 hsb hbc
  have HA0 := HA2
  clear HA2
  go_wp2
  rw [store_order wb]
  go_wp2
  generalize wb.alloc (.cells orderV 144) = w0 at *
  obtain ⟨O, hO⟩ : ∃ q, q = wb.heap.size := ⟨_, rfl⟩
  rw [← hO] at HO0 hsc hAO ⊢
  clear hO
  have hI0 := (unhide HI).still hb0
  have hG0 := (unhide HG).below hb0 (by omega)
  have hbu0 : But (· = p) w w0 := (But.refl _ _).of_below hb0 (fun k h1 h2 => by omega)
  have HI0 := hide hI0.1
  have HG0 := hide hG0
  have hr0 := hI0.2
  clear hI0 hG0 hb0
  go_loopw [16] (fun i wr => ∃ j : Nat, j ≤ few ∧ i = .int .i64 j ∧ k + 3 * j ≤ 8 * s.size ∧ Hid (IA wr P p s (k + 3 * j) out most fx) ∧ Hid (Gl wr t xT xB xS) ∧ Hid (AR wr w.heap.size 19 (small (tv s) k j)) ∧ Hid (AR wr O 19 (fun i => order.getD i 0)) ∧ But (· = p) w wr ∧ rowT wr P = rowT w P ∧ w.heap.size < wr.heap.size) (fun i _ => few - (intOf i).toNat)
  case atStart => exact ⟨0, by omega, rfl, by omega, HI0, HG0, (unhide HA0).congr (fun i _ => rfl), HO0, hbu0, hr0, hs0⟩
  case round =>
    clear HI0 HG0 HA0 HO0 hbu0 hr0 hs0
    obtain ⟨j, hj, rfl, hkj, HIr, HGr, HAr, HOr, hbr, hrr, hsr⟩ := hrel
    by_cases hlt2 : j < few
    · have g1 : decide ((j : Int) < (few : Int)) = true := by simp; omega
      have g2 : (j : Int) < 19 := by omega
      have co : wr.cell? ⟨O, j, none⟩ = some (.int .i64 (order.getD j 0 : Nat)) := ((unhide HOr) j (by omega)).1
      have hol := order_lt j (by omega)
      have HN := hide (num_any 3 wr.drew ((unhide HIr).still ((Below.refl _ _).drew)).1 ((unhide HGr).but (But.refl (fun _ => False) wr).drew (fun _ _ q => q)) (by omega))
      have HNX : Hid (∀ x, small (tv s) k (j + 1) x = if x = order.getD j 0 then tv s / 2 ^ (k + 3 * j) % 2 ^ 3 else small (tv s) k j x) := fun x => rfl
      obtain ⟨oj, hoj⟩ : ∃ q, q = order.getD j 0 := ⟨_, rfl⟩
      rw [← hoj] at co hol HNX
      have hoi : (oj : Int) < 19 := by omega
      have hrd : rowT wr.drew P = rowT wr P := rowT_same rfl
      have HCO := hide co
      have hcol := World.block_lt_of_cell? _ _ co
      have hnB : ¬ O = w.heap.size := by omega
      clear hoj
      go_wp2_with fail
      refine wp_region_held_drew (S := fun w' => w'.cell? ⟨O, j, none⟩ = some (.int .i64 (oj : Nat))) (by kernel_rfl) co (fun hHeld => ?_)
      refine wpAnyH_take (i := 0) (v := .int .i64 (j : Int)) rfl (by kernel_rfl) (by kernel_rfl) (by kernel_rfl) (fun _ _ _ h => h) (Or.inl ⟨by rfl, ?_⟩) hHeld ?_
      · intro w' hSw
        go_simp
      simp only [Act.put, List.setIfInBounds_toArray]
      refine wpAnyH_take (i := 1) (v := .pointer (some ⟨O, j, none⟩)) rfl (by kernel_rfl) (by kernel_rfl) (by kernel_rfl) (fun _ _ _ h => h) (Or.inl ⟨by rfl, ?_⟩) hHeld ?_
      · intro w' hSw
        go_simp
      simp only [Act.put]
      refine wpAnyH_take (i := 2) (v := .int .i64 (oj : Nat)) rfl (by kernel_rfl) (by kernel_rfl) (by kernel_rfl) (fun _ _ _ h => h) (Or.inl ⟨by rfl, ?_⟩) hHeld ?_
      · intro w' hSw
        go_simp
      simp only [Act.put]
      refine wpAnyH_take (i := 3) (v := .pointer (some ⟨P, 0, none⟩)) rfl (by kernel_rfl) (by kernel_rfl) (by kernel_rfl) (fun _ _ _ h => h) (Or.inl ⟨by rfl, ?_⟩) hHeld ?_
      · intro w' hSw
        go_simp
      simp only [Act.put]
      refine wpAnyH_ready (rs := [4]) (by kernel_rfl) (by simp) ?_
      refine AllReadyH.cons rfl (fun K hK => ?_) AllReadyH.nil
      refine step_calls rfl 48 [.tmp 22, .const (.int .i64 3)] #[49, 3] rfl [.pointer (some ⟨P, 0, none⟩), .int .i64 3] (by simp [Act.eval]) entN ?_
      refine (unhide HN).mono ?_
      rintro e w1 (⟨x, hx, hxl, rfl, hI1, hG1, hb1, hr1⟩ | ⟨hx, rfl, hb1⟩)
      rotate_left
      · have HX : Hid (¬ k + 3 * few ≤ 8 * s.size) := fun q => by
          rw [get_some (by omega)] at hx; cases hx
        have hbw : Below p w w1 := (hbr.below (by omega) (fun i hi q => by omega)).drew.trans hb1
        refine .inr ⟨_, rfl, ?_⟩
        clear hK K HN hx
        go_wp2
        exact ⟨rfl, .inr ⟨.inl (by have := unhide HX; omega), rfl, hbw⟩⟩
      refine .inl ⟨_, rfl, ?_⟩
      have hb1' : But (· = p) wr w1 := (But.refl _ wr).drew.trans hb1
      have co1 := (hb1'.cell (p := ⟨O, j, none⟩) hcol (by show ¬ O = p; omega)).trans (unhide HCO)
      have hkx : k + 3 * j + 3 ≤ 8 * s.size ∧ x = tv s / 2 ^ (k + 3 * j) % 2 ^ 3 := by
        unfold Nf.get at hx
        split at hx
        · next q => injection hx with hx; exact ⟨q, hx.symm⟩
        · cases hx
      have hA1 := (unhide HAr).but hb1' (by show ¬ w.heap.size = p; omega)
      obtain ⟨cB, fB⟩ := hA1 oj hol
      have hA2 : AR (w1.setCell ⟨w.heap.size, oj, none⟩ (.int .i64 (x : Nat))) w.heap.size 19 (small (tv s) k (j + 1)) := (hA1.set oj x hol).congr (fun i _ => by rw [unhide HNX, hkx.2])
      have hbs : Below w.heap.size w1 (w1.setCell ⟨w.heap.size, oj, none⟩ (.int .i64 (x : Nat))) := (Below.refl _ _).setCell (p := ⟨w.heap.size, oj, none⟩) (Nat.le_refl _) _
      have hbn : But (fun q => q = w.heap.size) w1 (w1.setCell ⟨w.heap.size, oj, none⟩ (.int .i64 (x : Nat))) := (But.refl (fun q => q = w.heap.size) w1).setCell (p := ⟨w.heap.size, oj, none⟩) rfl _
      have hrw1 := hI1.row
      have hz1 := hb1'.size
      have hrow1 : rowT w1 P = rowT w P := hr1.trans (hrd.trans hrr)
      have hwrow := (unhide HI).row
      have hI2 := hI1.apart hbn (by omega) (by omega) (by rw [hrow1]; omega)
      have hG2 := hG1.below hbs (by omega)
      have hbw2 : But (· = p) w (w1.setCell ⟨w.heap.size, oj, none⟩ (.int .i64 (x : Nat))) := (hbr.trans hb1').setNew (p := ⟨w.heap.size, oj, none⟩) (Nat.le_refl _) _
      have co2 := (hbn.cell (p := ⟨O, j, none⟩) (World.block_lt_of_cell? _ _ co1) hnB).trans co1
      have HO2 := hide (((unhide HOr).but hb1' (by show ¬ O = p; omega)).but hbn hnB)
      have hsz2 : w.heap.size < (w1.setCell ⟨w.heap.size, oj, none⟩ (.int .i64 (x : Nat))).heap.size := by simp [World.setCell]; omega
      refine hK.out _ _ co1 (fun hHeld => ?_)
      have HI2 := hide hI2.1
      have HR2 := hI2.2.trans hrow1
      have HG2 := hide hG2
      have HA2 := hide hA2
      have hk3 : k + 3 * (j + 1) ≤ 8 * s.size := by omega
      clear hK K HN hx hI1 hG1 hI2 hG2 hA1 hA2 hkx hbs hbn
      simp only [Act.put]
      refine wpAnyH_take (i := 5) (v := .pointer (some ⟨w.heap.size, oj, none⟩)) rfl (by kernel_rfl) (by kernel_rfl) (by kernel_rfl) (fun _ _ _ h => h) (Or.inl ⟨by rfl, ?_⟩) hHeld ?_
      · intro w' hSw
        go_simp
      simp only [Act.put]
      refine wpAnyH_ready (rs := [6]) (by kernel_rfl) (by simp) ?_
      refine AllReadyH.cons rfl (fun K hK => ?_) AllReadyH.nil
      go_simp
      refine hK.out _ _ co2 (fun hHeld => ?_)
      clear hK K
      refine wpAnyH_done (by kernel_rfl) ?_ _
      generalize w1.setCell ⟨w.heap.size, oj, none⟩ (.int .i64 (x : Nat)) = w2 at *
      go_wp2
      go_roundw
      case rel => exact ⟨j + 1, by omega, by go_num, hk3, by rw [show k + 3 * (j + 1) = k + 3 * j + 3 by omega]; exact HI2, HG2, HA2, HO2, hbw2, HR2, hsz2⟩
      case measure => simp [intOf]; omega
    · have : j = few := by omega
      subst this
      have g1 : decide ((j : Int) < (j : Int)) = false := by simp
      have HTR := hide (tree_any (some ⟨w.heap.size, 0, none⟩) 19 19 (zl (small (tv s) k j)) wr ((unhide HAr).ints (by omega) (fun i _ => by have := small_lt (tv s) k j i; omega)) (by omega) (fun i _ => by have := small_lt (tv s) k j i; unfold zl; omega) (unhide HGr))
      have hPr : P < wr.heap.size := (unhide HIr).lt
      go_wp2_with fail
      refine (unhide HTR).mono ?_
      rw [nat_zl]
      rintro e w1 (⟨hright, T, G, sy, rfl, hT, lT, lG, hpm, hso, hb1⟩ | ⟨hright, rfl, hb1⟩)
      rotate_left
      · have HX := hide hright
        have hbw := (hbr.of_below hb1 (fun k h1 h2 => by omega)).below (B := p) (by omega) (fun i hi q => by omega)
        clear HTR hright
        go_wp2
        exact ⟨rfl, .inr ⟨.inr (.inl (unhide HX)), rfl, hbw⟩⟩
      have hI1 := (unhide HIr).still hb1
      have hrow1 := (unhide HIr).row
      have hG1 := (unhide HGr).below hb1 (by omega)
      have hbu1 := hbr.of_below hb1 (fun k h1 h2 => by omega)
      have hTre : Tre w1 P p T G (small (tv s) k j) 19 := ⟨⟨sy, hT, hpm, hso⟩, fun i _ => by have := small_lt (tv s) k j i; omega, by omega, by rw [hI1.2]; omega, by rw [hI1.2]; omega⟩
      have HTre := hide hTre
      have HI1 := hide hI1.1
      have HR1 := hI1.2.trans hrr
      have HG1 := hide hG1
      have HRT := hide hright
      have hz1 := hbu1.size
      obtain ⟨B1, hB1⟩ : ∃ q, q = w1.heap.size := ⟨_, rfl⟩
      have hTB : T < B1 := by rw [hB1]; exact hT.ltT
      have hGB : G < B1 := by rw [hB1]; exact hT.ltG
      have hB1w : w.heap.size < B1 := by have := hb1.size; omega
      have hB1l : B1 ≤ w1.heap.size := by omega
      clear hB1
      clear HTR hT hpm hso hI1 hG1 hTre hright hb1 HIr HGr HAr HOr hbr hrr hrow1
      obtain ⟨sm, hsm⟩ : ∃ q, q = small (tv s) k j := ⟨_, rfl⟩
      rw [← hsm] at HTre HRT
      have HSM := hide hsm
      clear hsm
      obtain ⟨f, hf⟩ : ∃ f, f = rowStep (tv s) (8 * s.size) tot sm := ⟨_, rfl⟩
      have Hf := hide hf
      clear hf
      go_wp2
      go_loopw [11] (fun v wr => ∃ (kq : Nat) (row : List Nat), row.length ≤ tot ∧ Hid (∀ x ∈ row, x ≤ 15) ∧ Hid (wr.ownsRow B1 3 1 v row.length (natVals row)) ∧ B1 ≤ wr.heap.size ∧ Hid (IA wr P p s kq out most fx) ∧ Hid (Gl wr t xT xB xS) ∧ Hid (Tre wr P p T G sm 19) ∧ Hid (∀ r, Run f (kq, row) r → Run f (k + 3 * j, []) r) ∧ But (· = p) w wr ∧ rowT wr P = rowT w P) (fun _ wr => 8 * s.size - posAt wr p)
      case atStart => exact ⟨k + 3 * j, [], by simp, (fun x hx => by cases hx), World.ownsRow_nil _ _ _ _, hB1l, HI1, HG1, HTre, (fun r h => h), hbu1, HR1⟩
      case round =>
        clear HI1 HG1 HTre hbu1 HR1
        obtain ⟨kq, row, hrt, Hsm, Hrow, hB1q, HIq, HGq, HTq, HRUN, hbq, hrq⟩ := hrel
        obtain ⟨a0, c0, rfl, _⟩ := own_shape (unhide Hrow)
        have HPW := hide (rfl : posAt wr p = posAt wr p)
        obtain ⟨pw, hpw⟩ : ∃ q, q = posAt wr p := ⟨_, rfl⟩
        have HPWE := hide hpw
        clear hpw HPW
        have hPq := (unhide HIq).lt
        have hzq := hbq.size
        have HPQ := hide (unhide HIq).bits.pos
        by_cases hlt3 : row.length < tot
        rotate_left
        · have g2 : decide ((row.length : Int) < (tot : Int)) = false := by simp; omega
          have g3 : decide (row.length < tot) = false := by simp; omega
          have HFIN : Hid (Run f (k + 3 * j, []) (some (kq, row))) := unhide HRUN _ (.done (by rw [unhide Hf]; unfold rowStep; rw [if_pos (by show tot ≤ row.length; omega)]))
          go_wp2
          go_ret
          refine .inl ⟨kq, row, _, hkj, ?_, ?_, rfl, own_rebase (unhide Hrow) (by omega), unhide Hsm, by omega, unhide HIq, unhide HGq, hbq, hrq⟩
          · rw [← unhide HSM]; exact unhide HRT
          · rw [← unhide HSM, ← unhide Hf]; exact unhide HFIN
        have g2 : decide ((row.length : Int) < (tot : Int)) = true := by simp; omega
        have g3 : decide (row.length < tot) = true := by simp; omega
        have HSY := hide (sym2_any T G 19 sm wr (unhide HIq) (unhide HGq) (unhide HTq))
        have HST : Hid (f (kq, row) = _) := (congrFun (unhide Hf) (kq, row)).trans (rowStep_eq (tv s) (8 * s.size) tot sm kq row hlt3)
        go_wp2_with fail
        refine (unhide HSY).mono ?_
        rintro e w2 (⟨i, hi, hi19, hpos, rfl, hI2, hG2, hb2, hr2⟩ | ⟨hi, rfl, hb2⟩)
        rotate_left
        · have HFIN : Hid (Run f (k + 3 * j, []) none) := unhide HRUN _ (.done (by rw [unhide HST, hi]))
          have hbw := (hbq.below (B := p) (by omega) (fun i hi q => by omega)).trans hb2
          clear HSY hi HST
          go_wp2
          refine ⟨rfl, .inr ⟨.inr (.inr ?_), rfl, hbw⟩⟩
          rw [← unhide HSM, ← unhide Hf]; exact unhide HFIN
        have hrow2 := own_but (unhide Hrow) hb2 (by omega)
        have HRU := hide (run_any i row (.slice a0 row.length c0) B1 w2 hI2 hG2 hi19 hrow2 (by omega) (unhide Hsm) (by omega))
        have hbu2 := hbq.trans hb2
        have hrr2 := hr2.trans hrq
        have HTr2 := hide ((unhide HTq).moved hb2 hr2)
        have HI2 := hide hI2
        have Hrow2 := hide hrow2
        have HST2 : Hid (f (kq, row) = match runOf (tv s) (8 * s.size) (kq + sm i) i row with
            | none => .done none
            | some (x, n, b) => if tot < row.length + n then .done none else .more (kq + sm i + b, row ++ List.replicate n x)) := by
          show _ = _
          rw [unhide HST, hi]
        clear HSY hi HST hI2 hG2 hrow2
        go_wp2_with fail
        refine (unhide HRU).mono ?_
        rintro e w3 (⟨⟨x, n, bb⟩, hq, hx15, hn1, hn138, rfl, hI3, hG3, hb3, hr3⟩ | ⟨hq, rfl, hb3⟩)
        rotate_left
        · have HFIN : Hid (Run f (k + 3 * j, []) none) := unhide HRUN _ (.done (by rw [unhide HST2, hq]))
          have hbw := (hbu2.below (B := p) (by omega) (fun i hi q => by omega)).trans hb3
          clear HRU hq HST2
          go_wp2
          refine ⟨rfl, .inr ⟨.inr (.inr ?_), rfl, hbw⟩⟩
          rw [← unhide HSM, ← unhide Hf]; exact unhide HFIN
        simp only at hx15 hn1 hn138 hI3
        have HST3 : Hid (f (kq, row) = if tot < row.length + n then .done none else .more (kq + sm i + bb, row ++ List.replicate n x)) := by
          show _ = _
          rw [unhide HST2, hq]
        have hbu3 := hbu2.trans hb3
        have hrr3 := hr3.trans hrr2
        have HTr3 := hide ((unhide HTr2).moved hb3 hr3)
        have Hrow3 := hide (own_but (unhide Hrow2) hb3 (by omega))
        have HI3 := hide hI3
        have HG3 := hide hG3
        have hpos3 : Hid (8 * s.size - posAt w3 p < 8 * s.size - posAt wr p) := by
          show _ < _
          rw [hI3.bits.pos, unhide HPQ]
          have := hI3.bits.within
          omega
        have ht3 := hG3.text
        obtain ⟨rem, hrem⟩ : ∃ q, q + row.length = tot := ⟨tot - row.length, by omega⟩
        have hreml : rem ≤ 400 := by omega
        have Hrem := hide hrem
        clear HRU hq HST2 hI3 hG3 hrem
        by_cases hover : rem < n
        · have g4 : decide ((tot : Int) - (row.length : Int) < (n : Int)) = true := by have := unhide Hrem; simp only [decide_eq_true_eq]; omega
          have HFIN : Hid (Run f (k + 3 * j, []) none) := unhide HRUN _ (.done (by rw [unhide HST3, if_pos (by have := unhide Hrem; omega)]))
          have hbw := hbu3.below (B := p) (by omega) (fun i hi q => by omega)
          go_wp2_with fail
          refine (throw_any t xT _).mono ?_; rintro e w4 ⟨rfl, rfl⟩
          go_wp2
          refine ⟨rfl, .inr ⟨.inr (.inr ?_), rfl, hbw⟩⟩
          rw [← unhide HSM, ← unhide Hf]; exact unhide HFIN
        have g4 : decide ((tot : Int) - (row.length : Int) < (n : Int)) = false := by have := unhide Hrem; simp only [decide_eq_false_iff_not]; omega
        have HRN : Hid (∀ r, Run f (kq + sm i + bb, row ++ List.replicate n x) r → Run f (k + 3 * j, []) r) := fun r hr => unhide HRUN r (.more (s' := (kq + sm i + bb, row ++ List.replicate n x)) (by rw [unhide HST3, if_neg (by have := unhide Hrem; omega)]) hr)
        have HSX : Hid (∀ y ∈ row ++ List.replicate n x, y ≤ 15) := fun y hy => by
          rcases List.mem_append.1 hy with hy | hy
          · exact unhide Hsm y hy
          · rw [(List.mem_replicate.1 hy).2]; exact hx15
        have hlen3 : row.length + n ≤ tot := by have := unhide Hrem; omega
        clear HST3 ht3 Hrow2 HTr2 HI2 Hrow HTq HGq HIq
        go_wp2
        go_loopw [11, 50] (fun v iv wj => ∃ (q : Nat), q ≤ n ∧ iv = .int .i64 q ∧ Hid (wj.ownsRow B1 3 1 v (row ++ List.replicate q x).length (natVals (row ++ List.replicate q x))) ∧ Hid (IA wj P p s (kq + sm i + bb) out most fx) ∧ Hid (Gl wj t xT xB xS) ∧ Hid (Tre wj P p T G sm 19) ∧ But (· = p) w wj ∧ rowT wj P = rowT w P ∧ Hid (posAt wj p = posAt w3 p) ∧ B1 ≤ wj.heap.size) (fun _ iv _ => n - (intOf iv).toNat)
        case atStart => exact ⟨0, by omega, rfl, by rw [List.replicate_zero, List.append_nil]; exact Hrow3, HI3, HG3, HTr3, hbu3, hrr3, (rfl : posAt w3 p = posAt w3 p), by have := hb2.size; have := hb3.size; omega⟩
        case round =>
          clear Hrow3 HI3 HG3 HTr3 hbu3 hrr3
          obtain ⟨q, hq, rfl, Ho, HIj, HGj, HTj, hbj, hrj, Hpj, hBj⟩ := hrel
          by_cases hlt4 : q < n
          · have g6 : decide ((q : Int) < (n : Int)) = true := by simp; omega
            obtain ⟨F, hF⟩ : ∃ F, F = row ++ List.replicate q x := ⟨_, rfl⟩
            have hFl : F.length = row.length + q := by rw [hF, List.length_append, List.length_replicate]
            have HFN : Hid (row ++ List.replicate (q + 1) x = F ++ [x]) := by show _ = _; rw [hF, List.replicate_succ', List.append_assoc]
            rw [← hF] at Ho
            obtain ⟨aF, cF, rfl, _⟩ := own_shape (unhide Ho)
            have Ho1 := hide ((unhide Ho).alloc (.cells #[.int .i64 (x : Int)] 3))
            have hsz1 : (wr.alloc (.cells #[.int .i64 (x : Int)] 3)).heap.size = wr.heap.size + 1 := by simp
            have hltF := (unhide Ho).lt
            have hF5 : F.length ≤ 500 := by omega
            have hzj := hbj.size
            have ba : Below wr.heap.size wr (wr.alloc (.cells #[.int .i64 (x : Int)] 3)) := (Below.refl _ _).alloc (Nat.le_refl _) _
            clear hF hFl Ho
            go_wp2_with (at_builtin; refine wpList_app_ints _ rfl (.tmp 52) (.tmp 54) rfl B1 (.slice aF F.length cF) (.slice (some ⟨wr.heap.size, 0, none⟩) 1 1) F [x] rfl rfl (unhide Ho1) (src_one (by simp)) (by simp; omega) (by rw [hsz1]; omega) ?_)
            intro v6 w6 hown6 hgr6 _
            have hS : ∀ q, (Value.slice aF F.length cF).ownBlock = some q → B1 ≤ q ∧ q < wr.heap.size := hltF
            have hbS : But (fun q => (Value.slice aF F.length cF).ownBlock = some q) wr w6 := ((But.refl _ wr).alloc _).grown hgr6 (fun k e _ => e)
            have hrowj := (unhide HIj).row
            have hwrow := (unhide HI).row
            have hI6 := (unhide HIj).aparts hbS (fun e => by have := (hS _ e).1; omega) (fun e => by have := (hS _ e).1; omega) (fun e => by have := (hS _ e).1; rw [hrj] at this; omega)
            have hG6 := (unhide HGj).but hbS (fun k hk e => by have := (hS _ e).1; omega)
            have hT6 := (unhide HTj).aparts hbS (fun e => by have := (hS _ e).1; omega) (fun e => by have := (hS _ e).1; omega) hI6.2
            have hb6 : But (· = p) w w6 := (hbj.alloc _).grown hgr6 (fun k e hk => by have := (hS k e).1; omega)
            have hz6 := hb6.size
            have hz6b := hgr6.size
            have HO6 := hide hown6
            have HI6 := hide hI6.1
            have hr6 := hI6.2.trans hrj
            have HG6 := hide hG6
            have HT6 := hide hT6
            have Hp6 : Hid (posAt w6 p = posAt w3 p) := by
              show _ = _
              rw [hI6.1.bits.pos, ← unhide Hpj, (unhide HIj).bits.pos]
            have hB6 : B1 ≤ w6.heap.size := by rw [hsz1] at hz6b; omega
            clear hown6 hgr6 hI6 hG6 hT6 hbS hS Ho1 hltF hz6b hsz1 ba
            go_wp2
            go_roundw
            case rel => exact ⟨q + 1, by omega, by go_num, by rw [unhide HFN]; exact own_fix (unhide HO6), HI6, HG6, HT6, hb6, hr6, Hp6, hB6⟩
            case measure => simp [intOf]; omega
          · have : q = n := by omega
            subst this
            have g6 : decide ((q : Int) < (q : Int)) = false := by simp
            have hme : Hid (8 * s.size - posAt wr p < 8 * s.size - pw) := by
              show _ < _
              rw [unhide Hpj, unhide HPWE]; exact unhide hpos3
            go_wp2
            go_roundw
            case rel => exact ⟨_, _, by rw [List.length_append, List.length_replicate]; exact hlen3, HSX, Ho, hBj, HIj, HGj, HTj, HRN, hbj, hrj⟩
            case measure => rw [← unhide HPWE]; exact unhide hme
end
end Go.Proofs.YtfeljhikeddodaeGreatDoor
