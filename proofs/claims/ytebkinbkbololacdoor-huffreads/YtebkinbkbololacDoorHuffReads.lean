/- The statement on symbols that are written by their words: they are read, and no more. -/
import Derived.Test.YtebkinbkbololacDoorHuP
import Derived.Test.YtebkinbkbololacDoorHuT
import Derived.Test.YtebkinbkbololacDoorCoded1
import Derived.Deep.RegionHeld
namespace Go.Proofs.YtebkinbkbololacDoor
open Go.RowKit Pm Cn Cd

/-! ### A writer beside a row of one's own -/
theorem WAt.grown {w w' : World} {p c N : Nat} {row : Option Nat} (h : WAt w p c N) (hg : w.grownBy w' row) (h1 : row ≠ some p) (h2 : row ≠ some (rowOf w p)) : WAt w' p c N ∧ rowOf w' p = rowOf w p := by
  have hp := h.lt
  have hb : w'.heap[p]? = w.heap[p]? := hg.block p hp (fun e => h1 e.symm)
  have hc : ∀ o, w'.cell? ⟨p, o, none⟩ = w.cell? ⟨p, o, none⟩ := fun o => World.cell?_of_block (w := w) hb
  have hf : ∀ o, w'.frozen? ⟨p, o, none⟩ = w.frozen? ⟨p, o, none⟩ := fun o => by simp [World.frozen?, hb]
  obtain ⟨v, hv, hown⟩ := h.whole
  refine ⟨⟨⟨v, (hc 0).trans hv, hown.kept hg ?_⟩, (hc 1).trans h.count, (hf 0).trans h.free0, (hf 1).trans h.free1, h.fits, h.small⟩, rowOf_same (hc 0)⟩
  cases e : v.ownBlock with
  | none => exact .inl rfl
  | some q => exact .inr (fun e2 => h2 (by rw [← e2, rowOf_own hv e]))

theorem own_kept {w w' : World} {p base n : Nat} {v : Value} {xs : List Value} (h : w.ownsRow base 3 1 v n xs) (hk : Kept p w w') (h1 : ∀ q, v.ownBlock = some q → q ≠ p ∧ q ≠ rowOf w p) : w'.ownsRow base 3 1 v n xs := by
  refine ⟨h.1, ?_⟩
  rcases h.2 with h0 | ⟨g, c, cur, rfl, hb, hh, rest⟩
  · exact .inl h0
  · have hq := h1 g rfl
    have hg : g < w.heap.size := by
      rcases Nat.lt_or_ge g w.heap.size with h' | h'
      · exact h'
      · rw [Array.getElem?_eq_none h'] at hh; cases hh
    exact .inr ⟨g, c, cur, rfl, hb, by rw [hk.block g hg hq.1 hq.2]; exact hh, rest⟩

theorem huffReads_long (ao bo : Option Addr) (n ca m cb : Nat) (w : World) (a : Nat → Addr) (hS : Sent w a) (hl : 300 < n ∨ 100 < m) :
    Calls Tryd.prog 3 #[.slice ao n ca, .slice bo m cb] w fun e w' => e = .returned (.bool true) ∧ Below w.heap.size w w' := by
  have HT := hide (two_any (sentV a 1) (sentV a 2) w (hS.cell 1 (by omega)) (hS.cell 2 (by omega)))
  clear hS
  by_cases h1 : 300 < n
  · have hd1 : decide ((300 : Int) < (n : Int)) = true := by simp; omega
    have hd2 : decide ((n : Int) > 300) = true := by simp; omega
    go_enter Tryd.func3, Tryd.ntmps3
    go_wp2_with fail
    refine (unhide HT).mono ?_; rintro e w1 ⟨rfl, hb0⟩
    go_wp2
    go_ret
    exact ⟨rfl, hb0⟩
  · have hd1 : decide ((300 : Int) < (n : Int)) = false := by simp; omega
    have hd2 : decide ((n : Int) > 300) = false := by simp; omega
    have hd3 : decide ((100 : Int) < (m : Int)) = true := by simp; omega
    have hd4 : decide ((m : Int) > 100) = true := by simp; omega
    go_enter Tryd.func3, Tryd.ntmps3
    go_wp2_with fail
    refine (unhide HT).mono ?_; rintro e w1 ⟨rfl, hb0⟩
    go_wp2
    go_ret
    exact ⟨rfl, hb0⟩

set_option maxHeartbeats 2000000 in
theorem huffReads_bad (ao bo : Option Addr) (n ca m cb i : Nat) (z : Nat → Int) (w : World) (a : Nat → Addr) (hS : Sent w a) (hP : IsInts w ao n z) (hl : n ≤ 300) (hm : m ≤ 100) (hi : i = 1 ∨ i = 2) (hv : vc z n = (i : Int) + 1) :
    Calls Tryd.prog 3 #[.slice ao n ca, .slice bo m cb] w fun e w' => e = .returned (.bool true) ∧ Below w.heap.size w w' := by
  have hd1 : decide ((300 : Int) < (n : Int)) = false := by simp; omega
  have hd2 : decide ((n : Int) > 300) = false := by simp; omega
  have hd3 : decide ((100 : Int) < (m : Int)) = false := by simp; omega
  have hd4 : decide ((m : Int) > 100) = false := by simp; omega
  have he : ev (sentV a 1) (sentV a 2) (vc z n) = sentV a i := by
    rw [hv]; rcases hi with rfl | rfl <;> rfl
  have hz : ∀ j, j < n → -9223372036854775808 ≤ z j ∧ z j ≤ 9223372036854775807 := fun j hj => by
    rcases hP with h | ⟨b, off, _, _, h⟩
    · omega
    · exact (h j hj).2
  have HS := hide hS
  have HP := hide hP
  have HE := hide he
  have HZ := hide hz
  have HV := hide hv
  have HT := hide (two_any (sentV a 1) (sentV a 2) w (hS.cell 1 (by omega)) (hS.cell 2 (by omega)))
  clear hS hP he hz hv
  go_enter Tryd.func3, Tryd.ntmps3
  go_wp2_with fail
  refine (unhide HT).mono ?_; rintro e w1 ⟨rfl, hb1⟩
  have HP1 := hide ((unhide HP).below hb1)
  have HS1 := hide ((unhide HS).below hb1)
  go_wp2_with fail
  refine (ints_any ao n ca z _ (unhide HP1) (by omega)).mono ?_; rintro e w3 ⟨v3, rfl, hown3, hb3⟩
  obtain ⟨ao3, c3, rfl, hI3⟩ := ints_own hown3 (unhide HZ)
  have HS3 := hide ((unhide HS1).below hb3)
  have HP3 := hide ((unhide HP1).below hb3)
  have HI3 := hide hI3
  clear hown3 hI3
  go_wp2_with fail
  refine (codes_bad ao3 n c3 z (sentV a 1) (sentV a 2) _ _ _ (unhide HI3) (by omega) ((unhide HS3).cell 1 (by omega)) ((unhide HS3).cell 2 (by omega)) (unhide HE)).mono ?_; rintro e w4 ⟨rfl, rfl⟩
  go_wp2_with fail
  refine (ints_any ao n ca z _ (unhide HP3) (by omega)).mono ?_; rintro e w5 ⟨v5, rfl, hown5, hb5⟩
  obtain ⟨ao5, c5, rfl, hI5⟩ := ints_own hown5 (unhide HZ)
  have HS5 := hide ((unhide HS3).below hb5)
  have HP5 := hide ((unhide HP3).below hb5)
  have HI5 := hide hI5
  clear hown5 hI5
  go_wp2_with fail
  refine (read_bad ao5 n c5 z (sentV a 1) (sentV a 2) _ _ _ (unhide HI5) (by omega) ((unhide HS5).cell 1 (by omega)) ((unhide HS5).cell 2 (by omega)) (unhide HE)).mono ?_; rintro e w6 ⟨rfl, rfl⟩
  go_wp2_with fail
  refine (validCode_any ao n ca z _ (unhide HP5) (by omega)).mono ?_; rintro e w7 ⟨rfl, rfl⟩
  rw [unhide HV]
  go_wp2_with fail
  refine (coded_sent i ((i : Int) + 1) _ a (unhide HS5) (by omega) (by simp)).mono ?_; rintro e w8 ⟨rfl, hb8⟩
  have k3 := hb1.trans (hb3.mono hb1.size)
  have k5 := k3.trans (hb5.mono k3.size)
  have k8 := k5.trans (hb8.mono k5.size)
  go_wp2
  go_ret
  exact ⟨rfl, k8⟩

set_option maxHeartbeats 8000000 in
set_option maxRecDepth 100000 in
theorem huffReads_right (ao bo : Option Addr) (n ca m cb : Nat) (z y : Nat → Int) (w : World) (a : Nat → Addr) (hS : Sent w a) (hP : IsInts w ao n z) (hQ : IsInts w bo m y) (hl : n ≤ 300) (hm : m ≤ 100) (hnb : ¬ Bad z n) (hr : Right (nat z) n) :
    Calls Tryd.prog 3 #[.slice ao n ca, .slice bo m cb] w fun e w' => e = .returned (.bool true) ∧ Below w.heap.size w w' := by
  have hd1 : decide ((300 : Int) < (n : Int)) = false := by simp; omega
  have hd2 : decide ((n : Int) > 300) = false := by simp; omega
  have hd3 : decide ((100 : Int) < (m : Int)) = false := by simp; omega
  have hd4 : decide ((m : Int) > 100) = false := by simp; omega
  have hz15 : ∀ i, i < n → 0 ≤ z i ∧ z i ≤ 15 := fun i hi => by
    rcases Int.lt_or_le (z i) 0 with h | h
    · exact absurd (.inr ⟨i, hi, .inl h⟩) hnb
    rcases Int.lt_or_le 15 (z i) with h' | h'
    · exact absurd (.inr ⟨i, hi, .inr h'⟩) hnb
    · exact ⟨h, h'⟩
  have hz : ∀ j, j < n → -9223372036854775808 ≤ z j ∧ z j ≤ 9223372036854775807 := fun j hj => by have := hz15 j hj; omega
  have HS := hide hS
  have HP := hide hP
  have HQ := hide hQ
  have HZ := hide hz
  have HZ15 := hide hz15
  have HNB := hide hnb
  have HR := hide hr
  have HALL := hide (right_all hr)
  have HT := hide (two_any (sentV a 1) (sentV a 2) w (hS.cell 1 (by omega)) (hS.cell 2 (by omega)))
  clear hS hP hQ hz hz15 hnb hr
  go_enter Tryd.func3, Tryd.ntmps3
  go_wp2_with fail
  refine (unhide HT).mono ?_; rintro e w1 ⟨rfl, hb1⟩
  have HP1 := hide ((unhide HP).below hb1)
  have HS1 := hide ((unhide HS).below hb1)
  go_wp2_with fail
  refine (ints_any ao n ca z _ (unhide HP1) (by omega)).mono ?_; rintro e w3 ⟨v3, rfl, hown3, hb3⟩
  obtain ⟨ao3, c3, rfl, hI3⟩ := ints_own hown3 (unhide HZ)
  have HS3 := hide ((unhide HS1).below hb3)
  have HP3 := hide ((unhide HP1).below hb3)
  have HI3 := hide hI3
  clear hown3 hI3
  go_wp2_with fail
  refine (codes_right ao3 n c3 z (sentV a 1) (sentV a 2) _ (unhide HI3) hl ((unhide HS3).cell 1 (by omega)) ((unhide HS3).cell 2 (by omega)) (unhide HNB) (unhide HR)).mono ?_; rintro e w4 ⟨g, rfl, hown4, hb4⟩
  have HP4 := hide ((unhide HP3).below hb4)
  have HS4 := hide ((unhide HS3).below hb4)
  have HO4 := hide hown4
  clear hown4
  go_wp2_with fail
  refine (ints_any ao n ca z _ (unhide HP4) (by omega)).mono ?_; rintro e w5 ⟨v5, rfl, hown5, hb5⟩
  obtain ⟨ao5, c5, rfl, hI5⟩ := ints_own hown5 (unhide HZ)
  have HS5 := hide ((unhide HS4).below hb5)
  have HO5 := hide (own_below (unhide HO4) hb5)
  have HI5 := hide hI5
  clear hown5 hI5
  go_wp2_with fail
  refine (read_right ao5 n c5 z (sentV a 1) (sentV a 2) _ (unhide HI5) hl ((unhide HS5).cell 1 (by omega)) ((unhide HS5).cell 2 (by omega)) (unhide HNB) (unhide HR)).mono ?_
  rintro e w6 ⟨T, sy, rfl, hT6, hpm, hso, hb6⟩
  have hsl : sy.length ≤ 300 := by rw [hpm.length_eq]; have := syms_length z n; omega
  have k3 := hb1.trans (hb3.mono hb1.size)
  have k4 := k3.trans (hb4.mono k3.size)
  have k5 := k4.trans (hb5.mono k4.size)
  have k6 := k5.trans (hb6.mono k5.size)
  have HO6 := hide (own_below (unhide HO5) hb6)
  have HP6 := hide ((unhide HP).below k6)
  have HQ6 := hide ((unhide HQ).below k6)
  have HT6 := hide hT6
  have Hpm := hide hpm
  have Hso := hide hso
  have HW0 := hide (new_writer w6)
  have hb7 : Below w6.heap.size w6 (w6.alloc (.cells #[.slice none 0 0, .int .i64 0] 38)) := (Below.refl _ _).alloc (Nat.le_refl _) _
  clear hT6 hpm hso hb1 hb3 hb4 hb5 hb6 k3 k4 k5 HS HS1 HS3 HS4 HS5 HP HQ HP1 HP3 HP4 HI3 HI5 HO4 HO5 HT HNB HR
  go_wp2
  generalize w6.alloc (.cells #[.slice none 0 0, .int .i64 0] 38) = w7 at *
  obtain ⟨p, hp⟩ : ∃ p, p = w6.heap.size := ⟨_, rfl⟩
  rw [← hp] at HW0 hb7 ⊢
  have HT6p : Hid (TAt w6 T p (nat z) sy) := by rw [hp]; exact HT6
  have Hp := hide hp
  clear hp HT6
  go_loopw [11, 12] (fun v i wr => ∃ k : Nat, k ≤ m ∧ i = .int .i64 k ∧ Hid (wr.ownsRow p 3 1 v (told (nat z) n y k).length (natVals (told (nat z) n y k))) ∧ Hid (WAt wr p (pk (nat z) (code (nat z) n) (told (nat z) n y k)).1 (pk (nat z) (code (nat z) n) (told (nat z) n y k)).2) ∧
    Hid (∀ q, v.ownBlock = some q → q ≠ p ∧ q ≠ rowOf wr p) ∧ Below p w6 wr) (fun _ i _ => m - (intOf i).toNat)
  case atStart => exact ⟨0, by omega, rfl, World.ownsRow_nil _ _ _ _, HW0, (fun q h => by simp [Value.ownBlock] at h : ∀ q, Value.ownBlock (.slice none 0 0) = some q → q ≠ p ∧ q ≠ rowOf w7 p), hb7⟩
  case round =>
    clear HW0 hb7
    obtain ⟨k, hk, rfl, Hown, HW, Hap, hbr⟩ := hrel
    have htl := told_length (nat z) n y k
    have hbits : (pk (nat z) (code (nat z) n) (told (nat z) n y k)).1 ≤ 15 * 100 := by
      have := pk_le (nat z) (code (nat z) n) (told (nat z) n y k) (fun s hs => by
        have := unhide HZ15 s (told_mem _ _ _ _ _ hs).1
        unfold nat; omega)
      omega
    by_cases hlt : k < m
    · have e1 : decide ((k : Int) < (m : Int)) = true := by simp; omega
      have e2 : (k : Int) < (m : Int) := by omega
      rcases unhide HQ6 with h0 | ⟨b3, o3, rfl, hm3, hY⟩
      · omega
      obtain ⟨c2, y1, y2⟩ := hY k hlt
      have hb3lt : b3 < p := by have := World.block_lt_of_cell? _ _ c2; rw [unhide Hp]; exact this
      rw [← hbr.cell (p := ⟨b3, o3 + k, none⟩) hb3lt] at c2
      clear hY
      by_cases q1 : y k < 0
      · have r1 : decide (y k < 0) = true := by simp; omega
        have Hno := hide (told_no (nat z) n y k (by omega))
        generalize y k = yk at *
        go_wp2
        go_roundw
        case rel => exact ⟨k + 1, by omega, by go_num, by rw [unhide Hno]; exact Hown, by rw [unhide Hno]; exact HW, Hap, hbr⟩
        case measure => simp [intOf]; omega
      have r1 : decide (y k < 0) = false := by simp; omega
      by_cases q2 : (n : Int) ≤ y k
      · have r2 : decide ((n : Int) ≤ y k) = true := by simp; omega
        have r3 : decide (y k ≥ (n : Int)) = true := by simp; omega
        have Hno := hide (told_no (nat z) n y k (by omega))
        generalize y k = yk at *
        go_wp2
        go_roundw
        case rel => exact ⟨k + 1, by omega, by go_num, by rw [unhide Hno]; exact Hown, by rw [unhide Hno]; exact HW, Hap, hbr⟩
        case measure => simp [intOf]; omega
      obtain ⟨s, hs⟩ := Int.eq_ofNat_of_zero_le (show 0 ≤ y k by omega)
      have hsn : s < n := by omega
      have hsn2 : (s : Int) < (n : Int) := by omega
      have r2 : decide ((n : Int) ≤ (s : Int)) = false := by simp; omega
      have r3 : decide ((s : Int) ≥ (n : Int)) = false := by simp; omega
      have r2n : decide (n ≤ s) = false := by simp; omega
      rcases unhide HP6 with h0 | ⟨b1, o1, rfl, hm1, hX⟩
      · omega
      have c1 := (hX s hsn).1
      have hb1lt : b1 < p := by have := World.block_lt_of_cell? _ _ c1; rw [unhide Hp]; exact this
      rw [← hbr.cell (p := ⟨b1, o1 + s, none⟩) hb1lt] at c1
      clear hX
      have hzs := unhide HZ15 s hsn
      obtain ⟨L, hL⟩ := Int.eq_ofNat_of_zero_le hzs.1
      have hnat : nat z s = L := by unfold nat; rw [hL]; rfl
      rw [hL] at c1 hzs
      rw [hs] at c2 r1
      by_cases q3 : L = 0
      · have Hno := hide (told_no (nat z) n y k (by rw [hs]; rintro ⟨_, _, h3⟩; rw [show ((s : Int)).toNat = s from rfl, hnat] at h3; omega))
        subst q3
        clear hs hnat hL q1 q2 y1 y2
        go_wp2
        go_roundw
        case rel => exact ⟨k + 1, by omega, by go_num, by rw [unhide Hno]; exact Hown, by rw [unhide Hno]; exact HW, Hap, hbr⟩
        case measure => simp [intOf]; omega
      -- a word
      have Hyes := hide (told_yes (nat z) n y k s hs hsn (by rw [hnat]; omega))
      have Hpk := hide (pk_one (nat z) (code (nat z) n) (told (nat z) n y k) s)
      rw [hnat] at Hpk
      have c3 := (unhide HO6).cellAt s (by omega)
      rw [u32Vals_at _ _ _ hsn] at c3
      have hglt : g < p := by have := World.block_lt_of_cell? _ _ c3; rw [unhide Hp]; exact this
      rw [← hbr.cell (p := ⟨g, s, none⟩) hglt] at c3
      have hcl := code_lt (nat z) n s hsn (by rw [hnat]; omega) (by rw [hnat]; omega) (unhide HALL)
      rw [hnat] at hcl
      have hL0 : ((L : Int) == 0) = false := by simp; omega
      have hL1 : (L == 0) = false := by simp; omega
      have hL2 : decide (L = 0) = false := by simp; omega
      have hL15 : L ≤ 15 := by omega
      obtain ⟨F, hF⟩ : ∃ F, F = told (nat z) n y k := ⟨_, rfl⟩
      rw [← hF] at Hown HW htl hbits Hyes Hpk
      obtain ⟨pc, hpc⟩ : ∃ q, q = (pk (nat z) (code (nat z) n) F).1 := ⟨_, rfl⟩
      obtain ⟨pN, hpN⟩ : ∃ q, q = (pk (nat z) (code (nat z) n) F).2 := ⟨_, rfl⟩
      rw [← hpc, ← hpN] at HW Hpk
      rw [← hpc] at hbits
      generalize code (nat z) n s = K at *
      have HK : Hid (∀ w', Below p wr w' → (w'.cell? ⟨g, s, none⟩ = some (.int .u32 (K : Nat)) ∧ w'.cell? ⟨b1, o1 + s, none⟩ = some (.int .i64 (L : Nat)))) := fun w' hb' => ⟨(hb'.cell (p := ⟨g, s, none⟩) hglt).trans c3, (hb'.cell (p := ⟨b1, o1 + s, none⟩) hb1lt).trans c1⟩
      have HWd := hide (show WAt wr.drew p _ _ from (unhide HW).below (Below.refl _ _).drew)
      have hown_d : Hid (wr.drew.ownsRow p 3 1 u11 F.length (natVals F)) := (unhide Hown).drew
      have hap_d : Hid (∀ q, u11.ownBlock = some q → q ≠ p ∧ q ≠ rowOf wr.drew p) := Hap
      have hlt_d := (unhide Hown).lt
      clear hs hnat hL hF hpc hpN q1 q2 q3 y1 y2 HW Hown
      go_wp2
      go_region_held (fun w' => (w'.cell? ⟨g, s, none⟩ = some (.int .u32 (K : Nat)) ∧ w'.cell? ⟨b1, o1 + s, none⟩ = some (.int .i64 (L : Nat)))) (first | exact HK.out _ (Below.refl _ _).drew | exact HK.out _ ((Below.refl _ _).drew.trans (hkt.below (unhide HWd) (Nat.le_refl _))))
        (first | (go_at_call 11; refine (turned_yes p pc pN K L _ (unhide HWd) (by omega) hcl (by omega)).mono ?_; rintro e wt ⟨rfl, hWt, hkt⟩))
      have hbt : Below p w6 wt := hbr.trans ((Below.refl _ _).drew.trans (hkt.below (unhide HWd) (Nat.le_refl _)))
      have hown2 := own_kept (unhide hown_d) hkt (unhide hap_d)
      have hap2 : ∀ q, u11.ownBlock = some q → q ≠ p ∧ q ≠ rowOf wt p := fun q hq => by
        have h1 := unhide hap_d q hq
        have h2 := (hlt_d q hq).2
        refine ⟨h1.1, ?_⟩
        rcases hkt.row with e | e
        · rw [e]; exact h1.2
        · intro e2; rw [← e2] at e; exact absurd h2 (Nat.not_lt.2 e)
      have hp6 : p ≤ w6.heap.size := by rw [unhide Hp]; exact Nat.le_refl _
      have hpw : p < wt.heap.size := hWt.lt
      have hrow := hWt.row
      -- the literal's cell, and what is appended
      have hga : wt.grownBy (wt.alloc (.cells #[.int .i64 (s : Int)] 3)) none := ⟨rfl, rfl, rfl, by simp, fun k hk _ => ((Below.refl wt.heap.size wt).alloc (Nat.le_refl _) _).block k hk⟩
      obtain ⟨hWa, hra⟩ := hWt.grown hga (by simp) (by simp)
      have Hown1 := hide (hown2.alloc (.cells #[.int .i64 (s : Int)] 3))
      have hsz1 : (wt.alloc (.cells #[.int .i64 (s : Int)] 3)).heap.size = wt.heap.size + 1 := by simp
      have hba : Below p w6 (wt.alloc (.cells #[.int .i64 (s : Int)] 3)) := hbt.alloc (Nat.le_of_lt hpw) _
      have hlt2 := hown2.lt
      have HWa := hide hWa
      have Hap2 := hide hap2
      clear hWt hkt hown2 hap2 hga hWa hown_d hap_d hlt_d HK HWd
      go_wp2_with (at_builtin; refine wpList_app_ints _ rfl (.tmp 107) (.tmp 109) rfl p u11 (.slice (some ⟨wt.heap.size, 0, none⟩) 1 1) F [s] rfl rfl (unhide Hown1) (src_one (by simp)) (by simp; omega) (by rw [hsz1]; omega) ?_)
      intro v2 w8 hown8 hgr8 hat8
      have hne1 : u11.ownBlock ≠ some p := fun e => (unhide Hap2 p e).1 rfl
      have hne2 : u11.ownBlock ≠ some (rowOf (wt.alloc (.cells #[.int .i64 (s : Int)] 3)) p) := fun e => by rw [hra] at e; exact (unhide Hap2 _ e).2 rfl
      obtain ⟨hW8, hr8⟩ := (unhide HWa).grown hgr8 hne1 hne2
      have hb8 : Below p w6 w8 := hba.grown hgr8 (by rw [hsz1]; omega) (fun q e => (hlt2 q e).1)
      have Hap8 : Hid (∀ q, v2.ownBlock = some q → q ≠ p ∧ q ≠ rowOf w8 p) := fun q hq => by
        rw [hr8, hra]
        rcases hat8 with e | e
        · rw [e] at hq; exact unhide Hap2 q hq
        · rw [e] at hq
          injection hq with hq
          omega
      have Hown8 := hide hown8
      have HW8 : Hid (WAt w8 p (pc + L) (pN + 2 ^ pc * Bt.rev K L)) := hW8
      clear hown8 hgr8 hat8 hne1 hne2 hW8 hr8 hra hlt2
      go_wp2
      go_roundw
      case rel => exact ⟨k + 1, by omega, by go_num, by rw [unhide Hyes]; exact own_fix (unhide Hown8), by rw [unhide Hyes, unhide Hpk]; exact HW8, Hap8, hb8⟩
      case measure => simp [intOf]; omega
    · have e : k = m := by omega
      have e1 : decide ((k : Int) < (m : Int)) = false := by simp; omega
      clear e
      obtain ⟨F, hF⟩ : ∃ F, F = told (nat z) n y k := ⟨_, rfl⟩
      have hmemF : ∀ s ∈ F, s < n ∧ 0 < nat z s := fun s hs => by rw [hF] at hs; exact told_mem _ _ _ _ _ hs
      rw [← hF] at Hown HW htl hbits
      have hfl := (unhide HW).fits
      obtain ⟨pc, hpc⟩ : ∃ q, q = (pk (nat z) (code (nat z) n) F).1 := ⟨_, rfl⟩
      obtain ⟨pN, hpN⟩ : ∃ q, q = (pk (nat z) (code (nat z) n) F).2 := ⟨_, rfl⟩
      have HPK : Hid (pc = (pk (nat z) (code (nat z) n) F).1 ∧ pN = (pk (nat z) (code (nat z) n) F).2) := ⟨hpc, hpN⟩
      rw [← hpc, ← hpN] at HW hfl
      rw [← hpc] at hbits
      have hts := text_size pc pN
      have htv := tv_text pc pN hfl
      have HmF := hide hmemF
      obtain ⟨av, cv, hv, hgv⟩ := own_shape (unhide Hown)
      have Hgv := hide hgv
      have Hv := hide hv
      rw [hv] at Hown ⊢
      clear hF hpc hpN hmemF hfl hgv hv Hap
      go_wp2_with fail
      refine (len_any p pc pN _ (unhide HW)).mono ?_; rintro e w9 ⟨rfl, rfl⟩
      go_wp2_with fail
      refine (text_any p pc pN _ (unhide HW)).mono ?_; rintro e w10 ⟨rfl, rfl⟩
      generalize (⟨(Bt.yl ((pc + 7) / 8) pN).toArray⟩ : ByteArray) = txt at *
      go_wp2_with fail
      refine (newReader_any txt _ (by omega)).mono ?_; rintro e w11 ⟨rfl, hR11, hb11⟩
      obtain ⟨R0, hR0⟩ : ∃ r, r = w10.heap.size := ⟨_, rfl⟩
      have hpR : p ≤ R0 := by rw [hR0]; exact Nat.le_of_lt (unhide HW).lt
      rw [← hR0] at hR11 hb11 ⊢
      have HTw := hide (((unhide HT6p).below hbr (Nat.le_refl _)).below hb11 hpR)
      have hw10 : w10.heap.size ≤ R0 := by rw [hR0]; exact Nat.le_refl _
      have Hown11 : Hid (w11.ownsRow p 3 1 (.slice av F.length cv) F.length (natVals F)) := own_below (unhide Hown) (hb11.mono hw10)
      have hglt : ∀ q, av = some ⟨q, 0, none⟩ → q < R0 := fun q hq => by
        have := ((unhide Hown).lt q (by rw [hq]; rfl)).2
        rw [hR0]; exact this
      have Hglt := hide hglt
      have HR11 := hide hR11
      have hk11 : Below p w6 w11 := hbr.trans (hb11.mono hpR)
      clear hR11 hR0 hglt HW Hown hb11 HT6p
      go_wp2
      go_loopw [16] (fun i wr => ∃ k : Nat, k ≤ F.length ∧ i = .int .i64 k ∧ Hid (RAt wr R0 txt (pk (nat z) (code (nat z) n) (F.take k)).1) ∧ Below R0 w11 wr) (fun i _ => F.length - (intOf i).toNat)
      case atStart => exact ⟨0, by omega, rfl, HR11, Below.refl _ _⟩
      case round =>
        clear HR11
        obtain ⟨k, hk2, rfl, HRk, hbq⟩ := hrel
        by_cases hlt2 : k < F.length
        · have f1 : decide ((k : Int) < (F.length : Int)) = true := by simp; omega
          have f2 : (k : Int) < (F.length : Int) := by omega
          obtain ⟨gt, rfl, _⟩ := unhide Hgv (by omega)
          have ct := own_cell (unhide Hown11) k hlt2
          have hgtR := unhide Hglt gt rfl
          rw [← hbq.cell (p := ⟨gt, k, none⟩) hgtR] at ct
          obtain ⟨σ, hσ⟩ : ∃ x, x = F[k] := ⟨_, rfl⟩
          rw [← hσ] at ct
          have hmσ := unhide HmF F[k] (List.getElem_mem hlt2)
          rw [← hσ] at hmσ
          have hin : σ ∈ sy := (unhide Hpm).symm.subset ((syms_mem z n σ).2 ⟨hmσ.1, by have := hmσ.2; unfold nat at this; omega⟩)
          obtain ⟨mi, hmi, hme⟩ := List.getElem_of_mem hin
          obtain ⟨L, hL⟩ : ∃ L, L = nat z σ := ⟨_, rfl⟩
          obtain ⟨r1, r2, r3, r4, r5, r6, r7⟩ := reads z n sy (unhide Hpm) (unhide Hso) (unhide HZ15) mi hmi L (by rw [hme, hL])
          rw [hme] at r1 r3 r4 r5
          have hcl := code_lt (nat z) n σ hmσ.1 hmσ.2 (by rw [← hL]; exact r7) (unhide HALL)
          rw [← hL] at hcl
          have hFs : F = F.take k ++ σ :: F.drop (k + 1) := by rw [hσ, List.getElem_cons_drop, List.take_append_drop]
          have hnext : (pk (nat z) (code (nat z) n) (F.take (k + 1))).1 = (pk (nat z) (code (nat z) n) (F.take k)).1 + L := by
            rw [List.take_succ_eq_append_getElem hlt2, ← hσ, pk_one, hL]
          have hpcF := (unhide HPK).1
          have hpNF := (unhide HPK).2
          have hfit : (pk (nat z) (code (nat z) n) (F.take k)).1 + L ≤ pc := by
            rw [hpcF]
            conv => rhs; rw [hFs, pk_append]
            show _ ≤ _ + (nat z σ + _)
            omega
          have hbitsj : ∀ j, j < L → tv txt / 2 ^ ((pk (nat z) (code (nat z) n) (F.take k)).1 + j) % 2 = code (nat z) n σ / 2 ^ (L - 1 - j) % 2 := fun j hj => by
            have := pk_bits (nat z) (code (nat z) n) (F.take k) (F.drop (k + 1)) σ j (by omega)
            rw [← hFs, ← hpNF, ← hL] at this
            rw [htv]
            exact this
          have HN := hide (next_found T p R0 _ mi L (code (nat z) n σ) txt (nat z) sy wr ((unhide HTw).below hbq hpR) hpR (unhide HRk) hmi hsl r6 r7 (by omega) hcl r1 r2 r3 r4 r5 hbitsj)
          rw [hme] at HN
          have Hnext := hide hnext
          clear r1 r2 r3 r4 r5 hbitsj hFs hpcF hpNF hnext hcl hσ hL hme hin hmσ
          go_wp2_with fail
          refine (unhide HN).mono ?_; rintro e ws ⟨rfl, hRs, hbs⟩
          have cts := (hbs.cell (p := ⟨gt, k, none⟩) hgtR).trans ct
          have HRs := hide hRs
          have hbq2 := hbq.trans hbs
          clear hRs ct HN
          go_wp2
          go_roundw
          case rel => exact ⟨k + 1, by omega, by go_num, by rw [unhide Hnext]; exact HRs, hbq2⟩
          case measure => simp [intOf]; omega
        · have f1 : decide ((k : Int) < (F.length : Int)) = false := by simp; omega
          have HRe : Hid (RAt wr R0 txt pc) := by
            rw [(unhide HPK).1]
            have h := unhide HRk
            rw [List.take_of_length_le (by omega)] at h
            exact h
          have kf : Below w.heap.size w wr := k6.trans ((hk11.trans (hbq.mono hpR)).mono (by have := k6.size; rw [unhide Hp]; exact this))
          clear HRk
          go_wp2_with fail
          refine (at_any R0 pc txt _ (unhide HRe)).mono ?_; rintro e we ⟨rfl, rfl⟩
          go_wp2
          go_ret
          exact ⟨by simp, kf⟩

theorem huffReads_any (ao : Option Addr) (n ca : Nat) (z : Nat → Int) (bo : Option Addr) (m cb : Nat) (y : Nat → Int) (w : World) (a : Nat → Addr) (hS : Sent w a) (hP : IsInts w ao n z) (hQ : IsInts w bo m y) :
    Calls Tryd.prog 3 #[.slice ao n ca, .slice bo m cb] w fun e w' => e = .returned (.bool true) ∧ Below w.heap.size w w' := by
  by_cases h : 300 < n ∨ 100 < m
  · exact huffReads_long ao bo n ca m cb w a hS h
  by_cases hb : Bad z n
  · exact huffReads_bad ao bo n ca m cb 1 z w a hS hP (by omega) (by omega) (.inl rfl) (vc_bad hb)
  by_cases hr : Right (nat z) n
  · exact huffReads_right ao bo n ca m cb z y w a hS hP hQ (by omega) (by omega) hb hr
  · exact huffReads_bad ao bo n ca m cb 2 z w a hS hP (by omega) (by omega) (.inr rfl) (vc_wrong hb hr)
end Go.Proofs.YtebkinbkbololacDoor
