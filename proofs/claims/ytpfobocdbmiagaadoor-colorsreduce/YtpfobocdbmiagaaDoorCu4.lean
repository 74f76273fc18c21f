/- Count and Exact: the program's. -/
import Derived.Test.YtpfobocdbmiagaaDoorMg7
namespace Go.Proofs.YtpfobocdbmiagaaDoor
open Go.RowKit
theorem Told.sub {w : World} {l k : List Nat} {a : Nat → Addr} (h : Told w l a) (hs : ∀ i, i ∈ k → i ∈ l) : Told w k a := fun i hi => h i (hs i hi)

set_option maxHeartbeats 2000000 in
set_option maxRecDepth 100000 in
theorem count_bad (W H : Int) (a : Option Addr) (n c : Nat) (w : World) (aS : Nat → Addr) (hS : Told w [1, 2] aS) (hR : ¬ RightP W H n) :
    Calls Tryd.prog 9 #[.agg #[.int .i64 W, .int .i64 H, .slice a n c]] w fun e w' => e = .returned (.tuple #[.slice none 0 0, sentV aS 2]) ∧ Below w.heap.size w w' := by
  have e1 := fun w => isRight_any W H a n c w
  rw [decide_eq_false hR] at e1
  have E1 := hide e1
  have HG : Hid (∀ w', Below w.heap.size w w' → w'.cell? ⟨0, 0, none⟩ = some (sentV aS 2)) := fun w' hb => (hS.below hb) 2 (by simp)
  generalize sentV aS 2 = s2 at *
  clear e1 hS hR
  have HA := hide (al1 w (.cells #[.int .i64 W, .int .i64 H, .slice a n c] 24))
  obtain ⟨B, hB⟩ : ∃ B, B = w.heap.size := ⟨_, rfl⟩
  go_enter Tryd.func9, Tryd.ntmps9
  go_wp2_with fail
  generalize w.alloc (.cells #[.int .i64 W, .int .i64 H, .slice a n c] 24) = w1 at *
  rw [← hB] at HA HG ⊢
  obtain ⟨hs1, k1, hb1⟩ := unhide HA
  have HB1 := hide hb1
  have HBE := hide hB
  have HK1 := hide k1
  clear HA hb1 k1 hB
  refine (unhide E1 _).mono ?_; rintro e w2 ⟨rfl, hb2⟩
  have HB2 := hide ((unhide HB1).trans (hb2.mono (by omega)))
  have c1 := unhide HG _ (unhide HB2)
  clear hb2 HB1 HG HK1 E1
  go_wp2
  go_quiet (fail)
  go_wp2
  go_ret2
  rw [← unhide HBE]
  exact ⟨rfl, below_drewN (unhide HB2) _⟩

set_option maxHeartbeats 2000000 in
set_option maxRecDepth 100000 in
theorem count_ok (W H : Int) (a : Option Addr) (n c : Nat) (p : Nat → Px) (w : World) (hP : IsPx w a n p) (hn : n ≤ 70000) (hR : RightP W H n) :
    Calls Tryd.prog 9 #[.agg #[.int .i64 W, .int .i64 H, .slice a n c]] w fun e w' => ∃ a1 c1, e = .returned (.tuple #[.slice a1 (ulk p n).length c1, .nilIface]) ∧ w'.ownsRow w.heap.size 42 5 (.slice a1 (ulk p n).length c1) (ulk p n).length (usL (ucnt p n)) ∧ Below w.heap.size w w' := by
  have e1 := fun w => isRight_any W H a n c w
  rw [decide_eq_true hR] at e1
  have E1 := hide e1
  have HC := hide (fun w' (hb : Below w.heap.size w w') => counted_any a n c p w' (hP.below hb) hn)
  clear e1 hP hR
  have HA := hide (al1 w (.cells #[.int .i64 W, .int .i64 H, .slice a n c] 24))
  obtain ⟨B, hB⟩ : ∃ B, B = w.heap.size := ⟨_, rfl⟩
  go_enter Tryd.func9, Tryd.ntmps9
  go_wp2_with fail
  generalize w.alloc (.cells #[.int .i64 W, .int .i64 H, .slice a n c] 24) = w1 at *
  rw [← hB] at HA HC ⊢
  obtain ⟨hs1, k1, hb1⟩ := unhide HA
  have HB1 := hide hb1
  have HBE := hide hB
  have HK1 := hide k1
  clear HA hb1 k1 hB
  refine (unhide E1 _).mono ?_; rintro e w2 ⟨rfl, hb2⟩
  have hz2 := hb2.size
  have HB2 := hide ((unhide HB1).trans (hb2.mono (by omega)))
  have HK2 := hide (blk_below (unhide HK1) hb2 (blk_lt (unhide HK1)))
  have x2 : w2.cell? ⟨B, 2, none⟩ = some (.slice a n c) := blk_cell (unhide HK2) 2
  clear hb2 HB1 HK1 E1
  go_wp2_with fail
  refine (unhide HC _ (unhide HB2)).mono ?_
  rintro e w3 ⟨a1, c1, a2, c2, rfl, ⟨ho1, _⟩, hb3⟩
  have HF := hide (show w3.ownsRow B 42 5 (.slice a1 (ulk p n).length c1) (ulk p n).length (usL (ucnt p n)) from own_rebase ho1 (by omega))
  have HB3 := hide ((unhide HB2).trans (hb3.mono (by omega)))
  clear ho1 hb3 HC HB2
  go_wp2
  go_ret2
  rw [← unhide HBE]
  exact ⟨a1, c1, rfl, unhide HF, unhide HB3⟩

set_option maxHeartbeats 2000000 in
set_option maxRecDepth 100000 in
theorem exact_err (W H : Int) (a : Option Addr) (n c : Nat) (m : Int) (w : World) (aS : Nat → Addr) (hS : Told w [1, 2] aS) (hE : cE W H n m ≠ 0) :
    Calls Tryd.prog 11 #[.agg #[.int .i64 W, .int .i64 H, .slice a n c], .int .i64 m] w fun e w' => e = .returned (.tuple #[.slice none 0 0, .slice none 0 0, erV aS (cE W H n m)]) ∧ Below w.heap.size w w' := by
  have HC := hide (fun w' (hb : Below w.heap.size w w') => ccheck_any W H a n c m w' aS ((hS.sub (by simp)).below hb))
  obtain ⟨t, v, hv⟩ := erV_some (a := aS) hE
  rw [hv] at HC ⊢
  clear hS hE hv
  have HA := hide (al1 w (.cells #[.int .i64 W, .int .i64 H, .slice a n c] 24))
  obtain ⟨B, hB⟩ : ∃ B, B = w.heap.size := ⟨_, rfl⟩
  go_enter Tryd.func11, Tryd.ntmps11
  go_wp2_with fail
  generalize w.alloc (.cells #[.int .i64 W, .int .i64 H, .slice a n c] 24) = w1 at *
  rw [← hB] at HA HC ⊢
  obtain ⟨hs1, k1, hb1⟩ := unhide HA
  have HB1 := hide hb1
  have HBE := hide hB
  have HK1 := hide k1
  clear HA hb1 k1 hB
  refine (unhide HC _ (unhide HB1)).mono ?_; rintro e w2 ⟨rfl, hb2⟩
  have HB2 := hide ((unhide HB1).trans (hb2.mono (by omega)))
  clear hb2 HB1 HK1 HC
  go_wp2
  go_ret3
  rw [← unhide HBE]
  exact ⟨rfl, unhide HB2⟩

set_option maxHeartbeats 2000000 in
set_option maxRecDepth 100000 in
theorem exact_many (W H : Int) (a : Option Addr) (n c : Nat) (p : Nat → Px) (m : Int) (w : World) (aS : Nat → Addr) (hS : Told w [1, 2, 6] aS) (hP : IsPx w a n p) (hn : n ≤ 70000) (hE : cE W H n m = 0) (hM : m < ((ulk p n).length : Int)) :
    Calls Tryd.prog 11 #[.agg #[.int .i64 W, .int .i64 H, .slice a n c], .int .i64 m] w fun e w' => e = .returned (.tuple #[.slice none 0 0, .slice none 0 0, sentV aS 6]) ∧ Below w.heap.size w w' := by
  obtain ⟨hR, h1, h256⟩ := cE_zero hE
  obtain ⟨m, rfl⟩ := Int.eq_ofNat_of_zero_le (show 0 ≤ m by omega)
  have HC := hide (fun w' (hb : Below w.heap.size w w') => ccheck_any W H a n c m w' aS ((hS.sub (by simp)).below hb))
  rw [hE] at HC
  have HC : Hid (∀ w', Below w.heap.size w w' → Calls Tryd.prog 29 #[.agg #[.int .i64 W, .int .i64 H, .slice a n c], .int .i64 (m : Int)] w' fun e w'' => e = .returned .nilIface ∧ Below w'.heap.size w' w'') := HC
  have HK := hide (fun w' (hb : Below w.heap.size w w') => counted_any a n c p w' (hP.below hb) hn)
  have HG : Hid (∀ w', Below w.heap.size w w' → w'.cell? ⟨1, 0, none⟩ = some (sentV aS 6)) := fun w' hb => (hS.below hb) 6 (by simp)
  generalize sentV aS 6 = s6 at *
  clear hS hP hE hR
  have HA := hide (al1 w (.cells #[.int .i64 W, .int .i64 H, .slice a n c] 24))
  obtain ⟨B, hB⟩ : ∃ B, B = w.heap.size := ⟨_, rfl⟩
  go_enter Tryd.func11, Tryd.ntmps11
  go_wp2_with fail
  generalize w.alloc (.cells #[.int .i64 W, .int .i64 H, .slice a n c] 24) = w1 at *
  rw [← hB] at HA HC HK HG ⊢
  obtain ⟨hs1, k1, hb1⟩ := unhide HA
  have HB1 := hide hb1
  have HBE := hide hB
  have HK1 := hide k1
  clear HA hb1 k1 hB
  refine (unhide HC _ (unhide HB1)).mono ?_; rintro e w2 ⟨rfl, hb2⟩
  have hz2 := hb2.size
  have HB2 := hide ((unhide HB1).trans (hb2.mono (by omega)))
  have HK2 := hide (blk_below (unhide HK1) hb2 (blk_lt (unhide HK1)))
  have x2 : w2.cell? ⟨B, 2, none⟩ = some (.slice a n c) := blk_cell (unhide HK2) 2
  clear hb2 HB1 HK1 HC
  go_wp2_with fail
  refine (unhide HK _ (unhide HB2)).mono ?_
  rintro e w3 ⟨a1, c1, a2, c2, rfl, ⟨ho1, ho2⟩, hb3⟩
  have hz3 := hb3.size
  have HB3 := hide ((unhide HB2).trans (hb3.mono (by omega)))
  have HO1 := hide ho1
  have HO2 := hide ho2
  obtain ⟨L, hL⟩ : ∃ L, L = (ulk p n).length := ⟨_, rfl⟩
  rw [← hL] at hM HO1 ⊢
  have HL := hide hL
  clear ho1 ho2 hb3 HK HB2 x2 HK2 hL
  have d1 : decide ((L : Int) > (m : Int)) = true := decide_eq_true (by omega)
  have d1' : decide ((m : Int) < (L : Int)) = true := d1
  have d1n : decide (m < L) = true := decide_eq_true (by omega)
  have c6 := unhide HG _ (unhide HB3)
  clear HO1 HO2 HG hM HL
  go_wp2
  go_quiet (fail)
  go_wp2
  go_ret3
  rw [← unhide HBE]
  exact ⟨rfl, below_drewN (unhide HB3) _⟩

set_option maxHeartbeats 2000000 in
set_option maxRecDepth 100000 in
theorem exact_ok (W H : Int) (a : Option Addr) (n c : Nat) (p : Nat → Px) (m : Int) (w : World) (aS : Nat → Addr) (hS : Told w [1, 2] aS) (hP : IsPx w a n p) (hn : n ≤ 70000) (hE : cE W H n m = 0) (hM : ((ulk p n).length : Int) ≤ m) :
    Calls Tryd.prog 11 #[.agg #[.int .i64 W, .int .i64 H, .slice a n c], .int .i64 m] w fun e w' => ∃ a1 c1 a2 c2, e = .returned (.tuple #[.slice a1 (ulk p n).length c1, .slice a2 n c2, .nilIface]) ∧ IsPx w' a1 (ulk p n).length (fun i => (ulk p n).getD i default) ∧ w'.ownsRow w.heap.size 3 1 (.slice a2 n c2) n (nV (nmL p n)) ∧ Below w.heap.size w w' := by
  obtain ⟨hR, h1, h256⟩ := cE_zero hE
  obtain ⟨m, rfl⟩ := Int.eq_ofNat_of_zero_le (show 0 ≤ m by omega)
  have HC := hide (fun w' (hb : Below w.heap.size w w') => ccheck_any W H a n c m w' aS ((hS.sub (by simp)).below hb))
  rw [hE] at HC
  have HC : Hid (∀ w', Below w.heap.size w w' → Calls Tryd.prog 29 #[.agg #[.int .i64 W, .int .i64 H, .slice a n c], .int .i64 (m : Int)] w' fun e w'' => e = .returned .nilIface ∧ Below w'.heap.size w' w'') := HC
  have HK := hide (fun w' (hb : Below w.heap.size w w') => counted_any a n c p w' (hP.below hb) hn)
  have HCO := hide (fun a n c u w' (h : IsUs w' a n u) hn => colorsOf_any a n c u w' h hn)
  have hul := ulk_len p n
  clear hS hP hE hR
  have HA := hide (al1 w (.cells #[.int .i64 W, .int .i64 H, .slice a n c] 24))
  obtain ⟨B, hB⟩ : ∃ B, B = w.heap.size := ⟨_, rfl⟩
  go_enter Tryd.func11, Tryd.ntmps11
  go_wp2_with fail
  generalize w.alloc (.cells #[.int .i64 W, .int .i64 H, .slice a n c] 24) = w1 at *
  rw [← hB] at HA HC HK ⊢
  obtain ⟨hs1, k1, hb1⟩ := unhide HA
  have HB1 := hide hb1
  have HBE := hide hB
  have HK1 := hide k1
  clear HA hb1 k1 hB
  refine (unhide HC _ (unhide HB1)).mono ?_; rintro e w2 ⟨rfl, hb2⟩
  have hz2 := hb2.size
  have HB2 := hide ((unhide HB1).trans (hb2.mono (by omega)))
  have HK2 := hide (blk_below (unhide HK1) hb2 (blk_lt (unhide HK1)))
  have x2 : w2.cell? ⟨B, 2, none⟩ = some (.slice a n c) := blk_cell (unhide HK2) 2
  clear hb2 HB1 HK1 HC
  go_wp2_with fail
  refine (unhide HK _ (unhide HB2)).mono ?_
  rintro e w3 ⟨a1, c1, a2, c2, rfl, ⟨ho1, ho2⟩, hb3⟩
  have hz3 := hb3.size
  have HB3 := hide ((unhide HB2).trans (hb3.mono (by omega)))
  have HO1 := hide ho1
  have HO2 := hide ho2
  obtain ⟨L, hL⟩ : ∃ L, L = (ulk p n).length := ⟨_, rfl⟩
  rw [← hL] at hM HO1 ⊢
  have HL := hide hL
  clear ho1 ho2 hb3 HK HB2 x2 HK2 hL
  have d1 : decide ((L : Int) > (m : Int)) = false := decide_eq_false (by omega)
  have d1' : decide ((m : Int) < (L : Int)) = false := d1
  have d1n : decide (m < L) = false := decide_eq_false (by omega)
  have hLb : L ≤ 70000 := by rw [unhide HL]; omega
  have HU := hide (own_us (unhide HO1) (by rw [ucnt_length, unhide HL]) (by unfold maxLen; omega))
  clear HO1 hM hul
  go_wp2_with fail
  refine (unhide HCO _ _ _ _ _ (unhide HU) hLb).mono ?_
  rintro e w4 ⟨a4, c4, rfl, ho4, hb4⟩
  have HB4 := hide ((unhide HB3).trans (hb4.mono (by omega)))
  have HO2 := hide (own_rebase (own_belowP (unhide HO2) hb4) (show B ≤ w2.heap.size by omega))
  have hp4 : IsPx w4 a4 L (fun i => (ulk p n).getD i default) := by
    rw [pxL_vals] at ho4
    have hl4 := colL_length (fun i => (ucnt p n).getD i default) L
    rw [hl4] at ho4
    refine (own_px ho4 (by unfold maxLen; omega)).congr (fun i hi => ?_)
    show (colL _ L).getD i default = _
    rw [colL_at _ _ _ hi]
    have hi' : i < (ulk p n).length := by rw [← unhide HL]; exact hi
    unfold ucnt cntH
    rw [List.getD_eq_getElem?_getD, List.getElem?_map, List.getD_eq_getElem?_getD, List.getElem?_eq_getElem hi']
    rfl
  have HP4 := hide hp4
  clear ho4 hb4 hp4 HU HB3 HCO
  go_wp2
  go_ret3
  rw [← unhide HBE, ← unhide HL]
  exact ⟨a4, c4, a2, c2, rfl, unhide HP4, unhide HO2, unhide HB4⟩
end Go.Proofs.YtpfobocdbmiagaaDoor
