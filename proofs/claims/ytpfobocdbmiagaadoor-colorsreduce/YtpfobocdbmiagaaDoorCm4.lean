/- Better, Map, Far: the program's. -/
import Derived.Test.YtpfobocdbmiagaaDoorCm3
import Derived.Test.YtpfobocdbmiagaaDoorCu4
import Derived.Test.YtpfobocdbmiagaaDoorCf4
namespace Go.Proofs.YtpfobocdbmiagaaDoor
open Go.RowKit

theorem farU_le (p q : Nat → Px) (n m : Nat) (hn : n ≤ 70000) : farU (usF p n) q m (ulk p n).length ≤ 1000000000000 := by
  rw [farU_all]
  exact Nat.le_trans (farN_le p q n m) (Nat.le_trans (Nat.mul_le_mul_right 260100 hn) (by omega))
theorem mpL_by (p q : Nat → Px) (n m : Nat) (i : Nat) (h : i < n) : (nrL (usF p n) q m (ulk p n).length).getD (nmb p i) 0 = lst q (p i) m := by
  rw [nrL_at _ _ _ _ _ (nmb_lt p h)]
  have hc := nmb_at p h
  unfold usF ucnt cntH
  rw [List.getD_eq_getElem?_getD, List.getElem?_map, hc]
  rfl


set_option maxHeartbeats 4000000 in
set_option maxRecDepth 100000 in
theorem map_err (W H : Int) (a : Option Addr) (n c : Nat) (b : Option Addr) (M d : Nat) (w : World) (aS : Nat → Addr) (hS : Told w [1, 2] aS) (hE : cE W H n (M : Int) ≠ 0) :
    Calls Tryd.prog 18 #[.agg #[.int .i64 W, .int .i64 H, .slice a n c], .slice b M d] w fun e w' => e = .returned (.tuple #[.slice none 0 0, erV aS (cE W H n M)]) ∧ Below w.heap.size w w' := by
  have HC := hide (fun w' (hb : Below w.heap.size w w') => ccheck_any W H a n c (M : Int) w' aS (hS.below hb))
  obtain ⟨t, v, hv⟩ := erV_some (a := aS) hE
  rw [hv] at HC ⊢
  clear hS hE hv
  have HA := hide (al1 w (.cells #[.int .i64 W, .int .i64 H, .slice a n c] 24))
  obtain ⟨B, hB⟩ : ∃ B, B = w.heap.size := ⟨_, rfl⟩
  go_enter Tryd.func18, Tryd.ntmps18
  go_wp2_with fail
  generalize w.alloc (.cells #[.int .i64 W, .int .i64 H, .slice a n c] 24) = w1 at *
  rw [← hB] at HA HC ⊢
  obtain ⟨hs1, k1, hb1⟩ := unhide HA
  have HB1 := hide hb1
  have HBE := hide hB
  have HK1 := hide k1
  clear HA hb1 k1 hB
  refine (unhide HC _ (unhide HB1)).mono ?_; rintro e w2 ⟨rfl, hb2⟩
  have HB2 := hide ((unhide HB1).trans (hb2.mono (by omega)))
  clear hb2 HB1 HK1 HC
  go_wp2
  go_ret2
  rw [← unhide HBE]
  exact ⟨rfl, unhide HB2⟩

set_option maxHeartbeats 4000000 in
set_option maxRecDepth 100000 in
theorem far_err (W H : Int) (a : Option Addr) (n c : Nat) (b : Option Addr) (M d : Nat) (w : World) (aS : Nat → Addr) (hS : Told w [1, 2] aS) (hE : cE W H n (M : Int) ≠ 0) :
    Calls Tryd.prog 20 #[.agg #[.int .i64 W, .int .i64 H, .slice a n c], .slice b M d] w fun e w' => e = .returned (.tuple #[.int .i64 0, erV aS (cE W H n M)]) ∧ Below w.heap.size w w' := by
  have HC := hide (fun w' (hb : Below w.heap.size w w') => ccheck_any W H a n c (M : Int) w' aS (hS.below hb))
  obtain ⟨t, v, hv⟩ := erV_some (a := aS) hE
  rw [hv] at HC ⊢
  clear hS hE hv
  have HA := hide (al1 w (.cells #[.int .i64 W, .int .i64 H, .slice a n c] 24))
  obtain ⟨B, hB⟩ : ∃ B, B = w.heap.size := ⟨_, rfl⟩
  go_enter Tryd.func20, Tryd.ntmps20
  go_wp2_with fail
  generalize w.alloc (.cells #[.int .i64 W, .int .i64 H, .slice a n c] 24) = w1 at *
  rw [← hB] at HA HC ⊢
  obtain ⟨hs1, k1, hb1⟩ := unhide HA
  have HB1 := hide hb1
  have HBE := hide hB
  have HK1 := hide k1
  clear HA hb1 k1 hB
  refine (unhide HC _ (unhide HB1)).mono ?_; rintro e w2 ⟨rfl, hb2⟩
  have HB2 := hide ((unhide HB1).trans (hb2.mono (by omega)))
  clear hb2 HB1 HK1 HC
  go_wp2
  go_ret2
  rw [← unhide HBE]
  exact ⟨rfl, unhide HB2⟩

set_option maxHeartbeats 4000000 in
set_option maxRecDepth 100000 in
theorem better_err (W H : Int) (a : Option Addr) (n c : Nat) (b : Option Addr) (M d : Nat) (w : World) (aS : Nat → Addr) (hS : Told w [1, 2] aS) (hE : cE W H n (M : Int) ≠ 0) :
    Calls Tryd.prog 21 #[.agg #[.int .i64 W, .int .i64 H, .slice a n c], .slice b M d] w fun e w' => e = .returned (.tuple #[.slice none 0 0, erV aS (cE W H n M)]) ∧ Below w.heap.size w w' := by
  have HC := hide (fun w' (hb : Below w.heap.size w w') => ccheck_any W H a n c (M : Int) w' aS (hS.below hb))
  obtain ⟨t, v, hv⟩ := erV_some (a := aS) hE
  rw [hv] at HC ⊢
  clear hS hE hv
  have HA := hide (al1 w (.cells #[.int .i64 W, .int .i64 H, .slice a n c] 24))
  obtain ⟨B, hB⟩ : ∃ B, B = w.heap.size := ⟨_, rfl⟩
  go_enter Tryd.func21, Tryd.ntmps21
  go_wp2_with fail
  generalize w.alloc (.cells #[.int .i64 W, .int .i64 H, .slice a n c] 24) = w1 at *
  rw [← hB] at HA HC ⊢
  obtain ⟨hs1, k1, hb1⟩ := unhide HA
  have HB1 := hide hb1
  have HBE := hide hB
  have HK1 := hide k1
  clear HA hb1 k1 hB
  refine (unhide HC _ (unhide HB1)).mono ?_; rintro e w2 ⟨rfl, hb2⟩
  have HB2 := hide ((unhide HB1).trans (hb2.mono (by omega)))
  clear hb2 HB1 HK1 HC
  go_wp2
  go_ret2
  rw [← unhide HBE]
  exact ⟨rfl, unhide HB2⟩

set_option maxHeartbeats 4000000 in
set_option maxRecDepth 100000 in
theorem far_ok (W H : Int) (a : Option Addr) (n c : Nat) (p : Nat → Px) (b : Option Addr) (M d : Nat) (q : Nat → Px) (w : World) (aS : Nat → Addr) (hS : Told w [1, 2] aS) (hP : IsPx w a n p) (hQ : IsPx w b M q) (hn : n ≤ 70000) (hE : cE W H n (M : Int) = 0) :
    Calls Tryd.prog 20 #[.agg #[.int .i64 W, .int .i64 H, .slice a n c], .slice b M d] w fun e w' => e = .returned (.tuple #[.int .i64 (farN p q n (M - 1) : Int), .nilIface]) ∧ Below w.heap.size w w' := by
  obtain ⟨hR, h1, h256⟩ := cE_zero hE
  have HC := hide (fun w' (hb : Below w.heap.size w w') => ccheck_any W H a n c (M : Int) w' aS (hS.below hb))
  rw [hE] at HC
  have HC : Hid (∀ w', Below w.heap.size w w' → Calls Tryd.prog 29 #[.agg #[.int .i64 W, .int .i64 H, .slice a n c], .int .i64 (M : Int)] w' fun e w'' => e = .returned .nilIface ∧ Below w'.heap.size w' w'') := HC
  have HK := hide (fun w' (hb : Below w.heap.size w w') => counted_any a n c p w' (hP.below hb) hn)
  have HQ := hide (fun w' (hb : Below w.heap.size w w') => hQ.below hb)
  have hul := ulk_len p n
  have HFL := hide (farU_le p q n (M - 1) hn)
  have HME : Hid (M = M - 1 + 1) := by show _ = _; omega
  have hM1 : M ≤ 256 := by omega
  clear hS hP hQ hR hE h1 h256
  have HA := hide (al1 w (.cells #[.int .i64 W, .int .i64 H, .slice a n c] 24))
  obtain ⟨B, hB⟩ : ∃ B, B = w.heap.size := ⟨_, rfl⟩
  go_enter Tryd.func20, Tryd.ntmps20
  go_wp2_with fail
  generalize w.alloc (.cells #[.int .i64 W, .int .i64 H, .slice a n c] 24) = w1 at *
  rw [← hB] at HA HC HK HQ ⊢
  obtain ⟨hs1, k1, hb1⟩ := unhide HA
  have HB1 := hide hb1
  have HBE := hide hB
  have HK1 := hide k1
  clear HA hb1 k1 hB
  refine (unhide HC _ (unhide HB1)).mono ?_; rintro e w2 ⟨rfl, hb2⟩
  have hz2 := hb2.size
  have HB2 := hide ((unhide HB1).trans (hb2.mono (by omega)))
  have HK2 := hide (blk_below (unhide HK1) hb2 (blk_lt (unhide HK1)))
  have x2 : w2.cell? ⟨B, 2, none⟩ = some (.slice a n c) := blk_cell (unhide HK2) 2
  clear hb2 HB1 HK1 HC
  go_wp2_with fail
  refine (unhide HK _ (unhide HB2)).mono ?_
  rintro e w3 ⟨a1, c1, a2, c2, rfl, ⟨ho1, ho2⟩, hb3⟩
  have hz3 := hb3.size
  have HB3 := hide ((unhide HB2).trans (hb3.mono (by omega)))
  have HU3 : Hid (IsUs w3 a1 (ulk p n).length (usF p n)) := own_us ho1 (ucnt_length p n) (by unfold maxLen; omega)
  obtain ⟨L, hL⟩ : ∃ L, L = (ulk p n).length := ⟨_, rfl⟩
  rw [← hL] at HU3 HFL hul ⊢
  have HL := hide hL
  have hz3B : B + 1 ≤ w3.heap.size := by omega
  have HNe := hide (nearest_any a1 L c1 (usF p n) b (M - 1) d q w3 (unhide HU3) (by rw [← unhide HME]; exact unhide HQ _ (unhide HB3)) (by omega) (by omega) (unhide HFL))
  rw [← unhide HME] at HNe
  clear ho1 ho2 hb3 HK HB2 x2 HK2 hL
  go_wp2_with fail
  refine (unhide HNe).mono ?_
  rintro e w4 ⟨a4, c4, rfl, ho4, hb4⟩
  have hz4 := hb4.size
  have HB4 := hide ((unhide HB3).trans (hb4.mono (by omega)))
  have HU4 := hide ((unhide HU3).below hb4)
  have hz4B : B + 1 ≤ w4.heap.size := by omega
  clear ho4 hb4 HU4 HU3 HNe HFL HQ
  go_wp2
  go_ret2
  rw [← unhide HBE, ← farU_all, ← unhide HL]
  exact ⟨rfl, unhide HB4⟩

set_option maxHeartbeats 4000000 in
set_option maxRecDepth 100000 in
theorem better_ok (W H : Int) (a : Option Addr) (n c : Nat) (p : Nat → Px) (b : Option Addr) (M d : Nat) (q : Nat → Px) (w : World) (aS : Nat → Addr) (hS : Told w [1, 2] aS) (hP : IsPx w a n p) (hQ : IsPx w b M q) (hn : n ≤ 70000) (hE : cE W H n (M : Int) = 0) :
    Calls Tryd.prog 21 #[.agg #[.int .i64 W, .int .i64 H, .slice a n c], .slice b M d] w fun e w' => ∃ a3 c3, e = .returned (.tuple #[.slice a3 M c3, .nilIface]) ∧ IsPx w' a3 M (btP p q n (M - 1)) ∧ Below w.heap.size w w' := by
  obtain ⟨hR, h1, h256⟩ := cE_zero hE
  have HC := hide (fun w' (hb : Below w.heap.size w w') => ccheck_any W H a n c (M : Int) w' aS (hS.below hb))
  rw [hE] at HC
  have HC : Hid (∀ w', Below w.heap.size w w' → Calls Tryd.prog 29 #[.agg #[.int .i64 W, .int .i64 H, .slice a n c], .int .i64 (M : Int)] w' fun e w'' => e = .returned .nilIface ∧ Below w'.heap.size w' w'') := HC
  have HK := hide (fun w' (hb : Below w.heap.size w w') => counted_any a n c p w' (hP.below hb) hn)
  have HQ := hide (fun w' (hb : Below w.heap.size w w') => hQ.below hb)
  have hul := ulk_len p n
  have HFL := hide (farU_le p q n (M - 1) hn)
  have HME : Hid (M = M - 1 + 1) := by show _ = _; omega
  have hM1 : M ≤ 256 := by omega
  have HNP : Hid (n ≠ 0) := by
    show _ ≠ _
    have g1 := Int.mul_pos (show 0 < W by have := hR.1.1; omega) (show 0 < H by have := hR.2.1.1; omega)
    have g2 := hR.2.2
    omega
  clear hS hP hQ hR hE h1 h256
  have HA := hide (al1 w (.cells #[.int .i64 W, .int .i64 H, .slice a n c] 24))
  obtain ⟨B, hB⟩ : ∃ B, B = w.heap.size := ⟨_, rfl⟩
  go_enter Tryd.func21, Tryd.ntmps21
  go_wp2_with fail
  generalize w.alloc (.cells #[.int .i64 W, .int .i64 H, .slice a n c] 24) = w1 at *
  rw [← hB] at HA HC HK HQ ⊢
  obtain ⟨hs1, k1, hb1⟩ := unhide HA
  have HB1 := hide hb1
  have HBE := hide hB
  have HK1 := hide k1
  clear HA hb1 k1 hB
  refine (unhide HC _ (unhide HB1)).mono ?_; rintro e w2 ⟨rfl, hb2⟩
  have hz2 := hb2.size
  have HB2 := hide ((unhide HB1).trans (hb2.mono (by omega)))
  have HK2 := hide (blk_below (unhide HK1) hb2 (blk_lt (unhide HK1)))
  have x2 : w2.cell? ⟨B, 2, none⟩ = some (.slice a n c) := blk_cell (unhide HK2) 2
  clear hb2 HB1 HK1 HC
  go_wp2_with fail
  refine (unhide HK _ (unhide HB2)).mono ?_
  rintro e w3 ⟨a1, c1, a2, c2, rfl, ⟨ho1, ho2⟩, hb3⟩
  have hz3 := hb3.size
  have HB3 := hide ((unhide HB2).trans (hb3.mono (by omega)))
  have HU3 : Hid (IsUs w3 a1 (ulk p n).length (usF p n)) := own_us ho1 (ucnt_length p n) (by unfold maxLen; omega)
  obtain ⟨L, hL⟩ : ∃ L, L = (ulk p n).length := ⟨_, rfl⟩
  rw [← hL] at HU3 HFL hul ⊢
  have HL := hide hL
  have hz3B : B + 1 ≤ w3.heap.size := by omega
  have HNe := hide (nearest_any a1 L c1 (usF p n) b (M - 1) d q w3 (unhide HU3) (by rw [← unhide HME]; exact unhide HQ _ (unhide HB3)) (by omega) (by omega) (unhide HFL))
  rw [← unhide HME] at HNe
  have hL1 : 0 < n → 0 < L := fun h => by rw [unhide HL]; exact List.length_pos_of_mem (ulk_has p h)
  clear ho1 ho2 hb3 HK HB2 x2 HK2 hL
  go_wp2_with fail
  refine (unhide HNe).mono ?_
  rintro e w4 ⟨a4, c4, rfl, ho4, hb4⟩
  have hz4 := hb4.size
  have HB4 := hide ((unhide HB3).trans (hb4.mono (by omega)))
  have HU4 := hide ((unhide HU3).below hb4)
  have hz4B : B + 1 ≤ w4.heap.size := by omega
  have HT : Hid (totU (usF p n) L ≤ 70000) := by
    show _ ≤ _
    rw [unhide HL, totU_all]
    exact hn
  have HBT : Hid (mnP (usF p n) (fun i => lst q (usF p n i).c (M - 1)) q L = btP p q n (M - 1)) := by
    refine funext (fun k => ?_)
    rw [unhide HL]
    exact bt_all p q n (M - 1) k
  have hnpos : 0 < n := by
    rcases Nat.eq_zero_or_pos n with e | e
    · exact absurd e (unhide HNP)
    · exact e
  have HMn := hide (means_any a1 L c1 (usF p n) a4 c4 (nrL (usF p n) q (M - 1) L) (fun i => lst q (usF p n i).c (M - 1)) b (M - 1) d q w4 (unhide HU4) (own_nm ho4 (nrL_length _ _ _ _) (hL1 hnpos)) (nrL_length _ _ _ _) (fun i hi => ⟨nrL_at _ _ _ _ _ hi, lst_le _ _ _⟩) (by rw [← unhide HME]; exact unhide HQ _ (unhide HB4)) (by omega) (by omega) (unhide HT))
  rw [← unhide HME, unhide HBT] at HMn
  clear ho4 hb4 HU4 HU3 HNe HFL HQ hL1 HT HBT HB3
  go_wp2_with fail
  refine (unhide HMn).mono ?_
  rintro e w5 ⟨a5, c5, rfl, hp5, hb5⟩
  have HP5 := hide hp5
  have HB5 := hide ((unhide HB4).trans (hb5.mono (by omega)))
  clear hp5 hb5 HMn HB4
  go_wp2
  go_ret2
  rw [← unhide HBE]
  exact ⟨a5, c5, rfl, unhide HP5, unhide HB5⟩

set_option maxHeartbeats 4000000 in
set_option maxRecDepth 100000 in
theorem map_ok (W H : Int) (a : Option Addr) (n c : Nat) (p : Nat → Px) (b : Option Addr) (M d : Nat) (q : Nat → Px) (w : World) (aS : Nat → Addr) (hS : Told w [1, 2] aS) (hP : IsPx w a n p) (hQ : IsPx w b M q) (hn : n ≤ 70000) (hE : cE W H n (M : Int) = 0) :
    Calls Tryd.prog 18 #[.agg #[.int .i64 W, .int .i64 H, .slice a n c], .slice b M d] w fun e w' => ∃ a3 c3, e = .returned (.tuple #[.slice a3 n c3, .nilIface]) ∧ w'.ownsRow w.heap.size 3 1 (.slice a3 n c3) n (nV (mpL p q (M - 1) n)) ∧ Below w.heap.size w w' := by
  obtain ⟨hR, h1, h256⟩ := cE_zero hE
  have HC := hide (fun w' (hb : Below w.heap.size w w') => ccheck_any W H a n c (M : Int) w' aS (hS.below hb))
  rw [hE] at HC
  have HC : Hid (∀ w', Below w.heap.size w w' → Calls Tryd.prog 29 #[.agg #[.int .i64 W, .int .i64 H, .slice a n c], .int .i64 (M : Int)] w' fun e w'' => e = .returned .nilIface ∧ Below w'.heap.size w' w'') := HC
  have HK := hide (fun w' (hb : Below w.heap.size w w') => counted_any a n c p w' (hP.below hb) hn)
  have HQ := hide (fun w' (hb : Below w.heap.size w w') => hQ.below hb)
  have hul := ulk_len p n
  have HFL := hide (farU_le p q n (M - 1) hn)
  have HME : Hid (M = M - 1 + 1) := by show _ = _; omega
  have hM1 : M ≤ 256 := by omega
  clear hS hP hQ hR hE h1 h256
  have HA := hide (al1 w (.cells #[.int .i64 W, .int .i64 H, .slice a n c] 24))
  obtain ⟨B, hB⟩ : ∃ B, B = w.heap.size := ⟨_, rfl⟩
  go_enter Tryd.func18, Tryd.ntmps18
  go_wp2_with fail
  generalize w.alloc (.cells #[.int .i64 W, .int .i64 H, .slice a n c] 24) = w1 at *
  rw [← hB] at HA HC HK HQ ⊢
  obtain ⟨hs1, k1, hb1⟩ := unhide HA
  have HB1 := hide hb1
  have HBE := hide hB
  have HK1 := hide k1
  clear HA hb1 k1 hB
  refine (unhide HC _ (unhide HB1)).mono ?_; rintro e w2 ⟨rfl, hb2⟩
  have hz2 := hb2.size
  have HB2 := hide ((unhide HB1).trans (hb2.mono (by omega)))
  have HK2 := hide (blk_below (unhide HK1) hb2 (blk_lt (unhide HK1)))
  have x2 : w2.cell? ⟨B, 2, none⟩ = some (.slice a n c) := blk_cell (unhide HK2) 2
  clear hb2 HB1 HK1 HC
  go_wp2_with fail
  refine (unhide HK _ (unhide HB2)).mono ?_
  rintro e w3 ⟨a1, c1, a2, c2, rfl, ⟨ho1, ho2⟩, hb3⟩
  have hz3 := hb3.size
  have HB3 := hide ((unhide HB2).trans (hb3.mono (by omega)))
  have HU3 : Hid (IsUs w3 a1 (ulk p n).length (usF p n)) := own_us ho1 (ucnt_length p n) (by unfold maxLen; omega)
  obtain ⟨L, hL⟩ : ∃ L, L = (ulk p n).length := ⟨_, rfl⟩
  rw [← hL] at HU3 HFL hul ⊢
  have HL := hide hL
  have hz3B : B + 1 ≤ w3.heap.size := by omega
  have HNe := hide (nearest_any a1 L c1 (usF p n) b (M - 1) d q w3 (unhide HU3) (by rw [← unhide HME]; exact unhide HQ _ (unhide HB3)) (by omega) (by omega) (unhide HFL))
  rw [← unhide HME] at HNe
  have HO2 := hide ho2
  clear ho1 ho2 hb3 HK HB2 x2 HK2 hL
  go_wp2_with fail
  refine (unhide HNe).mono ?_
  rintro e w4 ⟨a4, c4, rfl, ho4, hb4⟩
  have hz4 := hb4.size
  have HB4 := hide ((unhide HB3).trans (hb4.mono (by omega)))
  have HU4 := hide ((unhide HU3).below hb4)
  have hz4B : B + 1 ≤ w4.heap.size := by omega
  have HO24 := hide (own_belowP (unhide HO2) hb4)
  have HO4 := hide ho4
  have hmk := make_n0 n (by omega)
  have HA5 := hide (al1 w4 (.cells (madeCells #[.int .i64 0] n) 3))
  have HN0 : Hid ((w4.alloc (.cells (madeCells #[.int .i64 0] n) 3)).ownsRow w4.heap.size 3 1 (.slice (some ⟨w4.heap.size, 0, none⟩) 0 n) (mpL p q (M - 1) 0).length (nV (mpL p q (M - 1) 0))) :=
    World.ownsRow_made w4 (madeCells #[.int .i64 0] n) n (Nat.le_refl _) (by unfold maxLen; omega) (by simp [madeCells])
  have HMB : Hid (∀ i, i < n → (nrL (usF p n) q (M - 1) L).getD (nmb p i) 0 = lst q (p i) (M - 1)) := fun i hi => by rw [unhide HL]; exact mpL_by p q n (M - 1) i hi
  have HLT : Hid (∀ i, i < n → nmb p i < L) := fun i hi => by rw [unhide HL]; exact nmb_lt p hi
  clear ho4 hb4 HU4 HU3 HNe HFL HQ HB3 HO2
  go_wp2
  generalize w4.alloc (.cells (madeCells #[.int .i64 0] n) 3) = w5 at *
  obtain ⟨hs5, _, hb5⟩ := unhide HA5
  obtain ⟨G, hG⟩ : ∃ G, G = w4.heap.size := ⟨_, rfl⟩
  rw [← hG] at HN0 hs5 hb5 ⊢
  have HOL := hide (fun wr (h : Below G w4 wr) => own_belowP (unhide HO4) (hG ▸ h : Below w4.heap.size w4 wr))
  have HON := hide (fun wr (h : Below G w4 wr) => own_belowP (unhide HO24) (hG ▸ h : Below w4.heap.size w4 wr))
  have HBW := hide (fun wr (h : Below G w4 wr) => (unhide HB4).trans (h.mono (show B ≤ G by omega)))
  have hBG : B ≤ G := by omega
  have HB5 := hide hb5
  have hz5 : G ≤ w5.heap.size := by omega
  clear HA5 HO4 HO24 HB4 hG hb5 hmk
  go_loopw [11, 38] (fun nv iv wr => ∃ i : Nat, i ≤ n ∧ iv = .int .i64 (i : Int) ∧ Hid (wr.ownsRow G 3 1 nv (mpL p q (M - 1) i).length (nV (mpL p q (M - 1) i))) ∧ Hid (Below G w4 wr) ∧ G ≤ wr.heap.size) (fun _ iv _ => n - (intOf iv).toNat)
  case atStart => exact ⟨0, Nat.zero_le _, rfl, HN0, HB5, hz5⟩
  case round =>
    clear HN0 HB5 hz5
    obtain ⟨i, hi, rfl, HN, HB, hz⟩ := hrel
    obtain ⟨na, nc, rfl, _⟩ := own_shape (unhide HN)
    by_cases hlt : i < n
    · have d1 : decide ((i : Int) < (n : Int)) = true := decide_eq_true (by omega)
      have d1n : decide (i < n) = true := decide_eq_true hlt
      have hii : (i : Int) < (n : Int) := by omega
      have hON := unhide HON wr (unhide HB)
      obtain ⟨g2, rfl, _, _⟩ := own_some hON (by omega)
      have hOL := unhide HOL wr (unhide HB)
      have hkL := unhide HLT i hlt
      obtain ⟨g4, rfl, _, _⟩ := own_some hOL (by omega)
      have c2 : wr.cell? ⟨g2, i, none⟩ = some (.int .i64 (nmb p i : Int)) := by
        rw [hON.cellAt i (by omega), nV_at _ _ (by rw [nmL_length]; exact hlt)]
        unfold nmL
        rw [List.getD_eq_getElem?_getD, List.getElem?_map, List.getElem?_range hlt]
        rfl
      have c4 : wr.cell? ⟨g4, nmb p i, none⟩ = some (.int .i64 (lst q (p i) (M - 1) : Int)) := by
        rw [hOL.cellAt _ (by omega), nV_at _ _ (by rw [nrL_length]; exact hkL), unhide HMB i hlt]
      have HNS := hide (mpL_succ p q (M - 1) i)
      obtain ⟨ni, hni⟩ : ∃ ni, ni = (mpL p q (M - 1) i).length := ⟨_, rfl⟩
      rw [← hni] at HN ⊢
      have HNI := hide hni
      have hnib : ni ≤ 70000 := by rw [hni, mpL_length]; omega
      have hlb := lst_le q (p i) (M - 1)
      have hkk : (nmb p i : Int) < (L : Int) := by omega
      clear hni hON hOL hkL
      generalize nmb p i = k at *
      generalize lst q (p i) (M - 1) = y at *
      have HA6 := hide (al1 wr (.cells #[.int .i64 (y : Int)] 3))
      have HQ6 : Hid ((wr.alloc (.cells #[.int .i64 (y : Int)] 3)).cell? ⟨wr.heap.size, 0, none⟩ = some (.int .i64 (y : Int))) := by
        show _ = _
        rw [World.cell?_alloc_mark]
        rfl
      have HN6 := hide ((unhide HN).alloc (.cells #[.int .i64 (y : Int)] 3))
      clear HN
      go_wp2_with (at_builtin; refine wpList_appN2 _ rfl (.tmp 42) (.tmp 47) rfl G wr.heap.size (.slice na ni nc) (mpL p q (M - 1) i) y rfl rfl (by rw [← unhide HNI]; exact unhide HN6) (unhide HQ6) (by rw [← unhide HNI]; omega) (by have := (unhide HA6).size; omega) ?_)
      intro v7 w7 ho7 hg7 hat7
      obtain ⟨hs6, _, hb6⟩ := unhide HA6
      have hz7 := hg7.size
      have hno : ∀ q, (Value.slice na ni nc).ownBlock = some q → G ≤ q := fun q e => ((unhide HN6).lt q e).1
      have HN7 : Hid (w7.ownsRow G 3 1 v7 (mpL p q (M - 1) (i + 1)).length (nV (mpL p q (M - 1) (i + 1)))) := by
        show World.ownsRow _ _ _ _ _ _ _
        rw [unhide HNS]
        first | exact ho7 | (rw [List.length_append]; exact ho7)
      have HB7 : Hid (Below G w4 w7) := ((unhide HB).trans (hb6.mono hz)).grown hg7 (by omega) (fun z e => hno z e)
      have hz8 : G ≤ w7.heap.size := by omega
      clear ho7 hg7 hat7 HN6 HB HA6 HQ6 hno hb6 hs6 hz7 HNS HNI c2 c4
      go_wp2
      go_roundw
      case rel => exact ⟨i + 1, by omega, by go_num, HN7, HB7, hz8⟩
      case measure => simp [intOf]; omega
    · obtain rfl : i = n := by omega
      have d1 : decide ((i : Int) < (i : Int)) = false := by simp
      have hnl := mpL_length p q (M - 1) i
      rw [hnl] at HN
      have HF := hide (And.intro (own_rebase (unhide HN) hBG) (unhide HBW _ (unhide HB)))
      clear HN HOL HON HBW HMB HLT
      go_wp2
      go_ret2
      rw [← unhide HBE]
      exact ⟨na, nc, by first | rfl | (simp only [hnl]; rfl), (unhide HF).1, (unhide HF).2⟩
end Go.Proofs.YtpfobocdbmiagaaDoor
