/- Reduce: the program's. -/
import Derived.Test.YtpfobocdbmiagaaDoorCs1
import Derived.Test.YtpfobocdbmiagaaDoorCm8
namespace Go.Proofs.YtpfobocdbmiagaaDoor
open Go.RowKit

/-- The colors that are used most. -/
def muP (p : Nat → Px) (n : Nat) : Nat → Px := fun i => ((mostL p n).getD i default).c
theorem sqB_self (a : UInt8) : sqB a a = 0 := by unfold sqB; rw [Int.sub_self]; rfl
theorem farP_self (x : Px) : farP x x = 0 := by unfold farP; rw [sqB_self, sqB_self, sqB_self, sqB_self]
/-- All colors: nothing is far. -/
theorem mu_all (p : Nat → Px) (n : Nat) : farN p (muP p n) n ((ulk p n).length - 1) = 0 := by
  refine sumN_zero n (fun i hi => ?_)
  have hm : p i ∈ (mostL p n).map (·.c) := by
    have h1 : p i ∈ (ucnt p n).map (·.c) := by rw [ucnt_colors]; exact ulk_has p hi
    exact ((mostL_perm p n).map (·.c)).mem_iff.2 h1
  obtain ⟨u, hu, e⟩ := List.mem_map.1 hm
  obtain ⟨j, hj, e2⟩ := List.getElem_of_mem hu
  have hl := mostL_length p n
  have e3 : muP p n j = p i := by
    unfold muP
    rw [List.getD_eq_getElem?_getD, List.getElem?_eq_getElem hj, ← e, ← e2]
    rfl
  have h := lst_least (muP p n) (p i) ((ulk p n).length - 1) j (by omega)
  rw [e3, farP_self] at h
  omega

set_option maxHeartbeats 4000000 in
set_option maxRecDepth 100000 in
theorem reduce_err (W H : Int) (a : Option Addr) (n c : Nat) (m : Int) (w : World) (aS : Nat → Addr) (hS : Told w [1, 2] aS) (hE : cE W H n m ≠ 0) :
    Calls Tryd.prog 24 #[.agg #[.int .i64 W, .int .i64 H, .slice a n c], .int .i64 m] w fun e w' => e = .returned (.tuple #[.slice none 0 0, erV aS (cE W H n m)]) ∧ Below w.heap.size w w' := by
  have HC := hide (fun w' (hb : Below w.heap.size w w') => ccheck_any W H a n c m w' aS (hS.below hb))
  obtain ⟨t, v, hv⟩ := erV_some (a := aS) hE
  rw [hv] at HC ⊢
  have HA := hide (al1 w (.cells #[.int .i64 W, .int .i64 H, .slice a n c] 24))
  obtain ⟨B, hB⟩ : ∃ B, B = w.heap.size := ⟨_, rfl⟩
  clear hS hE hv
  go_enter Tryd.func24, Tryd.ntmps24
  go_wp2_with fail
  generalize w.alloc (.cells #[.int .i64 W, .int .i64 H, .slice a n c] 24) = w1 at *
  rw [← hB] at HA HC ⊢
  obtain ⟨hs1, _, hb1⟩ := unhide HA
  have HB1 := hide hb1
  have HBE := hide hB
  clear HA hb1 hB
  refine (unhide HC _ (unhide HB1)).mono ?_; rintro e w2 ⟨rfl, hb2⟩
  have HB2 := hide ((unhide HB1).trans (hb2.mono (by omega)))
  clear hb2 HB1 HC
  go_wp2
  go_ret2
  rw [← unhide HBE]
  exact ⟨rfl, unhide HB2⟩

set_option maxHeartbeats 4000000 in
set_option maxRecDepth 100000 in
theorem reduce_ok (W H : Int) (a : Option Addr) (n c : Nat) (p : Nat → Px) (m : Nat) (w : World) (aS : Nat → Addr) (hS : Told w [1, 2] aS) (hP : IsPx w a n p) (hn : n ≤ 70000) (hn1 : 1 ≤ n) (hE : cE W H n (m : Int) = 0) :
    Calls Tryd.prog 24 #[.agg #[.int .i64 W, .int .i64 H, .slice a n c], .int .i64 (m : Int)] w fun e w' => ∃ a3 c3 r, e = .returned (.tuple #[.slice a3 (min m (ulk p n).length) c3, .nilIface]) ∧ (IsPx w' a3 (min m (ulk p n).length) r ∧ farN p r n (min m (ulk p n).length - 1) ≤ farN p (muP p n) n (min m (ulk p n).length - 1) ∧ farN p r n (min m (ulk p n).length - 1) ≤ farN p (btP p (muP p n) n (min m (ulk p n).length - 1)) n (min m (ulk p n).length - 1)) ∧ Below w.heap.size w w' := by
  obtain ⟨hR, h1, h256⟩ := cE_zero hE
  have HC := hide (fun w' (hb : Below w.heap.size w w') => ccheck_any W H a n c (m : Int) w' aS (hS.below hb))
  rw [hE] at HC
  have HC : Hid (∀ w', Below w.heap.size w w' → Calls Tryd.prog 29 #[.agg #[.int .i64 W, .int .i64 H, .slice a n c], .int .i64 (m : Int)] w' fun e w'' => e = .returned .nilIface ∧ Below w'.heap.size w' w'') := HC
  have HK := hide (fun w' (hb : Below w.heap.size w w') => counted_any a n c p w' (hP.below hb) hn)
  have hul := ulk_len p n
  have hul1 : 1 ≤ (ulk p n).length := List.length_pos_of_mem (ulk_has p (show 0 < n by omega))
  have HMU := hide (fun a1 c1 wr (hu : IsUs wr a1 (ulk p n).length (usF p n)) => mostUsed_any a1 c1 p n m wr hu hn hn1 ⟨by omega, by omega⟩)
  have HST := hide (fun a1 c1 b d wr (hu : IsUs wr a1 (ulk p n).length (usF p n)) (hq : IsPx wr b (min m (ulk p n).length) (muP p n)) => settled_any a1 c1 p n b (min m (ulk p n).length) d (muP p n) wr hu hq hn hn1 (by omega) (by omega))
  have HUO : Hid (∀ (w3 : World) a1 c1, w3.ownsRow w.heap.size 42 5 (.slice a1 (ulk p n).length c1) (ulk p n).length (usL (ucnt p n)) → IsUs w3 a1 (ulk p n).length (usF p n)) := fun w3 a1 c1 h => own_us h (ucnt_length p n) (by unfold maxLen; omega)
  have HA := hide (al1 w (.cells #[.int .i64 W, .int .i64 H, .slice a n c] 24))
  generalize hq : muP p n = mu at *
  generalize hL : (ulk p n).length = L at *
  generalize hkk : min m L = K at *
  obtain ⟨B, hB⟩ : ∃ B, B = w.heap.size := ⟨_, rfl⟩
  clear hS hP hE hR hL hkk
  go_enter Tryd.func24, Tryd.ntmps24
  go_wp2_with fail
  generalize w.alloc (.cells #[.int .i64 W, .int .i64 H, .slice a n c] 24) = w1 at *
  rw [← hB] at HA HC HK HUO ⊢
  obtain ⟨hs1, k1, hb1⟩ := unhide HA
  have HB1 := hide hb1
  have HBE := hide hB
  have HK1 := hide k1
  clear HA hb1 hB k1
  refine (unhide HC _ (unhide HB1)).mono ?_; rintro e w2 ⟨rfl, hb2⟩
  have hz2 := hb2.size
  have HB2 := hide ((unhide HB1).trans (hb2.mono (by omega)))
  have HK2 := hide (blk_below (unhide HK1) hb2 (blk_lt (unhide HK1)))
  have x2 : w2.cell? ⟨B, 2, none⟩ = some (.slice a n c) := blk_cell (unhide HK2) 2
  clear hb2 HB1 HK1 HC
  go_wp2_with fail
  refine (unhide HK _ (unhide HB2)).mono ?_
  rintro e w3 ⟨a1, c1, a2, c2, rfl, ⟨ho1, _⟩, hb3⟩
  have hz3 := hb3.size
  have HB3 := hide ((unhide HB2).trans (hb3.mono (by omega)))
  have HU3 := hide (unhide HUO w3 a1 c1 (own_rebase ho1 (by omega)))
  clear ho1 hb3 HK HB2 x2 HK2 HUO
  go_wp2_with fail
  refine (unhide HMU _ _ _ (unhide HU3)).mono ?_
  rintro e w4 ⟨b4, d4, rfl, hp4, hb4⟩
  have hz4 := hb4.size
  have HB4 := hide ((unhide HB3).trans (hb4.mono (by omega)))
  have HU4 := hide ((unhide HU3).below hb4)
  have HP4 : Hid (IsPx w4 b4 K mu) := by
    show IsPx _ _ _ _
    rw [← hq]
    exact hp4
  clear hp4 hb4 HB3 HU3 HMU hq
  go_wp2_with fail
  refine (unhide HST _ _ _ _ _ (unhide HU4) (unhide HP4)).mono ?_
  rintro e w5 ⟨a5, c5, r, rfl, hr, hb5⟩
  have HR5 := hide hr
  have HB5 := hide ((unhide HB4).trans (hb5.mono (by omega)))
  clear hr hb5 HB4 HU4 HP4 HST
  go_wp2
  go_ret2
  rw [← unhide HBE]
  exact ⟨a5, c5, r, rfl, unhide HR5, unhide HB5⟩
end Go.Proofs.YtpfobocdbmiagaaDoor
