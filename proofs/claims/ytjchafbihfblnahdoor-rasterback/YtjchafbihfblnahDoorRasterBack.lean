/- The statement that a picture flipped twice, turned four times, is as it was: the walk. Written by genrl.py. -/
import Derived.Test.YtjchafbihfblnahDoorRt8
import Derived.Test.YtjchafbihfblnahDoorRw0
namespace Go.Proofs.YtjchafbihfblnahDoor
open Go.RowKit

set_option maxHeartbeats 4000000 in
set_option maxRecDepth 100000 in
theorem rasterBack_all (W H : Int) (a : Option Addr) (n c : Nat) (p : Nat → Px) (z : Int) (w : World) (hP : IsPx w a n p) :
    Calls Tryd.prog 7 #[.agg #[.int .i64 W, .int .i64 H, .slice a n c], .int .i64 z] w fun e w' => e = .returned (.bool true) ∧ Below w.heap.size w w' := by
  have HPL := hide plainly_any
  have HSM := hide (fun w => small_any W H a n c w)
  by_cases hn3 : n ≤ 3000
  rotate_left
  · rw [decide_eq_false hn3] at HSM
    clear hP hn3
    have HA := hide (al1 w (.cells #[.int .i64 W, .int .i64 H, .slice a n c] 26))
    obtain ⟨B, hB⟩ : ∃ B, B = w.heap.size := ⟨_, rfl⟩
    go_enter Tryd.func7, Tryd.ntmps7
    go_wp2_with fail
    generalize (w.alloc (.cells #[.int .i64 W, .int .i64 H, .slice a n c] 26)) = w1 at *
    rw [← hB] at HA ⊢
    obtain ⟨hs1, kp, hb1⟩ := unhide HA
    have HBE := hide hB
    clear HA hB
    have hs : B + 1 ≤ w1.heap.size := by omega
    have HB := hide hb1
    clear hs1 hb1
    refine (unhide HPL _).mono ?_
    rintro e w2 ⟨rfl, hbN⟩
    have hsz := hbN.size
    have kp := blk_below kp hbN (blk_lt kp)
    have HB := hide ((unhide HB).trans (hbN.mono (by omega)))
    have hs : B + 1 ≤ w2.heap.size := by omega
    clear hbN hsz
    have hlp : B < w2.heap.size := blk_lt kp
    have cp0 : w2.cell? ⟨B, 0, none⟩ = some (.int .i64 W) := blk_cell kp 0
    have cp1 : w2.cell? ⟨B, 1, none⟩ = some (.int .i64 H) := blk_cell kp 1
    have cp2 : w2.cell? ⟨B, 2, none⟩ = some (.slice a n c) := blk_cell kp 2
    go_wp2_with fail
    clear cp0 cp1 cp2 hlp
    refine (unhide HSM _).mono ?_
    rintro e w3 ⟨rfl, hbN⟩
    have hsz := hbN.size
    have kp := blk_below kp hbN (blk_lt kp)
    have HB := hide ((unhide HB).trans (hbN.mono (by omega)))
    have hs : B + 1 ≤ w3.heap.size := by omega
    clear hbN hsz
    have hlp : B < w3.heap.size := blk_lt kp
    have cp0 : w3.cell? ⟨B, 0, none⟩ = some (.int .i64 W) := blk_cell kp 0
    have cp1 : w3.cell? ⟨B, 1, none⟩ = some (.int .i64 H) := blk_cell kp 1
    have cp2 : w3.cell? ⟨B, 2, none⟩ = some (.slice a n c) := blk_cell kp 2
    go_wp2
    clear cp0 cp1 cp2 hlp
    go_ret
    exact ⟨rfl, by rw [← unhide HBE]; exact unhide HB⟩
  rw [decide_eq_true hn3] at HSM
  have HRT := hide (fun w => pright_any W H a n c w)
  by_cases hR : RightP W H n
  rotate_left
  · rw [decide_eq_false hR] at HRT
    clear hP hR hn3
    have HA := hide (al1 w (.cells #[.int .i64 W, .int .i64 H, .slice a n c] 26))
    obtain ⟨B, hB⟩ : ∃ B, B = w.heap.size := ⟨_, rfl⟩
    go_enter Tryd.func7, Tryd.ntmps7
    go_wp2_with fail
    generalize (w.alloc (.cells #[.int .i64 W, .int .i64 H, .slice a n c] 26)) = w1 at *
    rw [← hB] at HA ⊢
    obtain ⟨hs1, kp, hb1⟩ := unhide HA
    have HBE := hide hB
    clear HA hB
    have hs : B + 1 ≤ w1.heap.size := by omega
    have HB := hide hb1
    clear hs1 hb1
    refine (unhide HPL _).mono ?_
    rintro e w2 ⟨rfl, hbN⟩
    have hsz := hbN.size
    have kp := blk_below kp hbN (blk_lt kp)
    have HB := hide ((unhide HB).trans (hbN.mono (by omega)))
    have hs : B + 1 ≤ w2.heap.size := by omega
    clear hbN hsz
    have hlp : B < w2.heap.size := blk_lt kp
    have cp0 : w2.cell? ⟨B, 0, none⟩ = some (.int .i64 W) := blk_cell kp 0
    have cp1 : w2.cell? ⟨B, 1, none⟩ = some (.int .i64 H) := blk_cell kp 1
    have cp2 : w2.cell? ⟨B, 2, none⟩ = some (.slice a n c) := blk_cell kp 2
    go_wp2_with fail
    clear cp0 cp1 cp2 hlp
    refine (unhide HSM _).mono ?_
    rintro e w3 ⟨rfl, hbN⟩
    have hsz := hbN.size
    have kp := blk_below kp hbN (blk_lt kp)
    have HB := hide ((unhide HB).trans (hbN.mono (by omega)))
    have hs : B + 1 ≤ w3.heap.size := by omega
    clear hbN hsz
    have hlp : B < w3.heap.size := blk_lt kp
    have cp0 : w3.cell? ⟨B, 0, none⟩ = some (.int .i64 W) := blk_cell kp 0
    have cp1 : w3.cell? ⟨B, 1, none⟩ = some (.int .i64 H) := blk_cell kp 1
    have cp2 : w3.cell? ⟨B, 2, none⟩ = some (.slice a n c) := blk_cell kp 2
    go_wp2_with fail
    clear cp0 cp1 cp2 hlp
    refine (unhide HRT _).mono ?_
    rintro e w4 ⟨rfl, hbN⟩
    have hsz := hbN.size
    have kp := blk_below kp hbN (blk_lt kp)
    have HB := hide ((unhide HB).trans (hbN.mono (by omega)))
    have hs : B + 1 ≤ w4.heap.size := by omega
    clear hbN hsz
    have hlp : B < w4.heap.size := blk_lt kp
    have cp0 : w4.cell? ⟨B, 0, none⟩ = some (.int .i64 W) := blk_cell kp 0
    have cp1 : w4.cell? ⟨B, 1, none⟩ = some (.int .i64 H) := blk_cell kp 1
    have cp2 : w4.cell? ⟨B, 2, none⟩ = some (.slice a n c) := blk_cell kp 2
    go_wp2
    clear cp0 cp1 cp2 hlp
    go_ret
    exact ⟨rfl, by rw [← unhide HBE]; exact unhide HB⟩
  rw [decide_eq_true hR] at HRT
  by_cases hz : -1000 ≤ z ∧ z ≤ 1000
  rotate_left
  · have d : decide (z < -1000) = true ∨ (decide (z < -1000) = false ∧ decide (z > 1000) = true) := by
      simp only [decide_eq_true_eq, decide_eq_false_iff_not]
      omega
    clear hP hR hn3 hz
    rcases d with d1 | ⟨d1, d2⟩
    all_goals
      have HA := hide (al1 w (.cells #[.int .i64 W, .int .i64 H, .slice a n c] 26))
      obtain ⟨B, hB⟩ : ∃ B, B = w.heap.size := ⟨_, rfl⟩
      go_enter Tryd.func7, Tryd.ntmps7
      go_wp2_with fail
      generalize (w.alloc (.cells #[.int .i64 W, .int .i64 H, .slice a n c] 26)) = w1 at *
      rw [← hB] at HA ⊢
      obtain ⟨hs1, kp, hb1⟩ := unhide HA
      have HBE := hide hB
      clear HA hB
      have hs : B + 1 ≤ w1.heap.size := by omega
      have HB := hide hb1
      clear hs1 hb1
      refine (unhide HPL _).mono ?_
      rintro e w2 ⟨rfl, hbN⟩
      have hsz := hbN.size
      have kp := blk_below kp hbN (blk_lt kp)
      have HB := hide ((unhide HB).trans (hbN.mono (by omega)))
      have hs : B + 1 ≤ w2.heap.size := by omega
      clear hbN hsz
      have hlp : B < w2.heap.size := blk_lt kp
      have cp0 : w2.cell? ⟨B, 0, none⟩ = some (.int .i64 W) := blk_cell kp 0
      have cp1 : w2.cell? ⟨B, 1, none⟩ = some (.int .i64 H) := blk_cell kp 1
      have cp2 : w2.cell? ⟨B, 2, none⟩ = some (.slice a n c) := blk_cell kp 2
      go_wp2_with fail
      clear cp0 cp1 cp2 hlp
      refine (unhide HSM _).mono ?_
      rintro e w3 ⟨rfl, hbN⟩
      have hsz := hbN.size
      have kp := blk_below kp hbN (blk_lt kp)
      have HB := hide ((unhide HB).trans (hbN.mono (by omega)))
      have hs : B + 1 ≤ w3.heap.size := by omega
      clear hbN hsz
      have hlp : B < w3.heap.size := blk_lt kp
      have cp0 : w3.cell? ⟨B, 0, none⟩ = some (.int .i64 W) := blk_cell kp 0
      have cp1 : w3.cell? ⟨B, 1, none⟩ = some (.int .i64 H) := blk_cell kp 1
      have cp2 : w3.cell? ⟨B, 2, none⟩ = some (.slice a n c) := blk_cell kp 2
      go_wp2_with fail
      clear cp0 cp1 cp2 hlp
      refine (unhide HRT _).mono ?_
      rintro e w4 ⟨rfl, hbN⟩
      have hsz := hbN.size
      have kp := blk_below kp hbN (blk_lt kp)
      have HB := hide ((unhide HB).trans (hbN.mono (by omega)))
      have hs : B + 1 ≤ w4.heap.size := by omega
      clear hbN hsz
      have hlp : B < w4.heap.size := blk_lt kp
      have cp0 : w4.cell? ⟨B, 0, none⟩ = some (.int .i64 W) := blk_cell kp 0
      have cp1 : w4.cell? ⟨B, 1, none⟩ = some (.int .i64 H) := blk_cell kp 1
      have cp2 : w4.cell? ⟨B, 2, none⟩ = some (.slice a n c) := blk_cell kp 2
      go_wp2
      clear cp0 cp1 cp2 hlp
      go_ret
      exact ⟨rfl, by rw [← unhide HBE]; exact unhide HB⟩
  have d1 : decide (z < -1000) = false := decide_eq_false (by omega)
  have d2 : decide (z > 1000) = false := decide_eq_false (by omega)
  obtain ⟨⟨hW0, hW⟩, ⟨hH0, hH⟩, hn⟩ := hR
  obtain ⟨W, rfl⟩ := Int.eq_ofNat_of_zero_le (show 0 ≤ W by omega)
  obtain ⟨H, rfl⟩ := Int.eq_ofNat_of_zero_le (show 0 ≤ H by omega)
  have hW0 : 1 ≤ W := by omega
  have hW : W ≤ 256 := by omega
  have hH0 : 1 ≤ H := by omega
  have hH : H ≤ 256 := by omega
  have hn : n = W * H := by exact_mod_cast hn
  obtain ⟨k, hk⟩ : ∃ k : Nat, z % 4 = (k : Int) := Int.eq_ofNat_of_zero_le (by omega)
  obtain ⟨k', hk'⟩ : ∃ k : Nat, (-z) % 4 = (k : Int) := Int.eq_ofNat_of_zero_le (by omega)
  have hk4 : (z + 4) % 4 = (k : Int) := by omega
  have wz : IntKind.i64.wrap (-z) = -z := by rw [IntKind.wrap_i64]; omega
  have wz4 : IntKind.i64.wrap (z + 4) = z + 4 := by rw [IntKind.wrap_i64]; omega
  obtain ⟨hB1, hB2, hB3⟩ := turned_back k k' W H p (by omega) (by omega) (by omega) hW0
  have hT := turn_sides k W H
  subst hn
  have HO := hide (fun w (h : IsPx w a (W * H) p) => own_isPx W H a (W * H) c p w h (by omega))
  have HFD := hide (fun w a c (p : Nat → Px) (h : IsPx w a (W * H) p) => flip_true W H a (W * H) c p w hW0 hW hH0 hH rfl h)
  have HFL := hide (fun w a c (p : Nat → Px) (h : IsPx w a (W * H) p) => flip_false W H a (W * H) c p w hW0 hW hH0 hH rfl h)
  have HT2 := hide (fun w a c (p : Nat → Px) (h : IsPx w a (W * H) p) => turn_any W H a (W * H) c 2 2 p w hW0 hW hH0 hH rfl h rfl)
  have HTk := hide (fun w a c (p : Nat → Px) (h : IsPx w a (W * H) p) => turn_any W H a (W * H) c z k p w hW0 hW hH0 hH rfl h hk)
  have HT4 := hide (fun w a c (p : Nat → Px) (h : IsPx w a (W * H) p) => turn_any W H a (W * H) c (z + 4) k p w hW0 hW hH0 hH rfl h hk4)
  have HTb := hide (fun w a c (p : Nat → Px) (h : IsPx w a (tW k W H * tW k H W) p) => turn_any (tW k W H) (tW k H W) a (tW k W H * tW k H W) c (-z) k' p w (by omega) (by omega) (by omega) (by omega) rfl h hk')
  rw [hB1, hB2] at HTb
  have e2 : tW 2 W H = W := rfl
  have e2' : tW 2 H W = H := rfl
  rw [e2, e2'] at HT2
  have HFB := hide (flipped_back W H p hW0)
  have HF2 := hide (flipped_both W H p hW0)
  have HBK := hide hB3
  have hMk : tW k W H * tW k H W ≤ 100000 := Nat.le_trans (Nat.mul_le_mul (show tW k W H ≤ 256 by omega) (show tW k H W ≤ 256 by omega)) (by omega)
  obtain ⟨W1, hW1⟩ : ∃ x, x = tW k W H := ⟨_, rfl⟩
  obtain ⟨H1, hH1⟩ : ∃ x, x = tW k H W := ⟨_, rfl⟩
  rw [← hW1, ← hH1] at HTk HT4 HTb HBK hMk
  have HS := hide (fun w (W H : Nat) a b c d (p : Nat → Px) (h : W * H ≤ 100000) (h1 : IsPx w a (W * H) p) (h2 : IsPx w b (W * H) p) => samePicture_any (W : Int) (H : Int) a b (W * H) c d p w h1 h2 h)
  unfold fD at *
  obtain ⟨M, hM⟩ : ∃ x, x = W * H := ⟨_, rfl⟩
  obtain ⟨M1, hM1⟩ : ∃ x, x = W1 * H1 := ⟨_, rfl⟩
  have HX : Hid (IsPx w a M p) := by rw [hM]; exact hP
  have hM3 : M ≤ 100000 := by omega
  have HS1 := hide (fun w a b c d (p : Nat → Px) (h1 : IsPx w a M p) (h2 : IsPx w b M p) => samePicture_any (W : Int) (H : Int) a b M c d p w h1 h2 hM3)
  rw [← hM1] at hMk
  have HS2 := hide (fun w a b c d (p : Nat → Px) (h1 : IsPx w a M1 p) (h2 : IsPx w b M1 p) => samePicture_any (W1 : Int) (H1 : Int) a b M1 c d p w h1 h2 hMk)
  rw [← hM] at HO HFD HFL HT2 HTk HT4 HTb HFB HF2 HBK HSM HRT ⊢
  rw [← hM1] at HTk HT4 HTb
  clear hP hB1 hB2 hB3 e2 e2' hk hk' hk4 hn3 hz hT hW1 hH1 hM hM1 HS hW0 hW hH0 hH
  have HA := hide (al1 w (.cells #[.int .i64 (W : Int), .int .i64 (H : Int), .slice a M c] 26))
  obtain ⟨B, hB⟩ : ∃ B, B = w.heap.size := ⟨_, rfl⟩
  go_enter Tryd.func7, Tryd.ntmps7
  go_wp2_with fail
  generalize (w.alloc (.cells #[.int .i64 (W : Int), .int .i64 (H : Int), .slice a M c] 26)) = w1 at *
  rw [← hB] at HA ⊢
  obtain ⟨hs1, kp, hb1⟩ := unhide HA
  have HBE := hide hB
  clear HA hB
  have hs : B + 1 ≤ w1.heap.size := by omega
  have HB := hide hb1
  clear hs1 hb1
  have HXp := hide ((unhide HX).under (unhide HB) (fun x hx h0 => by rw [unhide HBE]; exact (unhide HX).lt x hx h0))
  clear HX
  refine (unhide HPL _).mono ?_
  rintro e w2 ⟨rfl, hbN⟩
  have hsz := hbN.size
  have kp := blk_below kp hbN (blk_lt kp)
  have HXp := hide ((unhide HXp).below hbN)
  have HB := hide ((unhide HB).trans (hbN.mono (by omega)))
  have hs : B + 1 ≤ w2.heap.size := by omega
  clear hbN hsz
  have hlp : B < w2.heap.size := blk_lt kp
  have cp0 : w2.cell? ⟨B, 0, none⟩ = some (.int .i64 (W : Int)) := blk_cell kp 0
  have cp1 : w2.cell? ⟨B, 1, none⟩ = some (.int .i64 (H : Int)) := blk_cell kp 1
  have cp2 : w2.cell? ⟨B, 2, none⟩ = some (.slice a M c) := blk_cell kp 2
  go_wp2_with fail
  clear cp0 cp1 cp2 hlp
  refine (unhide HSM _).mono ?_
  rintro e w3 ⟨rfl, hbN⟩
  have hsz := hbN.size
  have kp := blk_below kp hbN (blk_lt kp)
  have HXp := hide ((unhide HXp).below hbN)
  have HB := hide ((unhide HB).trans (hbN.mono (by omega)))
  have hs : B + 1 ≤ w3.heap.size := by omega
  clear hbN hsz
  have hlp : B < w3.heap.size := blk_lt kp
  have cp0 : w3.cell? ⟨B, 0, none⟩ = some (.int .i64 (W : Int)) := blk_cell kp 0
  have cp1 : w3.cell? ⟨B, 1, none⟩ = some (.int .i64 (H : Int)) := blk_cell kp 1
  have cp2 : w3.cell? ⟨B, 2, none⟩ = some (.slice a M c) := blk_cell kp 2
  go_wp2_with fail
  clear cp0 cp1 cp2 hlp
  refine (unhide HRT _).mono ?_
  rintro e w4 ⟨rfl, hbN⟩
  have hsz := hbN.size
  have kp := blk_below kp hbN (blk_lt kp)
  have HXp := hide ((unhide HXp).below hbN)
  have HB := hide ((unhide HB).trans (hbN.mono (by omega)))
  have hs : B + 1 ≤ w4.heap.size := by omega
  clear hbN hsz
  have hlp : B < w4.heap.size := blk_lt kp
  have cp0 : w4.cell? ⟨B, 0, none⟩ = some (.int .i64 (W : Int)) := blk_cell kp 0
  have cp1 : w4.cell? ⟨B, 1, none⟩ = some (.int .i64 (H : Int)) := blk_cell kp 1
  have cp2 : w4.cell? ⟨B, 2, none⟩ = some (.slice a M c) := blk_cell kp 2
  go_wp2_with fail
  clear cp0 cp1 cp2 hlp
  refine (unhide HO w4 (unhide HXp)).mono ?_
  rintro e w5 ⟨a1, c1, rfl, hpx, hbN⟩
  have hsz := hbN.size
  have kp := blk_below kp hbN (blk_lt kp)
  have HXp := hide ((unhide HXp).below hbN)
  have HB := hide ((unhide HB).trans (hbN.mono (by omega)))
  have hs : B + 1 ≤ w5.heap.size := by omega
  clear hbN hsz
  have HX1 := hide hpx
  clear hpx
  have hlp : B < w5.heap.size := blk_lt kp
  have cp0 : w5.cell? ⟨B, 0, none⟩ = some (.int .i64 (W : Int)) := blk_cell kp 0
  have cp1 : w5.cell? ⟨B, 1, none⟩ = some (.int .i64 (H : Int)) := blk_cell kp 1
  have cp2 : w5.cell? ⟨B, 2, none⟩ = some (.slice a M c) := blk_cell kp 2
  go_wp2_with fail
  clear cp0 cp1 cp2 hlp
  refine (unhide HFD w5 _ _ _ (unhide HX1)).mono ?_
  rintro e w6 ⟨a2, c2, rfl, hpx, hbN⟩
  have hsz := hbN.size
  have kp := blk_below kp hbN (blk_lt kp)
  have HXp := hide ((unhide HXp).below hbN)
  have HX1 := hide ((unhide HX1).below hbN)
  have HB := hide ((unhide HB).trans (hbN.mono (by omega)))
  have hs : B + 1 ≤ w6.heap.size := by omega
  clear hbN hsz
  have HX2 := hide hpx
  clear hpx
  have hlp : B < w6.heap.size := blk_lt kp
  have cp0 : w6.cell? ⟨B, 0, none⟩ = some (.int .i64 (W : Int)) := blk_cell kp 0
  have cp1 : w6.cell? ⟨B, 1, none⟩ = some (.int .i64 (H : Int)) := blk_cell kp 1
  have cp2 : w6.cell? ⟨B, 2, none⟩ = some (.slice a M c) := blk_cell kp 2
  have HA := hide (al1 w6 (.cells #[.int .i64 (W : Int), .int .i64 (H : Int), .slice a2 M c2] 26))
  obtain ⟨bA, heqA⟩ : ∃ b, b = w6.heap.size := ⟨_, rfl⟩
  go_wp2_with fail
  clear cp0 cp1 cp2 hlp
  generalize w6.alloc (.cells #[.int .i64 (W : Int), .int .i64 (H : Int), .slice a2 M c2] 26) = w7 at *
  rw [← heqA] at HA ⊢
  obtain ⟨hsA, kA, hbA⟩ := unhide HA
  rw [heqA] at hbA
  have ltAp : B < bA := by rw [heqA]; exact blk_lt kp
  have hgB : B ≤ bA := by rw [heqA]; omega
  clear HA
  have hsz := hbA.size
  have kp := blk_below kp hbA (blk_lt kp)
  have HXp := hide ((unhide HXp).below hbA)
  have HX1 := hide ((unhide HX1).below hbA)
  have HX2 := hide ((unhide HX2).below hbA)
  have HB := hide ((unhide HB).trans (hbA.mono (by omega)))
  have hs : B + 1 ≤ w7.heap.size := by omega
  clear hbA hsz
  clear heqA hsA
  refine (unhide HFD w7 _ _ _ (unhide HX2)).mono ?_
  rintro e w8 ⟨a3, c3, rfl, hpx, hbN⟩
  have hsz := hbN.size
  have kp := blk_below kp hbN (blk_lt kp)
  have kA := blk_below kA hbN (blk_lt kA)
  have HXp := hide ((unhide HXp).below hbN)
  have HX1 := hide ((unhide HX1).below hbN)
  have HX2 := hide ((unhide HX2).below hbN)
  have HB := hide ((unhide HB).trans (hbN.mono (by omega)))
  have hs : B + 1 ≤ w8.heap.size := by omega
  clear hbN hsz
  have HX3 := hide hpx
  clear hpx
  have hlp : B < w8.heap.size := blk_lt kp
  have cp0 : w8.cell? ⟨B, 0, none⟩ = some (.int .i64 (W : Int)) := blk_cell kp 0
  have cp1 : w8.cell? ⟨B, 1, none⟩ = some (.int .i64 (H : Int)) := blk_cell kp 1
  have cp2 : w8.cell? ⟨B, 2, none⟩ = some (.slice a M c) := blk_cell kp 2
  have hlA : bA < w8.heap.size := blk_lt kA
  have cA0 : w8.cell? ⟨bA, 0, none⟩ = some (.int .i64 (W : Int)) := blk_cell kA 0
  have cA1 : w8.cell? ⟨bA, 1, none⟩ = some (.int .i64 (H : Int)) := blk_cell kA 1
  have cA2 : w8.cell? ⟨bA, 2, none⟩ = some (.slice a2 M c2) := blk_cell kA 2
  have HA := hide (al1 w8 (.cells #[.int .i64 (W : Int), .int .i64 (H : Int), .slice a3 M c3] 26))
  obtain ⟨bQ, heqQ⟩ : ∃ b, b = w8.heap.size := ⟨_, rfl⟩
  go_wp2_with fail
  clear cp0 cp1 cp2 cA0 cA1 cA2 hlp hlA
  generalize w8.alloc (.cells #[.int .i64 (W : Int), .int .i64 (H : Int), .slice a3 M c3] 26) = w9 at *
  rw [← heqQ] at HA ⊢
  obtain ⟨hsA, kQ, hbA⟩ := unhide HA
  rw [heqQ] at hbA
  have ltQp : B < bQ := by rw [heqQ]; exact blk_lt kp
  have ltQA : bA < bQ := by rw [heqQ]; exact blk_lt kA
  have hgB : B ≤ bQ := by rw [heqQ]; omega
  clear HA
  have hsz := hbA.size
  have kp := blk_below kp hbA (blk_lt kp)
  have kA := blk_below kA hbA (blk_lt kA)
  have HXp := hide ((unhide HXp).below hbA)
  have HX1 := hide ((unhide HX1).below hbA)
  have HX2 := hide ((unhide HX2).below hbA)
  have HX3 := hide ((unhide HX3).below hbA)
  have HB := hide ((unhide HB).trans (hbA.mono (by omega)))
  have hs : B + 1 ≤ w9.heap.size := by omega
  clear hbA hsz
  clear heqQ hsA
  refine (unhide HFL w9 _ _ _ (unhide HX2)).mono ?_
  rintro e w10 ⟨a4, c4, rfl, hpx, hbN⟩
  have hsz := hbN.size
  have kp := blk_below kp hbN (blk_lt kp)
  have kA := blk_below kA hbN (blk_lt kA)
  have kQ := blk_below kQ hbN (blk_lt kQ)
  have HXp := hide ((unhide HXp).below hbN)
  have HX1 := hide ((unhide HX1).below hbN)
  have HX2 := hide ((unhide HX2).below hbN)
  have HX3 := hide ((unhide HX3).below hbN)
  have HB := hide ((unhide HB).trans (hbN.mono (by omega)))
  have hs : B + 1 ≤ w10.heap.size := by omega
  clear hbN hsz
  have HX4 := hide hpx
  clear hpx
  have hlp : B < w10.heap.size := blk_lt kp
  have cp0 : w10.cell? ⟨B, 0, none⟩ = some (.int .i64 (W : Int)) := blk_cell kp 0
  have cp1 : w10.cell? ⟨B, 1, none⟩ = some (.int .i64 (H : Int)) := blk_cell kp 1
  have cp2 : w10.cell? ⟨B, 2, none⟩ = some (.slice a M c) := blk_cell kp 2
  have hlA : bA < w10.heap.size := blk_lt kA
  have cA0 : w10.cell? ⟨bA, 0, none⟩ = some (.int .i64 (W : Int)) := blk_cell kA 0
  have cA1 : w10.cell? ⟨bA, 1, none⟩ = some (.int .i64 (H : Int)) := blk_cell kA 1
  have cA2 : w10.cell? ⟨bA, 2, none⟩ = some (.slice a2 M c2) := blk_cell kA 2
  have hlQ : bQ < w10.heap.size := blk_lt kQ
  have cQ0 : w10.cell? ⟨bQ, 0, none⟩ = some (.int .i64 (W : Int)) := blk_cell kQ 0
  have cQ1 : w10.cell? ⟨bQ, 1, none⟩ = some (.int .i64 (H : Int)) := blk_cell kQ 1
  have cQ2 : w10.cell? ⟨bQ, 2, none⟩ = some (.slice a3 M c3) := blk_cell kQ 2
  have HA := hide (al1 w10 (.cells #[.int .i64 (W : Int), .int .i64 (H : Int), .slice a4 M c4] 26))
  obtain ⟨bC, heqC⟩ : ∃ b, b = w10.heap.size := ⟨_, rfl⟩
  go_wp2_with fail
  clear cp0 cp1 cp2 cA0 cA1 cA2 cQ0 cQ1 cQ2 hlp hlA hlQ
  generalize w10.alloc (.cells #[.int .i64 (W : Int), .int .i64 (H : Int), .slice a4 M c4] 26) = w11 at *
  rw [← heqC] at HA ⊢
  obtain ⟨hsA, kC, hbA⟩ := unhide HA
  rw [heqC] at hbA
  have ltCp : B < bC := by rw [heqC]; exact blk_lt kp
  have ltCA : bA < bC := by rw [heqC]; exact blk_lt kA
  have ltCQ : bQ < bC := by rw [heqC]; exact blk_lt kQ
  have hgB : B ≤ bC := by rw [heqC]; omega
  clear HA
  have hsz := hbA.size
  have kp := blk_below kp hbA (blk_lt kp)
  have kA := blk_below kA hbA (blk_lt kA)
  have kQ := blk_below kQ hbA (blk_lt kQ)
  have HXp := hide ((unhide HXp).below hbA)
  have HX1 := hide ((unhide HX1).below hbA)
  have HX2 := hide ((unhide HX2).below hbA)
  have HX3 := hide ((unhide HX3).below hbA)
  have HX4 := hide ((unhide HX4).below hbA)
  have HB := hide ((unhide HB).trans (hbA.mono (by omega)))
  have hs : B + 1 ≤ w11.heap.size := by omega
  clear hbA hsz
  clear heqC hsA
  refine (unhide HO w11 (unhide HXp)).mono ?_
  rintro e w12 ⟨a5, c5, rfl, hpx, hbN⟩
  have hsz := hbN.size
  have kp := blk_below kp hbN (blk_lt kp)
  have kA := blk_below kA hbN (blk_lt kA)
  have kQ := blk_below kQ hbN (blk_lt kQ)
  have kC := blk_below kC hbN (blk_lt kC)
  have HXp := hide ((unhide HXp).below hbN)
  have HX1 := hide ((unhide HX1).below hbN)
  have HX2 := hide ((unhide HX2).below hbN)
  have HX3 := hide ((unhide HX3).below hbN)
  have HX4 := hide ((unhide HX4).below hbN)
  have HB := hide ((unhide HB).trans (hbN.mono (by omega)))
  have hs : B + 1 ≤ w12.heap.size := by omega
  clear hbN hsz
  have HX5 := hide hpx
  clear hpx
  have hlp : B < w12.heap.size := blk_lt kp
  have cp0 : w12.cell? ⟨B, 0, none⟩ = some (.int .i64 (W : Int)) := blk_cell kp 0
  have cp1 : w12.cell? ⟨B, 1, none⟩ = some (.int .i64 (H : Int)) := blk_cell kp 1
  have cp2 : w12.cell? ⟨B, 2, none⟩ = some (.slice a M c) := blk_cell kp 2
  have hlA : bA < w12.heap.size := blk_lt kA
  have cA0 : w12.cell? ⟨bA, 0, none⟩ = some (.int .i64 (W : Int)) := blk_cell kA 0
  have cA1 : w12.cell? ⟨bA, 1, none⟩ = some (.int .i64 (H : Int)) := blk_cell kA 1
  have cA2 : w12.cell? ⟨bA, 2, none⟩ = some (.slice a2 M c2) := blk_cell kA 2
  have hlQ : bQ < w12.heap.size := blk_lt kQ
  have cQ0 : w12.cell? ⟨bQ, 0, none⟩ = some (.int .i64 (W : Int)) := blk_cell kQ 0
  have cQ1 : w12.cell? ⟨bQ, 1, none⟩ = some (.int .i64 (H : Int)) := blk_cell kQ 1
  have cQ2 : w12.cell? ⟨bQ, 2, none⟩ = some (.slice a3 M c3) := blk_cell kQ 2
  have hlC : bC < w12.heap.size := blk_lt kC
  have cC0 : w12.cell? ⟨bC, 0, none⟩ = some (.int .i64 (W : Int)) := blk_cell kC 0
  have cC1 : w12.cell? ⟨bC, 1, none⟩ = some (.int .i64 (H : Int)) := blk_cell kC 1
  have cC2 : w12.cell? ⟨bC, 2, none⟩ = some (.slice a4 M c4) := blk_cell kC 2
  go_wp2_with fail
  clear cp0 cp1 cp2 cA0 cA1 cA2 cQ0 cQ1 cQ2 cC0 cC1 cC2 hlp hlA hlQ hlC
  refine (unhide HT2 w12 _ _ _ (unhide HX5)).mono ?_
  rintro e w13 ⟨a6, c6, rfl, hpx, hbN⟩
  have hsz := hbN.size
  have kp := blk_below kp hbN (blk_lt kp)
  have kA := blk_below kA hbN (blk_lt kA)
  have kQ := blk_below kQ hbN (blk_lt kQ)
  have kC := blk_below kC hbN (blk_lt kC)
  have HXp := hide ((unhide HXp).below hbN)
  have HX1 := hide ((unhide HX1).below hbN)
  have HX2 := hide ((unhide HX2).below hbN)
  have HX3 := hide ((unhide HX3).below hbN)
  have HX4 := hide ((unhide HX4).below hbN)
  have HX5 := hide ((unhide HX5).below hbN)
  have HB := hide ((unhide HB).trans (hbN.mono (by omega)))
  have hs : B + 1 ≤ w13.heap.size := by omega
  clear hbN hsz
  have HX6 := hide hpx
  clear hpx
  have hlp : B < w13.heap.size := blk_lt kp
  have cp0 : w13.cell? ⟨B, 0, none⟩ = some (.int .i64 (W : Int)) := blk_cell kp 0
  have cp1 : w13.cell? ⟨B, 1, none⟩ = some (.int .i64 (H : Int)) := blk_cell kp 1
  have cp2 : w13.cell? ⟨B, 2, none⟩ = some (.slice a M c) := blk_cell kp 2
  have hlA : bA < w13.heap.size := blk_lt kA
  have cA0 : w13.cell? ⟨bA, 0, none⟩ = some (.int .i64 (W : Int)) := blk_cell kA 0
  have cA1 : w13.cell? ⟨bA, 1, none⟩ = some (.int .i64 (H : Int)) := blk_cell kA 1
  have cA2 : w13.cell? ⟨bA, 2, none⟩ = some (.slice a2 M c2) := blk_cell kA 2
  have hlQ : bQ < w13.heap.size := blk_lt kQ
  have cQ0 : w13.cell? ⟨bQ, 0, none⟩ = some (.int .i64 (W : Int)) := blk_cell kQ 0
  have cQ1 : w13.cell? ⟨bQ, 1, none⟩ = some (.int .i64 (H : Int)) := blk_cell kQ 1
  have cQ2 : w13.cell? ⟨bQ, 2, none⟩ = some (.slice a3 M c3) := blk_cell kQ 2
  have hlC : bC < w13.heap.size := blk_lt kC
  have cC0 : w13.cell? ⟨bC, 0, none⟩ = some (.int .i64 (W : Int)) := blk_cell kC 0
  have cC1 : w13.cell? ⟨bC, 1, none⟩ = some (.int .i64 (H : Int)) := blk_cell kC 1
  have cC2 : w13.cell? ⟨bC, 2, none⟩ = some (.slice a4 M c4) := blk_cell kC 2
  have HA := hide (al1 w13 (.cells #[.int .i64 (W : Int), .int .i64 (H : Int), .slice a6 M c6] 26))
  obtain ⟨bD, heqD⟩ : ∃ b, b = w13.heap.size := ⟨_, rfl⟩
  go_wp2_with fail
  clear cp0 cp1 cp2 cA0 cA1 cA2 cQ0 cQ1 cQ2 cC0 cC1 cC2 hlp hlA hlQ hlC
  generalize w13.alloc (.cells #[.int .i64 (W : Int), .int .i64 (H : Int), .slice a6 M c6] 26) = w14 at *
  rw [← heqD] at HA ⊢
  obtain ⟨hsA, kD, hbA⟩ := unhide HA
  rw [heqD] at hbA
  have ltDp : B < bD := by rw [heqD]; exact blk_lt kp
  have ltDA : bA < bD := by rw [heqD]; exact blk_lt kA
  have ltDQ : bQ < bD := by rw [heqD]; exact blk_lt kQ
  have ltDC : bC < bD := by rw [heqD]; exact blk_lt kC
  have hgB : B ≤ bD := by rw [heqD]; omega
  clear HA
  have hsz := hbA.size
  have kp := blk_below kp hbA (blk_lt kp)
  have kA := blk_below kA hbA (blk_lt kA)
  have kQ := blk_below kQ hbA (blk_lt kQ)
  have kC := blk_below kC hbA (blk_lt kC)
  have HXp := hide ((unhide HXp).below hbA)
  have HX1 := hide ((unhide HX1).below hbA)
  have HX2 := hide ((unhide HX2).below hbA)
  have HX3 := hide ((unhide HX3).below hbA)
  have HX4 := hide ((unhide HX4).below hbA)
  have HX5 := hide ((unhide HX5).below hbA)
  have HX6 := hide ((unhide HX6).below hbA)
  have HB := hide ((unhide HB).trans (hbA.mono (by omega)))
  have hs : B + 1 ≤ w14.heap.size := by omega
  clear hbA hsz
  clear heqD hsA
  refine (unhide HS1 w14 _ _ _ _ _ ((unhide HX3).congr (unhide HFB)) (unhide HXp)).mono ?_
  rintro e w15 ⟨rfl, hbN⟩
  have hsz := hbN.size
  have kp := blk_below kp hbN (blk_lt kp)
  have kA := blk_below kA hbN (blk_lt kA)
  have kQ := blk_below kQ hbN (blk_lt kQ)
  have kC := blk_below kC hbN (blk_lt kC)
  have kD := blk_below kD hbN (blk_lt kD)
  have HXp := hide ((unhide HXp).below hbN)
  have HX1 := hide ((unhide HX1).below hbN)
  have HX2 := hide ((unhide HX2).below hbN)
  have HX3 := hide ((unhide HX3).below hbN)
  have HX4 := hide ((unhide HX4).below hbN)
  have HX5 := hide ((unhide HX5).below hbN)
  have HX6 := hide ((unhide HX6).below hbN)
  have HB := hide ((unhide HB).trans (hbN.mono (by omega)))
  have hs : B + 1 ≤ w15.heap.size := by omega
  clear hbN hsz
  have hlp : B < w15.heap.size := blk_lt kp
  have cp0 : w15.cell? ⟨B, 0, none⟩ = some (.int .i64 (W : Int)) := blk_cell kp 0
  have cp1 : w15.cell? ⟨B, 1, none⟩ = some (.int .i64 (H : Int)) := blk_cell kp 1
  have cp2 : w15.cell? ⟨B, 2, none⟩ = some (.slice a M c) := blk_cell kp 2
  have hlA : bA < w15.heap.size := blk_lt kA
  have cA0 : w15.cell? ⟨bA, 0, none⟩ = some (.int .i64 (W : Int)) := blk_cell kA 0
  have cA1 : w15.cell? ⟨bA, 1, none⟩ = some (.int .i64 (H : Int)) := blk_cell kA 1
  have cA2 : w15.cell? ⟨bA, 2, none⟩ = some (.slice a2 M c2) := blk_cell kA 2
  have hlQ : bQ < w15.heap.size := blk_lt kQ
  have cQ0 : w15.cell? ⟨bQ, 0, none⟩ = some (.int .i64 (W : Int)) := blk_cell kQ 0
  have cQ1 : w15.cell? ⟨bQ, 1, none⟩ = some (.int .i64 (H : Int)) := blk_cell kQ 1
  have cQ2 : w15.cell? ⟨bQ, 2, none⟩ = some (.slice a3 M c3) := blk_cell kQ 2
  have hlC : bC < w15.heap.size := blk_lt kC
  have cC0 : w15.cell? ⟨bC, 0, none⟩ = some (.int .i64 (W : Int)) := blk_cell kC 0
  have cC1 : w15.cell? ⟨bC, 1, none⟩ = some (.int .i64 (H : Int)) := blk_cell kC 1
  have cC2 : w15.cell? ⟨bC, 2, none⟩ = some (.slice a4 M c4) := blk_cell kC 2
  have hlD : bD < w15.heap.size := blk_lt kD
  have cD0 : w15.cell? ⟨bD, 0, none⟩ = some (.int .i64 (W : Int)) := blk_cell kD 0
  have cD1 : w15.cell? ⟨bD, 1, none⟩ = some (.int .i64 (H : Int)) := blk_cell kD 1
  have cD2 : w15.cell? ⟨bD, 2, none⟩ = some (.slice a6 M c6) := blk_cell kD 2
  go_wp2_with fail
  clear cp0 cp1 cp2 cA0 cA1 cA2 cQ0 cQ1 cQ2 cC0 cC1 cC2 cD0 cD1 cD2 hlp hlA hlQ hlC hlD
  refine (unhide HS1 w15 _ _ _ _ _ ((unhide HX4).congr (unhide HF2)) (unhide HX6)).mono ?_
  rintro e w16 ⟨rfl, hbN⟩
  have hsz := hbN.size
  have kp := blk_below kp hbN (blk_lt kp)
  have kA := blk_below kA hbN (blk_lt kA)
  have kQ := blk_below kQ hbN (blk_lt kQ)
  have kC := blk_below kC hbN (blk_lt kC)
  have kD := blk_below kD hbN (blk_lt kD)
  have HXp := hide ((unhide HXp).below hbN)
  have HX1 := hide ((unhide HX1).below hbN)
  have HX2 := hide ((unhide HX2).below hbN)
  have HX3 := hide ((unhide HX3).below hbN)
  have HX4 := hide ((unhide HX4).below hbN)
  have HX5 := hide ((unhide HX5).below hbN)
  have HX6 := hide ((unhide HX6).below hbN)
  have HB := hide ((unhide HB).trans (hbN.mono (by omega)))
  have hs : B + 1 ≤ w16.heap.size := by omega
  clear hbN hsz
  clear HX1 HX2 HX3 HX4 HX5 HX6 HFD HFL HT2 HFB HF2
  have hlp : B < w16.heap.size := blk_lt kp
  have cp0 : w16.cell? ⟨B, 0, none⟩ = some (.int .i64 (W : Int)) := blk_cell kp 0
  have cp1 : w16.cell? ⟨B, 1, none⟩ = some (.int .i64 (H : Int)) := blk_cell kp 1
  have cp2 : w16.cell? ⟨B, 2, none⟩ = some (.slice a M c) := blk_cell kp 2
  have hlA : bA < w16.heap.size := blk_lt kA
  have cA0 : w16.cell? ⟨bA, 0, none⟩ = some (.int .i64 (W : Int)) := blk_cell kA 0
  have cA1 : w16.cell? ⟨bA, 1, none⟩ = some (.int .i64 (H : Int)) := blk_cell kA 1
  have cA2 : w16.cell? ⟨bA, 2, none⟩ = some (.slice a2 M c2) := blk_cell kA 2
  have hlQ : bQ < w16.heap.size := blk_lt kQ
  have cQ0 : w16.cell? ⟨bQ, 0, none⟩ = some (.int .i64 (W : Int)) := blk_cell kQ 0
  have cQ1 : w16.cell? ⟨bQ, 1, none⟩ = some (.int .i64 (H : Int)) := blk_cell kQ 1
  have cQ2 : w16.cell? ⟨bQ, 2, none⟩ = some (.slice a3 M c3) := blk_cell kQ 2
  have hlC : bC < w16.heap.size := blk_lt kC
  have cC0 : w16.cell? ⟨bC, 0, none⟩ = some (.int .i64 (W : Int)) := blk_cell kC 0
  have cC1 : w16.cell? ⟨bC, 1, none⟩ = some (.int .i64 (H : Int)) := blk_cell kC 1
  have cC2 : w16.cell? ⟨bC, 2, none⟩ = some (.slice a4 M c4) := blk_cell kC 2
  have hlD : bD < w16.heap.size := blk_lt kD
  have cD0 : w16.cell? ⟨bD, 0, none⟩ = some (.int .i64 (W : Int)) := blk_cell kD 0
  have cD1 : w16.cell? ⟨bD, 1, none⟩ = some (.int .i64 (H : Int)) := blk_cell kD 1
  have cD2 : w16.cell? ⟨bD, 2, none⟩ = some (.slice a6 M c6) := blk_cell kD 2
  go_wp2_with fail
  clear cp0 cp1 cp2 cA0 cA1 cA2 cQ0 cQ1 cQ2 cC0 cC1 cC2 cD0 cD1 cD2 hlp hlA hlQ hlC hlD
  refine (unhide HO w16 (unhide HXp)).mono ?_
  rintro e w17 ⟨a7, c7, rfl, hpx, hbN⟩
  have hsz := hbN.size
  have kp := blk_below kp hbN (blk_lt kp)
  have kA := blk_below kA hbN (blk_lt kA)
  have kQ := blk_below kQ hbN (blk_lt kQ)
  have kC := blk_below kC hbN (blk_lt kC)
  have kD := blk_below kD hbN (blk_lt kD)
  have HXp := hide ((unhide HXp).below hbN)
  have HB := hide ((unhide HB).trans (hbN.mono (by omega)))
  have hs : B + 1 ≤ w17.heap.size := by omega
  clear hbN hsz
  have HX7 := hide hpx
  clear hpx
  have hlp : B < w17.heap.size := blk_lt kp
  have cp0 : w17.cell? ⟨B, 0, none⟩ = some (.int .i64 (W : Int)) := blk_cell kp 0
  have cp1 : w17.cell? ⟨B, 1, none⟩ = some (.int .i64 (H : Int)) := blk_cell kp 1
  have cp2 : w17.cell? ⟨B, 2, none⟩ = some (.slice a M c) := blk_cell kp 2
  have hlA : bA < w17.heap.size := blk_lt kA
  have cA0 : w17.cell? ⟨bA, 0, none⟩ = some (.int .i64 (W : Int)) := blk_cell kA 0
  have cA1 : w17.cell? ⟨bA, 1, none⟩ = some (.int .i64 (H : Int)) := blk_cell kA 1
  have cA2 : w17.cell? ⟨bA, 2, none⟩ = some (.slice a2 M c2) := blk_cell kA 2
  have hlQ : bQ < w17.heap.size := blk_lt kQ
  have cQ0 : w17.cell? ⟨bQ, 0, none⟩ = some (.int .i64 (W : Int)) := blk_cell kQ 0
  have cQ1 : w17.cell? ⟨bQ, 1, none⟩ = some (.int .i64 (H : Int)) := blk_cell kQ 1
  have cQ2 : w17.cell? ⟨bQ, 2, none⟩ = some (.slice a3 M c3) := blk_cell kQ 2
  have hlC : bC < w17.heap.size := blk_lt kC
  have cC0 : w17.cell? ⟨bC, 0, none⟩ = some (.int .i64 (W : Int)) := blk_cell kC 0
  have cC1 : w17.cell? ⟨bC, 1, none⟩ = some (.int .i64 (H : Int)) := blk_cell kC 1
  have cC2 : w17.cell? ⟨bC, 2, none⟩ = some (.slice a4 M c4) := blk_cell kC 2
  have hlD : bD < w17.heap.size := blk_lt kD
  have cD0 : w17.cell? ⟨bD, 0, none⟩ = some (.int .i64 (W : Int)) := blk_cell kD 0
  have cD1 : w17.cell? ⟨bD, 1, none⟩ = some (.int .i64 (H : Int)) := blk_cell kD 1
  have cD2 : w17.cell? ⟨bD, 2, none⟩ = some (.slice a6 M c6) := blk_cell kD 2
  go_wp2_with fail
  clear cp0 cp1 cp2 cA0 cA1 cA2 cQ0 cQ1 cQ2 cC0 cC1 cC2 cD0 cD1 cD2 hlp hlA hlQ hlC hlD
  refine (unhide HTk w17 _ _ _ (unhide HX7)).mono ?_
  rintro e w18 ⟨a8, c8, rfl, hpx, hbN⟩
  have hsz := hbN.size
  have kp := blk_below kp hbN (blk_lt kp)
  have kA := blk_below kA hbN (blk_lt kA)
  have kQ := blk_below kQ hbN (blk_lt kQ)
  have kC := blk_below kC hbN (blk_lt kC)
  have kD := blk_below kD hbN (blk_lt kD)
  have HXp := hide ((unhide HXp).below hbN)
  have HX7 := hide ((unhide HX7).below hbN)
  have HB := hide ((unhide HB).trans (hbN.mono (by omega)))
  have hs : B + 1 ≤ w18.heap.size := by omega
  clear hbN hsz
  have HX8 := hide hpx
  clear hpx
  clear HX7
  have hlp : B < w18.heap.size := blk_lt kp
  have cp0 : w18.cell? ⟨B, 0, none⟩ = some (.int .i64 (W : Int)) := blk_cell kp 0
  have cp1 : w18.cell? ⟨B, 1, none⟩ = some (.int .i64 (H : Int)) := blk_cell kp 1
  have cp2 : w18.cell? ⟨B, 2, none⟩ = some (.slice a M c) := blk_cell kp 2
  have hlA : bA < w18.heap.size := blk_lt kA
  have cA0 : w18.cell? ⟨bA, 0, none⟩ = some (.int .i64 (W : Int)) := blk_cell kA 0
  have cA1 : w18.cell? ⟨bA, 1, none⟩ = some (.int .i64 (H : Int)) := blk_cell kA 1
  have cA2 : w18.cell? ⟨bA, 2, none⟩ = some (.slice a2 M c2) := blk_cell kA 2
  have hlQ : bQ < w18.heap.size := blk_lt kQ
  have cQ0 : w18.cell? ⟨bQ, 0, none⟩ = some (.int .i64 (W : Int)) := blk_cell kQ 0
  have cQ1 : w18.cell? ⟨bQ, 1, none⟩ = some (.int .i64 (H : Int)) := blk_cell kQ 1
  have cQ2 : w18.cell? ⟨bQ, 2, none⟩ = some (.slice a3 M c3) := blk_cell kQ 2
  have hlC : bC < w18.heap.size := blk_lt kC
  have cC0 : w18.cell? ⟨bC, 0, none⟩ = some (.int .i64 (W : Int)) := blk_cell kC 0
  have cC1 : w18.cell? ⟨bC, 1, none⟩ = some (.int .i64 (H : Int)) := blk_cell kC 1
  have cC2 : w18.cell? ⟨bC, 2, none⟩ = some (.slice a4 M c4) := blk_cell kC 2
  have hlD : bD < w18.heap.size := blk_lt kD
  have cD0 : w18.cell? ⟨bD, 0, none⟩ = some (.int .i64 (W : Int)) := blk_cell kD 0
  have cD1 : w18.cell? ⟨bD, 1, none⟩ = some (.int .i64 (H : Int)) := blk_cell kD 1
  have cD2 : w18.cell? ⟨bD, 2, none⟩ = some (.slice a6 M c6) := blk_cell kD 2
  have HA := hide (put3 kA (.int .i64 (W1 : Int)) (.int .i64 (H1 : Int)) (.slice a8 M1 c8) (unhide HB) (by omega))
  have fzA0 := blk_frozen kA 0
  have fzA1 := blk_frozen kA 1
  have fzA2 := blk_frozen kA 2
  go_wp2_with fail
  clear cp0 cp1 cp2 cA0 cA1 cA2 cQ0 cQ1 cQ2 cC0 cC1 cC2 cD0 cD1 cD2 hlp hlA hlQ hlC hlD
  generalize ((w18.setCell ⟨bA, 0, none⟩ (.int .i64 (W1 : Int))).setCell ⟨bA, 1, none⟩ (.int .i64 (H1 : Int))).setCell ⟨bA, 2, none⟩ (.slice a8 M1 c8) = w19 at *
  obtain ⟨hsA, kN, hoA, hbA, hpA⟩ := unhide HA
  clear HA fzA0 fzA1 fzA2
  have kp := (hoA (B) (by omega)).trans kp
  have kQ := (hoA (bQ) (by omega)).trans kQ
  have kC := (hoA (bC) (by omega)).trans kC
  have kD := (hoA (bD) (by omega)).trans kD
  have HXp := hide (hpA _ _ _ (unhide HXp))
  have HX8 := hide (hpA _ _ _ (unhide HX8))
  have kA := kN
  have HB := hide hbA
  have hs : B + 1 ≤ w19.heap.size := by omega
  clear hsA hoA hbA hpA kN
  refine (unhide HTb w19 _ _ _ (unhide HX8)).mono ?_
  rintro e w20 ⟨a9, c9, rfl, hpx, hbN⟩
  have hsz := hbN.size
  have kp := blk_below kp hbN (blk_lt kp)
  have kA := blk_below kA hbN (blk_lt kA)
  have kQ := blk_below kQ hbN (blk_lt kQ)
  have kC := blk_below kC hbN (blk_lt kC)
  have kD := blk_below kD hbN (blk_lt kD)
  have HXp := hide ((unhide HXp).below hbN)
  have HX8 := hide ((unhide HX8).below hbN)
  have HB := hide ((unhide HB).trans (hbN.mono (by omega)))
  have hs : B + 1 ≤ w20.heap.size := by omega
  clear hbN hsz
  have HX9 := hide hpx
  clear hpx
  have hlp : B < w20.heap.size := blk_lt kp
  have cp0 : w20.cell? ⟨B, 0, none⟩ = some (.int .i64 (W : Int)) := blk_cell kp 0
  have cp1 : w20.cell? ⟨B, 1, none⟩ = some (.int .i64 (H : Int)) := blk_cell kp 1
  have cp2 : w20.cell? ⟨B, 2, none⟩ = some (.slice a M c) := blk_cell kp 2
  have hlA : bA < w20.heap.size := blk_lt kA
  have cA0 : w20.cell? ⟨bA, 0, none⟩ = some (.int .i64 (W1 : Int)) := blk_cell kA 0
  have cA1 : w20.cell? ⟨bA, 1, none⟩ = some (.int .i64 (H1 : Int)) := blk_cell kA 1
  have cA2 : w20.cell? ⟨bA, 2, none⟩ = some (.slice a8 M1 c8) := blk_cell kA 2
  have hlQ : bQ < w20.heap.size := blk_lt kQ
  have cQ0 : w20.cell? ⟨bQ, 0, none⟩ = some (.int .i64 (W : Int)) := blk_cell kQ 0
  have cQ1 : w20.cell? ⟨bQ, 1, none⟩ = some (.int .i64 (H : Int)) := blk_cell kQ 1
  have cQ2 : w20.cell? ⟨bQ, 2, none⟩ = some (.slice a3 M c3) := blk_cell kQ 2
  have hlC : bC < w20.heap.size := blk_lt kC
  have cC0 : w20.cell? ⟨bC, 0, none⟩ = some (.int .i64 (W : Int)) := blk_cell kC 0
  have cC1 : w20.cell? ⟨bC, 1, none⟩ = some (.int .i64 (H : Int)) := blk_cell kC 1
  have cC2 : w20.cell? ⟨bC, 2, none⟩ = some (.slice a4 M c4) := blk_cell kC 2
  have hlD : bD < w20.heap.size := blk_lt kD
  have cD0 : w20.cell? ⟨bD, 0, none⟩ = some (.int .i64 (W : Int)) := blk_cell kD 0
  have cD1 : w20.cell? ⟨bD, 1, none⟩ = some (.int .i64 (H : Int)) := blk_cell kD 1
  have cD2 : w20.cell? ⟨bD, 2, none⟩ = some (.slice a6 M c6) := blk_cell kD 2
  have HA := hide (put3 kQ (.int .i64 (W : Int)) (.int .i64 (H : Int)) (.slice a9 M c9) (unhide HB) (by omega))
  have fzQ0 := blk_frozen kQ 0
  have fzQ1 := blk_frozen kQ 1
  have fzQ2 := blk_frozen kQ 2
  go_wp2_with fail
  clear cp0 cp1 cp2 cA0 cA1 cA2 cQ0 cQ1 cQ2 cC0 cC1 cC2 cD0 cD1 cD2 hlp hlA hlQ hlC hlD
  generalize ((w20.setCell ⟨bQ, 0, none⟩ (.int .i64 (W : Int))).setCell ⟨bQ, 1, none⟩ (.int .i64 (H : Int))).setCell ⟨bQ, 2, none⟩ (.slice a9 M c9) = w21 at *
  obtain ⟨hsA, kN, hoA, hbA, hpA⟩ := unhide HA
  clear HA fzQ0 fzQ1 fzQ2
  have kp := (hoA (B) (by omega)).trans kp
  have kA := (hoA (bA) (by omega)).trans kA
  have kC := (hoA (bC) (by omega)).trans kC
  have kD := (hoA (bD) (by omega)).trans kD
  have HXp := hide (hpA _ _ _ (unhide HXp))
  have HX8 := hide (hpA _ _ _ (unhide HX8))
  have HX9 := hide (hpA _ _ _ (unhide HX9))
  have kQ := kN
  have HB := hide hbA
  have hs : B + 1 ≤ w21.heap.size := by omega
  clear hsA hoA hbA hpA kN
  refine (unhide HO w21 (unhide HXp)).mono ?_
  rintro e w22 ⟨a10, c10, rfl, hpx, hbN⟩
  have hsz := hbN.size
  have kp := blk_below kp hbN (blk_lt kp)
  have kA := blk_below kA hbN (blk_lt kA)
  have kQ := blk_below kQ hbN (blk_lt kQ)
  have kC := blk_below kC hbN (blk_lt kC)
  have kD := blk_below kD hbN (blk_lt kD)
  have HXp := hide ((unhide HXp).below hbN)
  have HX8 := hide ((unhide HX8).below hbN)
  have HX9 := hide ((unhide HX9).below hbN)
  have HB := hide ((unhide HB).trans (hbN.mono (by omega)))
  have hs : B + 1 ≤ w22.heap.size := by omega
  clear hbN hsz
  have HX10 := hide hpx
  clear hpx
  have hlp : B < w22.heap.size := blk_lt kp
  have cp0 : w22.cell? ⟨B, 0, none⟩ = some (.int .i64 (W : Int)) := blk_cell kp 0
  have cp1 : w22.cell? ⟨B, 1, none⟩ = some (.int .i64 (H : Int)) := blk_cell kp 1
  have cp2 : w22.cell? ⟨B, 2, none⟩ = some (.slice a M c) := blk_cell kp 2
  have hlA : bA < w22.heap.size := blk_lt kA
  have cA0 : w22.cell? ⟨bA, 0, none⟩ = some (.int .i64 (W1 : Int)) := blk_cell kA 0
  have cA1 : w22.cell? ⟨bA, 1, none⟩ = some (.int .i64 (H1 : Int)) := blk_cell kA 1
  have cA2 : w22.cell? ⟨bA, 2, none⟩ = some (.slice a8 M1 c8) := blk_cell kA 2
  have hlQ : bQ < w22.heap.size := blk_lt kQ
  have cQ0 : w22.cell? ⟨bQ, 0, none⟩ = some (.int .i64 (W : Int)) := blk_cell kQ 0
  have cQ1 : w22.cell? ⟨bQ, 1, none⟩ = some (.int .i64 (H : Int)) := blk_cell kQ 1
  have cQ2 : w22.cell? ⟨bQ, 2, none⟩ = some (.slice a9 M c9) := blk_cell kQ 2
  have hlC : bC < w22.heap.size := blk_lt kC
  have cC0 : w22.cell? ⟨bC, 0, none⟩ = some (.int .i64 (W : Int)) := blk_cell kC 0
  have cC1 : w22.cell? ⟨bC, 1, none⟩ = some (.int .i64 (H : Int)) := blk_cell kC 1
  have cC2 : w22.cell? ⟨bC, 2, none⟩ = some (.slice a4 M c4) := blk_cell kC 2
  have hlD : bD < w22.heap.size := blk_lt kD
  have cD0 : w22.cell? ⟨bD, 0, none⟩ = some (.int .i64 (W : Int)) := blk_cell kD 0
  have cD1 : w22.cell? ⟨bD, 1, none⟩ = some (.int .i64 (H : Int)) := blk_cell kD 1
  have cD2 : w22.cell? ⟨bD, 2, none⟩ = some (.slice a6 M c6) := blk_cell kD 2
  go_wp2_with fail
  clear cp0 cp1 cp2 cA0 cA1 cA2 cQ0 cQ1 cQ2 cC0 cC1 cC2 cD0 cD1 cD2 hlp hlA hlQ hlC hlD
  refine (unhide HT4 w22 _ _ _ (unhide HX10)).mono ?_
  rintro e w23 ⟨a11, c11, rfl, hpx, hbN⟩
  have hsz := hbN.size
  have kp := blk_below kp hbN (blk_lt kp)
  have kA := blk_below kA hbN (blk_lt kA)
  have kQ := blk_below kQ hbN (blk_lt kQ)
  have kC := blk_below kC hbN (blk_lt kC)
  have kD := blk_below kD hbN (blk_lt kD)
  have HXp := hide ((unhide HXp).below hbN)
  have HX8 := hide ((unhide HX8).below hbN)
  have HX9 := hide ((unhide HX9).below hbN)
  have HX10 := hide ((unhide HX10).below hbN)
  have HB := hide ((unhide HB).trans (hbN.mono (by omega)))
  have hs : B + 1 ≤ w23.heap.size := by omega
  clear hbN hsz
  have HX11 := hide hpx
  clear hpx
  have hlp : B < w23.heap.size := blk_lt kp
  have cp0 : w23.cell? ⟨B, 0, none⟩ = some (.int .i64 (W : Int)) := blk_cell kp 0
  have cp1 : w23.cell? ⟨B, 1, none⟩ = some (.int .i64 (H : Int)) := blk_cell kp 1
  have cp2 : w23.cell? ⟨B, 2, none⟩ = some (.slice a M c) := blk_cell kp 2
  have hlA : bA < w23.heap.size := blk_lt kA
  have cA0 : w23.cell? ⟨bA, 0, none⟩ = some (.int .i64 (W1 : Int)) := blk_cell kA 0
  have cA1 : w23.cell? ⟨bA, 1, none⟩ = some (.int .i64 (H1 : Int)) := blk_cell kA 1
  have cA2 : w23.cell? ⟨bA, 2, none⟩ = some (.slice a8 M1 c8) := blk_cell kA 2
  have hlQ : bQ < w23.heap.size := blk_lt kQ
  have cQ0 : w23.cell? ⟨bQ, 0, none⟩ = some (.int .i64 (W : Int)) := blk_cell kQ 0
  have cQ1 : w23.cell? ⟨bQ, 1, none⟩ = some (.int .i64 (H : Int)) := blk_cell kQ 1
  have cQ2 : w23.cell? ⟨bQ, 2, none⟩ = some (.slice a9 M c9) := blk_cell kQ 2
  have hlC : bC < w23.heap.size := blk_lt kC
  have cC0 : w23.cell? ⟨bC, 0, none⟩ = some (.int .i64 (W : Int)) := blk_cell kC 0
  have cC1 : w23.cell? ⟨bC, 1, none⟩ = some (.int .i64 (H : Int)) := blk_cell kC 1
  have cC2 : w23.cell? ⟨bC, 2, none⟩ = some (.slice a4 M c4) := blk_cell kC 2
  have hlD : bD < w23.heap.size := blk_lt kD
  have cD0 : w23.cell? ⟨bD, 0, none⟩ = some (.int .i64 (W : Int)) := blk_cell kD 0
  have cD1 : w23.cell? ⟨bD, 1, none⟩ = some (.int .i64 (H : Int)) := blk_cell kD 1
  have cD2 : w23.cell? ⟨bD, 2, none⟩ = some (.slice a6 M c6) := blk_cell kD 2
  have HA := hide (put3 kC (.int .i64 (W1 : Int)) (.int .i64 (H1 : Int)) (.slice a11 M1 c11) (unhide HB) (by omega))
  have fzC0 := blk_frozen kC 0
  have fzC1 := blk_frozen kC 1
  have fzC2 := blk_frozen kC 2
  go_wp2_with fail
  clear cp0 cp1 cp2 cA0 cA1 cA2 cQ0 cQ1 cQ2 cC0 cC1 cC2 cD0 cD1 cD2 hlp hlA hlQ hlC hlD
  generalize ((w23.setCell ⟨bC, 0, none⟩ (.int .i64 (W1 : Int))).setCell ⟨bC, 1, none⟩ (.int .i64 (H1 : Int))).setCell ⟨bC, 2, none⟩ (.slice a11 M1 c11) = w24 at *
  obtain ⟨hsA, kN, hoA, hbA, hpA⟩ := unhide HA
  clear HA fzC0 fzC1 fzC2
  have kp := (hoA (B) (by omega)).trans kp
  have kA := (hoA (bA) (by omega)).trans kA
  have kQ := (hoA (bQ) (by omega)).trans kQ
  have kD := (hoA (bD) (by omega)).trans kD
  have HXp := hide (hpA _ _ _ (unhide HXp))
  have HX8 := hide (hpA _ _ _ (unhide HX8))
  have HX9 := hide (hpA _ _ _ (unhide HX9))
  have HX10 := hide (hpA _ _ _ (unhide HX10))
  have HX11 := hide (hpA _ _ _ (unhide HX11))
  have kC := kN
  have HB := hide hbA
  have hs : B + 1 ≤ w24.heap.size := by omega
  clear hsA hoA hbA hpA kN
  refine (unhide HS1 w24 _ _ _ _ _ ((unhide HX9).congr (unhide HBK)) (unhide HXp)).mono ?_
  rintro e w25 ⟨rfl, hbN⟩
  have hsz := hbN.size
  have kp := blk_below kp hbN (blk_lt kp)
  have kA := blk_below kA hbN (blk_lt kA)
  have kQ := blk_below kQ hbN (blk_lt kQ)
  have kC := blk_below kC hbN (blk_lt kC)
  have kD := blk_below kD hbN (blk_lt kD)
  have HXp := hide ((unhide HXp).below hbN)
  have HX8 := hide ((unhide HX8).below hbN)
  have HX9 := hide ((unhide HX9).below hbN)
  have HX10 := hide ((unhide HX10).below hbN)
  have HX11 := hide ((unhide HX11).below hbN)
  have HB := hide ((unhide HB).trans (hbN.mono (by omega)))
  have hs : B + 1 ≤ w25.heap.size := by omega
  clear hbN hsz
  have hlp : B < w25.heap.size := blk_lt kp
  have cp0 : w25.cell? ⟨B, 0, none⟩ = some (.int .i64 (W : Int)) := blk_cell kp 0
  have cp1 : w25.cell? ⟨B, 1, none⟩ = some (.int .i64 (H : Int)) := blk_cell kp 1
  have cp2 : w25.cell? ⟨B, 2, none⟩ = some (.slice a M c) := blk_cell kp 2
  have hlA : bA < w25.heap.size := blk_lt kA
  have cA0 : w25.cell? ⟨bA, 0, none⟩ = some (.int .i64 (W1 : Int)) := blk_cell kA 0
  have cA1 : w25.cell? ⟨bA, 1, none⟩ = some (.int .i64 (H1 : Int)) := blk_cell kA 1
  have cA2 : w25.cell? ⟨bA, 2, none⟩ = some (.slice a8 M1 c8) := blk_cell kA 2
  have hlQ : bQ < w25.heap.size := blk_lt kQ
  have cQ0 : w25.cell? ⟨bQ, 0, none⟩ = some (.int .i64 (W : Int)) := blk_cell kQ 0
  have cQ1 : w25.cell? ⟨bQ, 1, none⟩ = some (.int .i64 (H : Int)) := blk_cell kQ 1
  have cQ2 : w25.cell? ⟨bQ, 2, none⟩ = some (.slice a9 M c9) := blk_cell kQ 2
  have hlC : bC < w25.heap.size := blk_lt kC
  have cC0 : w25.cell? ⟨bC, 0, none⟩ = some (.int .i64 (W1 : Int)) := blk_cell kC 0
  have cC1 : w25.cell? ⟨bC, 1, none⟩ = some (.int .i64 (H1 : Int)) := blk_cell kC 1
  have cC2 : w25.cell? ⟨bC, 2, none⟩ = some (.slice a11 M1 c11) := blk_cell kC 2
  have hlD : bD < w25.heap.size := blk_lt kD
  have cD0 : w25.cell? ⟨bD, 0, none⟩ = some (.int .i64 (W : Int)) := blk_cell kD 0
  have cD1 : w25.cell? ⟨bD, 1, none⟩ = some (.int .i64 (H : Int)) := blk_cell kD 1
  have cD2 : w25.cell? ⟨bD, 2, none⟩ = some (.slice a6 M c6) := blk_cell kD 2
  go_wp2_with fail
  clear cp0 cp1 cp2 cA0 cA1 cA2 cQ0 cQ1 cQ2 cC0 cC1 cC2 cD0 cD1 cD2 hlp hlA hlQ hlC hlD
  refine (unhide HS2 w25 _ _ _ _ _ (unhide HX11) (unhide HX8)).mono ?_
  rintro e w26 ⟨rfl, hbN⟩
  have hsz := hbN.size
  have kp := blk_below kp hbN (blk_lt kp)
  have kA := blk_below kA hbN (blk_lt kA)
  have kQ := blk_below kQ hbN (blk_lt kQ)
  have kC := blk_below kC hbN (blk_lt kC)
  have kD := blk_below kD hbN (blk_lt kD)
  have HXp := hide ((unhide HXp).below hbN)
  have HX8 := hide ((unhide HX8).below hbN)
  have HX9 := hide ((unhide HX9).below hbN)
  have HX10 := hide ((unhide HX10).below hbN)
  have HX11 := hide ((unhide HX11).below hbN)
  have HB := hide ((unhide HB).trans (hbN.mono (by omega)))
  have hs : B + 1 ≤ w26.heap.size := by omega
  clear hbN hsz
  have hlp : B < w26.heap.size := blk_lt kp
  have cp0 : w26.cell? ⟨B, 0, none⟩ = some (.int .i64 (W : Int)) := blk_cell kp 0
  have cp1 : w26.cell? ⟨B, 1, none⟩ = some (.int .i64 (H : Int)) := blk_cell kp 1
  have cp2 : w26.cell? ⟨B, 2, none⟩ = some (.slice a M c) := blk_cell kp 2
  have hlA : bA < w26.heap.size := blk_lt kA
  have cA0 : w26.cell? ⟨bA, 0, none⟩ = some (.int .i64 (W1 : Int)) := blk_cell kA 0
  have cA1 : w26.cell? ⟨bA, 1, none⟩ = some (.int .i64 (H1 : Int)) := blk_cell kA 1
  have cA2 : w26.cell? ⟨bA, 2, none⟩ = some (.slice a8 M1 c8) := blk_cell kA 2
  have hlQ : bQ < w26.heap.size := blk_lt kQ
  have cQ0 : w26.cell? ⟨bQ, 0, none⟩ = some (.int .i64 (W : Int)) := blk_cell kQ 0
  have cQ1 : w26.cell? ⟨bQ, 1, none⟩ = some (.int .i64 (H : Int)) := blk_cell kQ 1
  have cQ2 : w26.cell? ⟨bQ, 2, none⟩ = some (.slice a9 M c9) := blk_cell kQ 2
  have hlC : bC < w26.heap.size := blk_lt kC
  have cC0 : w26.cell? ⟨bC, 0, none⟩ = some (.int .i64 (W1 : Int)) := blk_cell kC 0
  have cC1 : w26.cell? ⟨bC, 1, none⟩ = some (.int .i64 (H1 : Int)) := blk_cell kC 1
  have cC2 : w26.cell? ⟨bC, 2, none⟩ = some (.slice a11 M1 c11) := blk_cell kC 2
  have hlD : bD < w26.heap.size := blk_lt kD
  have cD0 : w26.cell? ⟨bD, 0, none⟩ = some (.int .i64 (W : Int)) := blk_cell kD 0
  have cD1 : w26.cell? ⟨bD, 1, none⟩ = some (.int .i64 (H : Int)) := blk_cell kD 1
  have cD2 : w26.cell? ⟨bD, 2, none⟩ = some (.slice a6 M c6) := blk_cell kD 2
  go_wp2
  clear cp0 cp1 cp2 cA0 cA1 cA2 cQ0 cQ1 cQ2 cC0 cC1 cC2 cD0 cD1 cD2 hlp hlA hlQ hlC hlD
  go_ret
  exact ⟨rfl, by rw [← unhide HBE]; exact unhide HB⟩

theorem rasterBack_any (W H : Int) (a : Option Addr) (n c : Nat) (p : Nat → Px) (z : Int) (w : World) (_A : Nat → Addr) (_e1 : w.cell? ⟨0, 0, none⟩ = some (.iface 130 (.pointer (some (_A 1))))) (_e2 : w.cell? ⟨1, 0, none⟩ = some (.iface 130 (.pointer (some (_A 2))))) (hP : IsPx w a n p) (_bW : -9223372036854775808 ≤ W ∧ W ≤ 9223372036854775807) (_bH : -9223372036854775808 ≤ H ∧ H ≤ 9223372036854775807) :
    Calls Tryd.prog 7 #[.agg #[.int .i64 W, .int .i64 H, .slice a n c], .int .i64 z] w fun e w' => e = .returned (.bool true) ∧ Below w.heap.size w w' := rasterBack_all W H a n c p z w hP
end Go.Proofs.YtjchafbihfblnahDoor
