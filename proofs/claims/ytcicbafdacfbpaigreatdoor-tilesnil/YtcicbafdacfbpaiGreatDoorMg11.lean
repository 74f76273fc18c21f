/- The statements' helpers on grids: small, sameRects, one. layercakelaw3.coded by its contracts. What the statements' walks on grids take: a copy of a picture with room, a grid of it, tiles that are unlike. -/
import Derived.Test.YtcicbafdacfbpaiGreatDoorTj6
import Derived.Test.YtcicbafdacfbpaiGreatDoorRo1
import Derived.Test.YtcicbafdacfbpaiGreatDoorMg9
namespace Go.Proofs.YtcicbafdacfbpaiGreatDoor
open Go.RowKit

theorem bel_transT {w wx wy : World} (h : Below w.heap.size w wx) (hb : Below wx.heap.size wx wy) : Below w.heap.size w wy := h.trans (hb.mono h.size)
theorem small3_any (W H : Int) (a : Option Addr) (n c : Nat) (w : World) :
    Calls Tryz.prog 8 #[.agg #[.int .i64 W, .int .i64 H, .slice a n c]] w fun e w' => e = .returned (.bool (decide (n ≤ 3000))) ∧ Below w.heap.size w w' := by
  have hb : Below w.heap.size w (w.alloc (.cells #[.int .i64 W, .int .i64 H, .slice a n c] 24)) := (Below.refl _ _).alloc (Nat.le_refl _) _
  have hd : decide ((n : Int) ≤ 3000) = decide (n ≤ 3000) := by simp; omega
  go_enter Tryz.func8, Tryz.ntmps8
  go_wp2
  go_ret
  exact ⟨by first | rfl | rw [hd], hb⟩

set_option maxHeartbeats 1000000 in
theorem sameRects_any (W H : Nat) (a b : Option Addr) (c d : Nat) (l : List Nat) (w : World) (hA : IsR w a W H l) (hB : IsR w b W H l) (hl : l.length ≤ 100000) :
    Calls Tryz.prog 22 #[.slice a l.length c, .slice b l.length d] w fun e w' => e = .returned (.bool true) ∧ Below w.heap.size w w' := by
  have HA := hide hA
  have HB := hide hB
  have HW := hide (Below.refl w.heap.size w)
  have HNE : Hid (∀ i, i < l.length → l ≠ []) := fun i hi e => by rw [e] at hi; simp at hi
  obtain ⟨n, hn⟩ : ∃ n, n = l.length := ⟨_, rfl⟩
  rw [← hn] at hl HNE ⊢
  have HN := hide hn
  clear hA hB hn
  go_enter Tryz.func22, Tryz.ntmps22
  go_wp2
  go_loopw [5] (fun iv wr => ∃ i nn : Nat, i ≤ n ∧ iv = .int .i64 (i : Int) ∧ wr = w.drewN nn) (fun iv _ => n - (intOf iv).toNat)
  case atStart => exact ⟨0, 0, by omega, rfl, rfl⟩
  case round =>
    obtain ⟨i, nn, hi, rfl, rfl⟩ := hrel
    by_cases hlt : i < n
    · have g1 : decide ((i : Int) < (n : Int)) = true := decide_eq_true (by omega)
      have g1n : decide (i < n) = true := decide_eq_true hlt
      obtain ⟨bA, rfl, hcA⟩ := (unhide HA).resolve_left (unhide HNE i hlt)
      obtain ⟨bB, rfl, hcB⟩ := (unhide HB).resolve_left (unhide HNE i hlt)
      obtain ⟨a0, a1, a2, a3⟩ := hcA i (by have := unhide HN; omega)
      obtain ⟨b0, b1, b2, b3⟩ := hcB i (by have := unhide HN; omega)
      have ha1 : (i : Int) < (n : Int) := by omega
      clear hcA hcB HA HB
      generalize l.getD i 0 = x at *
      generalize (tx W x : Int) = x0 at *
      generalize (ty W x : Int) = x1 at *
      generalize (tw W x : Int) = x2 at *
      generalize (th W H x : Int) = x3 at *
      go_wp2
      go_quiet (fail)
      go_wp2
      go_roundw
      case rel => exact ⟨i + 1, _, by omega, by go_num, rfl⟩
      case measure => simp [intOf]; omega
    · obtain rfl : i = n := by omega
      have g1 : decide ((i : Int) < (i : Int)) = false := by simp
      go_wp2
      go_ret
      exact ⟨rfl, belowD (unhide HW)⟩

theorem plain_of (g W H : Nat) (p : Nat → Px) (w : World) (hG : GridOf w g W H p) (hW0 : 1 ≤ W) (hW : W ≤ 256) (hH0 : 1 ≤ H) (hH : H ≤ 256) :
    Calls Tryz.prog 27 #[.pointer (some ⟨g, 0, none⟩)] w fun e w' => e = .returned (.int .i64 ((fnd (fun i => decide (Alk (tpx W p i) (tpn W H i))) (tn W H)).length : Int)) ∧ Below w.heap.size w w' := by
  have h := plain_some g W H _ _ w hG (Nat.mul_pos (tc_pos hW0) (tc_pos hH0)) (Nat.mul_le_mul (tc_le W hW) (tc_le H hH))
  have e : fnd (fun i => decide (keepN (tpx W p i) (tpn W H i) = 1)) (tn W H) = fnd (fun i => decide (Alk (tpx W p i) (tpn W H i))) (tn W H) := fnd_congr _ (fun i _ => decide_eq_decide.2 keepN_one)
  rw [e] at h
  exact h

set_option maxHeartbeats 2000000 in
theorem one3_any (w : World) :
    Calls Tryz.prog 7 #[] w fun e w' => e = .returned (.bool true) ∧ Below w.heap.size w w' := by
  obtain ⟨q, hq⟩ : ∃ q : Px, q = ⟨5, 0, 0, 0⟩ := ⟨_, rfl⟩
  have HBl := hide (fun w => blankC_any 2 2 q w (by omega) (by omega))
  have HOf := hide (fun g w (hP : IsPx w (some ⟨g, 0, none⟩) (2 * 2) (fun _ => q)) => of_right 2 2 (some ⟨g, 0, none⟩) (2 * 2) (2 * 2) (fun _ => q) w hP (by omega) (by omega) (by omega) (by omega) rfl (Nat.le_refl _))
  have HPl := hide (fun g w (h : GridOf w g 2 2 (fun _ => q)) => plain_of g 2 2 (fun _ => q) w h (by omega) (by omega) (by omega) (by omega))
  have HPi := hide (fun g w (h : GridOf w g 2 2 (fun _ => q)) => picture_of g 2 2 (fun _ => q) w h (by omega) (by omega) (by omega) (by omega))
  have e1 : (fnd (fun i => decide (Alk (tpx 2 (fun _ => q) i) (tpn 2 2 i))) (tn 2 2)).length = 1 := by
    have : (fun i => decide (Alk (tpx 2 (fun _ => q) i) (tpn 2 2 i))) = fun _ => true := by
      funext i
      exact decide_eq_true (fun j _ => rfl)
    rw [this]
    rfl
  rw [e1] at HPl
  have HS := hide (fun g h c w hA hB => samePicture_any 2 2 (some ⟨g, 0, none⟩) (some ⟨h, 0, none⟩) (2 * 2) (2 * 2) c (fun _ => q) w hA hB (by omega))
  rw [show q.val = .agg #[.int .u8 5, .int .u8 0, .int .u8 0, .int .u8 0] by rw [hq]; rfl] at HBl
  clear e1 hq
  go_enter Tryz.func7, Tryz.ntmps7
  go_wp2_with fail
  refine (unhide HBl w).mono ?_
  rintro e w1 ⟨b1, rfl, hb1, hr1, hbe1⟩
  have hp1 := hr1.isPx (by omega)
  have HO1 := hide (unhide HOf b1 w1 hp1)
  have HB1 := hide hbe1
  clear hb1 hr1 hp1 hbe1
  go_wp2_with fail
  refine (unhide HO1).mono ?_
  rintro e w2 ⟨g, rfl, _, hg2, hbe2⟩
  have HB2 := hide (bel_transT (unhide HB1) hbe2)
  have HP2 := hide (unhide HPl g w2 hg2)
  have HG2 := hide hg2
  clear hg2 hbe2 HO1 HB1
  go_wp2_with fail
  refine (unhide HP2).mono ?_
  rintro e w3 ⟨rfl, hbe3⟩
  have HB3 := hide (bel_transT (unhide HB2) hbe3)
  have HP3 := hide (unhide HPi g w3 ((unhide HG2).below hbe3))
  clear hbe3 HB2 HP2
  go_wp2_with fail
  refine (unhide HP3).mono ?_
  rintro e w4 ⟨b4, rfl, _, hr4, hbe4⟩
  have HB4 := hide (bel_transT (unhide HB3) hbe4)
  have HX4 := hide (hr4.isPx (by omega))
  clear hr4 hbe4 HB3 HP3
  go_wp2_with fail
  refine (unhide HBl w4).mono ?_
  rintro e w5 ⟨b5, rfl, _, hr5, hbe5⟩
  have HB5 := hide (bel_transT (unhide HB4) hbe5)
  have HS5 := hide (unhide HS b4 b5 (2 * 2) w5 ((unhide HX4).below hbe5) (hr5.isPx (by omega)))
  clear hr5 hbe5 HB4 HX4
  go_wp2_with fail
  refine (unhide HS5).mono ?_
  rintro e w6 ⟨rfl, hbe6⟩
  have HB6 := hide (bel_transT (unhide HB5) hbe6)
  clear hbe6 HB5 HS5
  go_wp2
  go_ret
  exact ⟨rfl, unhide HB6⟩
end Go.Proofs.YtcicbafdacfbpaiGreatDoor
namespace Go.Proofs.YtcicbafdacfbpaiGreatDoor
open Go.RowKit

theorem coded3_sent (i : Nat) (c : Int) (w : World) (a : Nat → Addr) (hS : Sent w a) (hi : i < 9) (hc : ((i : Int) + 1 == c) = true) :
    Calls Tryz.prog 15 #[sentV a i, .int .i64 c] w fun e w' => e = .returned (.bool true) ∧ Below w.heap.size w w' := by
  have Hcs := code_sent i w a hS hi
  generalize sentV a i = v at *
  have Hc : Go.RowKit.Hid (Calls _ _ _ _ _) := Hcs
  clear Hcs hS
  go_enter Tryz.func15, Tryz.ntmps15
  go_wp2_with fail
  refine Hc.out.mono ?_
  rintro e w1 ⟨rfl, hb⟩
  go_wp2
  go_ret
  exact ⟨rfl, hb⟩

theorem coded3_nil (w : World) :
    Calls Tryz.prog 15 #[.nilIface, .int .i64 0] w fun e w' => e = .returned (.bool true) ∧ w' = w := by
  go_enter Tryz.func15, Tryz.ntmps15
  go_wp2_with fail
  refine (code_nil _).mono ?_
  rintro e w1 ⟨rfl, rfl⟩
  go_wp2
  go_ret
  exact ⟨rfl, rfl⟩
end Go.Proofs.YtcicbafdacfbpaiGreatDoor
namespace Go.Proofs.YtcicbafdacfbpaiGreatDoor
open Go.RowKit

/-- Pixels, and room for them. -/
def IsPxC (w : World) (a : Option Addr) (n c : Nat) (p : Nat → Px) : Prop := IsPx w a n p ∧ n ≤ c
theorem IsPxC.below {w w' : World} {a : Option Addr} {n c : Nat} {p : Nat → Px} (h : IsPxC w a n c p) (hb : Below w.heap.size w w') : IsPxC w' a n c p := ⟨h.1.below hb, h.2⟩
theorem ownC_any (W H : Int) (a : Option Addr) (n c : Nat) (p : Nat → Px) (w : World) (hP : IsPx w a n p) (hn : n ≤ 100000) :
    Calls Tryz.prog 10 #[.agg #[.int .i64 W, .int .i64 H, .slice a n c]] w fun e w' => ∃ a2 c2, e = .returned (.agg #[.int .i64 W, .int .i64 H, .slice a2 n c2]) ∧ IsPxC w' a2 n c2 p ∧ Below w.heap.size w w' := by
  refine (own_any W H a n c p w hP hn).mono ?_
  rintro e w' ⟨a2, c2, rfl, ho, hb⟩
  refine ⟨a2, c2, rfl, ⟨own_px ho (by unfold maxLen; omega), ?_⟩, hb⟩
  rcases ho.2 with ⟨_, q⟩ | ⟨g, cap, cur, hv, _, _, h, _⟩
  · omega
  · injection hv with _ _ e
    omega
theorem ofP_any (W H : Nat) (a : Option Addr) (n c : Nat) (p : Nat → Px) (w : World) (hP : IsPxC w a n c p) (hW0 : 1 ≤ W) (hW : W ≤ 256) (hH0 : 1 ≤ H) (hH : H ≤ 256) (hn : n = W * H) :
    Calls Tryz.prog 9 #[.agg #[.int .i64 (W : Int), .int .i64 (H : Int), .slice a n c]] w fun e w' => ∃ g, e = .returned (.tuple #[.pointer (some ⟨g, 0, none⟩), .nilIface]) ∧ GridOf w' g W H p ∧ Below w.heap.size w w' := by
  refine (of_right W H a n c p w hP.1 hW0 hW hH0 hH hn hP.2).mono ?_
  rintro e w' ⟨g, rfl, _, hg, hb⟩
  exact ⟨g, rfl, hg, hb⟩
theorem picP_any (g W H : Nat) (p : Nat → Px) (w : World) (hG : GridOf w g W H p) (hW0 : 1 ≤ W) (hW : W ≤ 256) (hH0 : 1 ≤ H) (hH : H ≤ 256) :
    Calls Tryz.prog 20 #[.pointer (some ⟨g, 0, none⟩)] w fun e w' => ∃ a, e = .returned (.agg #[.int .i64 (W : Int), .int .i64 (H : Int), .slice a (W * H) (W * H)]) ∧ IsPx w' a (W * H) p ∧ Below w.heap.size w w' := by
  refine (picture_of g W H p w hG hW0 hW hH0 hH).mono ?_
  rintro e w' ⟨b, rfl, _, hr, hb⟩
  exact ⟨_, rfl, hr.isPx (Nat.le_trans (Nat.mul_le_mul hW hH) (by omega)), hb⟩
theorem grid_pos {W H : Nat} (hW0 : 1 ≤ W) (hH0 : 1 ≤ H) : 0 < tn W H := Nat.mul_pos (tc_pos hW0) (tc_pos hH0)
theorem keep_le (W H : Nat) (p : Nat → Px) (i : Nat) (hW0 : 1 ≤ W) (hi : i < tn W H) : keepN (tpx W p i) (tpn W H i) ≤ 100000 := by
  have := (tpn_in hW0 hi).2
  rcases keepN_or (tpx W p i) (tpn W H i) with e | e <;> omega
/-- Unlike tiles of the grids of two pictures. -/
theorem changedP_any (g h W H : Nat) (p q : Nat → Px) (w : World) (hG : GridOf w g W H p) (hH2 : GridOf w h W H q) (hW0 : 1 ≤ W) (hW : W ≤ 256) (hH0 : 1 ≤ H) (hH : H ≤ 256) :
    Calls Tryz.prog 21 #[.pointer (some ⟨g, 0, none⟩), .pointer (some ⟨h, 0, none⟩)] w fun e w' => ∃ a c, e = .returned (.tuple #[.slice a (fnd (unlP W H p q) (tn W H)).length c, .nilIface]) ∧ IsR w' a W H (fnd (unlP W H p q) (tn W H)) ∧ Below w.heap.size w w' := by
  have hc := changed_one g h W H _ _ _ _ w hG hH2 (grid_pos hW0 hH0) (Nat.mul_le_mul (tc_le W hW) (tc_le H hH)) (fun i hi => keep_le W H p i hW0 hi) (fun i hi => keep_le W H q i hW0 hi)
  have e : fnd (unlT (fun k => keepN (tpx W p k) (tpn W H k)) (fun k => keepN (tpx W q k) (tpn W H k)) (tpx W p) (tpx W q)) (tn W H) = fnd (unlP W H p q) (tn W H) := fnd_congr _ (fun i hi => by
    unfold unlT unlP
    rw [← decide_not]
    exact decide_eq_decide.2 (not_congr (sameR_keep _ _ _ (tpn_in hW0 hi).1)))
  rw [e] at hc
  exact hc
end Go.Proofs.YtcicbafdacfbpaiGreatDoor
