/- Walks: what foretells a byte: the program's. -/
import Derived.Test.YtmmilamaahmaoafDoorFp
import Derived.Test.YtmmilamaahmaoafDoorTx
namespace Go.Proofs.YtmmilamaahmaoafDoor
open Go.RowKit

/-- Bytes that lie in memory, wherever. -/
def Byt (w : World) (a : Option Addr) (l : List UInt8) : Prop := ∀ j (h : j < l.length), ∃ g o, a = some ⟨g, o, none⟩ ∧ w.cell? ⟨g, o + j, none⟩ = some (.int .u8 (l[j].toNat : Int))

theorem fapart_any (p : Int) (b : Nat) (w : World) (h1 : -1000 ≤ p) (h2 : p ≤ 1000) (hb : b < 256) :
    Calls Tryd.prog 41 #[.int .i64 p, .int .u8 (b : Int)] w fun e w' => e = .returned (.int .i64 (Fil.ap p b)) ∧ w' = w := by
  have e1 : max (p - (b : Int)) (-(p - (b : Int))) = Fil.ap p b := by unfold Fil.ap; split <;> omega
  have HE := hide e1
  clear e1
  go_enter Tryd.func41, Tryd.ntmps41
  go_wp2
  all_goals
    go_ret
    refine ⟨ret_int ?_, rfl⟩
    have := unhide HE
    omega

theorem half_any (a b : Nat) (w : World) (ha : a < 256) (hb : b < 256) :
    Calls Tryd.prog 32 #[.int .u8 (a : Int), .int .u8 (b : Int)] w fun e w' => e = .returned (.int .u8 (((a + b) / 2 : Nat) : Int)) ∧ w' = w := by
  go_enter Tryd.func32, Tryd.ntmps32
  go_wp2
  go_ret
  refine ⟨ret_int ?_, rfl⟩
  omega

theorem ap_lt (p : Int) (b : Nat) (h1 : -1000 ≤ p) (h2 : p ≤ 1000) (hb : b < 256) : 0 ≤ Fil.ap p b ∧ Fil.ap p b ≤ 2000 := by unfold Fil.ap; split <;> omega

theorem nearest_any (a b c : Nat) (w : World) (ha : a < 256) (hb : b < 256) (hc : c < 256) :
    Calls Tryd.prog 33 #[.int .u8 (a : Int), .int .u8 (b : Int), .int .u8 (c : Int)] w fun e w' => e = .returned (.int .u8 (Fil.near a b c : Int)) ∧ w' = w := by
  obtain ⟨p, hp⟩ : ∃ p : Int, p = (a : Int) + b - c := ⟨_, rfl⟩
  have HN : Hid (Fil.near a b c = if Fil.ap p a ≤ Fil.ap p b ∧ Fil.ap p a ≤ Fil.ap p c then a else if Fil.ap p b ≤ Fil.ap p c then b else c) := by
    show _ = _
    unfold Fil.near
    dsimp only
    rw [← hp]
  have hp1 : -1000 ≤ p := by omega
  have hp2 : p ≤ 1000 := by omega
  have hq : (a : Int) + (b : Int) - (c : Int) = p := by omega
  have HA := hide fun w => fapart_any p a w hp1 hp2 ha
  have HB := hide fun w => fapart_any p b w hp1 hp2 hb
  have HC := hide fun w => fapart_any p c w hp1 hp2 hc
  generalize Fil.ap p a = x at *
  generalize Fil.ap p b = y at *
  generalize Fil.ap p c = z at *
  generalize Fil.near a b c = g at *
  clear hp
  go_enter Tryd.func33, Tryd.ntmps33
  go_wp2_with fail
  refine (unhide HB _).mono ?_; rintro e w1 ⟨rfl, rfl⟩
  go_wp2_with fail
  refine (unhide HA _).mono ?_; rintro e w1 ⟨rfl, rfl⟩
  by_cases h1 : y < x
  · have d1 : decide (y < x) = true := by simpa using h1
    go_wp2_with fail
    refine (unhide HC _).mono ?_; rintro e w1 ⟨rfl, rfl⟩
    go_wp2_with fail
    refine (unhide HB _).mono ?_; rintro e w1 ⟨rfl, rfl⟩
    by_cases h2 : z < y
    · have d2 : decide (z < y) = true := by simpa using h2
      go_wp2
      go_ret
      refine ⟨ret_int ?_, rfl⟩
      rw [unhide HN, if_neg (by omega), if_neg (by omega)]
    · have d2 : decide (z < y) = false := by simpa using h2
      go_wp2
      go_ret
      refine ⟨ret_int ?_, rfl⟩
      rw [unhide HN, if_neg (by omega), if_pos (by omega)]
  · have d1 : decide (y < x) = false := by simpa using h1
    go_wp2_with fail
    refine (unhide HC _).mono ?_; rintro e w1 ⟨rfl, rfl⟩
    go_wp2_with fail
    refine (unhide HA _).mono ?_; rintro e w1 ⟨rfl, rfl⟩
    by_cases h2 : z < x
    · have d2 : decide (z < x) = true := by simpa using h2
      go_wp2
      go_ret
      refine ⟨ret_int ?_, rfl⟩
      rw [unhide HN, if_neg (by omega), if_neg (by omega)]
    · have d2 : decide (z < x) = false := by simpa using h2
      go_wp2
      go_ret
      refine ⟨ret_int ?_, rfl⟩
      rw [unhide HN, if_pos (by omega)]

/-- The end of foretold: its switch. -/
theorem bk_far (l : List UInt8) (i s : Nat) (h : ¬ s ≤ i) : Fil.bk l i s = 0 := by simp [Fil.bk, h]
theorem bk_near (l : List UInt8) (i s : Nat) (h : s ≤ i) (h' : i - s < l.length) : Fil.bk l i s = l[i - s].toNat := by simp [Fil.bk, h, Fil.at0_get l _ h']

set_option maxHeartbeats 1000000 in
theorem foretold_any (k : Nat) (hk : k ≤ 4) (row ahead : List UInt8) (ra aa : Option Addr) (rc ac i s : Nat) (w : World) (hr : Byt w ra row) (ha : Byt w aa ahead) (hi : i < row.length) (hs : 1 ≤ s) (hs8 : s ≤ 8)
    (hl : ahead = [] ∨ ahead.length = row.length) (hlen : row.length ≤ 300000) :
    Calls Tryd.prog 26 #[.int .i64 (k : Int), .slice ra row.length rc, .slice aa ahead.length ac, .int .i64 (i : Int), .int .i64 (s : Int)] w fun e w' => e = .returned (.int .u8 (Fil.fore k row ahead i s : Int)) ∧ w' = w := by
  have HF : Hid (Fil.fore k row ahead i s = Fil.guess k (Fil.bk row i s) (Fil.at0 ahead i) (Fil.bk ahead i s)) := rfl
  have l1 := Fil.bk_lt row i s
  have l2 := Fil.at0_lt ahead i
  have l3 := Fil.bk_lt ahead i s
  generalize Fil.fore k row ahead i s = r at *
  by_cases h1 : s ≤ i
  · have d1 : decide ((i : Int) ≥ (s : Int)) = true := by simp; omega
    have d1' : decide (i ≥ s) = true := by simp; omega
    obtain ⟨j, hj⟩ : ∃ j, j = i - s := ⟨_, rfl⟩
    have hji : (i : Int) - (s : Int) = (j : Int) := by omega
    have hjl : j < row.length := by omega
    have hjli : (j : Int) < (row.length : Int) := by omega
    obtain ⟨g, o, rfl, hc⟩ := hr j hjl
    have e1 : Fil.bk row i s = row[j].toNat := by subst hj; exact bk_near row i s h1 hjl
    rw [← e1] at hc
    rcases hl with h0 | h0
    · subst h0
      have e2 : Fil.at0 ([] : List UInt8) i = 0 := rfl
      have e3 : Fil.bk ([] : List UInt8) i s = 0 := by simp [Fil.bk, Fil.at0]
      rw [e2, e3] at HF
      clear e2 e3 e1 hj hr ha l2 l3
      generalize Fil.bk row i s = x at *
      obtain rfl | rfl | rfl | rfl | rfl : k = 0 ∨ k = 1 ∨ k = 2 ∨ k = 3 ∨ k = 4 := by omega
      · go_enter Tryd.func26, Tryd.ntmps26
        go_wp2
        go_ret
        exact ⟨ret_int (by rw [unhide HF]; rfl), rfl⟩
      · go_enter Tryd.func26, Tryd.ntmps26
        go_wp2
        go_ret
        exact ⟨ret_int (by rw [unhide HF]; rfl), rfl⟩
      · go_enter Tryd.func26, Tryd.ntmps26
        go_wp2
        go_ret
        exact ⟨ret_int (by rw [unhide HF]; rfl), rfl⟩
      · go_enter Tryd.func26, Tryd.ntmps26
        go_wp2_with fail
        refine (half_any x 0 _ l1 (by decide)).mono ?_; rintro e w1 ⟨rfl, rfl⟩
        go_wp2
        go_ret
        exact ⟨ret_int (by rw [unhide HF]; rfl), rfl⟩
      · go_enter Tryd.func26, Tryd.ntmps26
        go_wp2_with fail
        refine (nearest_any x 0 0 _ l1 (by decide) (by decide)).mono ?_; rintro e w1 ⟨rfl, rfl⟩
        go_wp2
        go_ret
        exact ⟨ret_int (by rw [unhide HF]; rfl), rfl⟩
    · have hjl2 : j < ahead.length := by omega
      have hil2 : i < ahead.length := by omega
      have d2 : decide ((ahead.length : Int) > 0) = true := by simp; omega
      have d2' : decide (0 < (ahead.length : Int)) = true := d2
      obtain ⟨g', o', rfl, hc'⟩ := ha j hjl2
      obtain ⟨g2, o2, q, hc2⟩ := ha i hil2
      injection q with q
      injection q with q1 q2 q3
      subst q1 q2
      have e2 : Fil.at0 ahead i = ahead[i].toNat := Fil.at0_get _ _ hil2
      have e3 : Fil.bk ahead i s = ahead[j].toNat := by subst hj; exact bk_near ahead i s h1 hjl2
      rw [← e2] at hc2
      rw [← e3] at hc'
      have hili : (i : Int) < (ahead.length : Int) := by omega
      have hjli2 : (j : Int) < (ahead.length : Int) := by omega
      clear e2 e3 e1 hj hr ha h0 q3
      generalize Fil.bk row i s = x at *
      generalize Fil.at0 ahead i = y at *
      generalize Fil.bk ahead i s = z at *
      obtain rfl | rfl | rfl | rfl | rfl : k = 0 ∨ k = 1 ∨ k = 2 ∨ k = 3 ∨ k = 4 := by omega
      · go_enter Tryd.func26, Tryd.ntmps26
        go_wp2
        go_ret
        exact ⟨ret_int (by rw [unhide HF]; rfl), rfl⟩
      · go_enter Tryd.func26, Tryd.ntmps26
        go_wp2
        go_ret
        exact ⟨ret_int (by rw [unhide HF]; rfl), rfl⟩
      · go_enter Tryd.func26, Tryd.ntmps26
        go_wp2
        go_ret
        exact ⟨ret_int (by rw [unhide HF]; rfl), rfl⟩
      · go_enter Tryd.func26, Tryd.ntmps26
        go_wp2_with fail
        refine (half_any x y _ l1 l2).mono ?_; rintro e w1 ⟨rfl, rfl⟩
        go_wp2
        go_ret
        exact ⟨ret_int (by rw [unhide HF]; rfl), rfl⟩
      · go_enter Tryd.func26, Tryd.ntmps26
        go_wp2_with fail
        refine (nearest_any x y z _ l1 l2 l3).mono ?_; rintro e w1 ⟨rfl, rfl⟩
        go_wp2
        go_ret
        exact ⟨ret_int (by rw [unhide HF]; rfl), rfl⟩
  · have d1 : decide ((i : Int) ≥ (s : Int)) = false := by simp; omega
    have d1' : decide (i ≥ s) = false := by simp; omega
    have e1 := bk_far row i s h1
    have e3 := bk_far ahead i s h1
    rw [e1, e3] at HF
    clear e1 e3 l1 l3
    rcases hl with h0 | h0
    · subst h0
      have e2 : Fil.at0 ([] : List UInt8) i = 0 := rfl
      rw [e2] at HF
      clear e2 hr ha l2
      obtain rfl | rfl | rfl | rfl | rfl : k = 0 ∨ k = 1 ∨ k = 2 ∨ k = 3 ∨ k = 4 := by omega
      · go_enter Tryd.func26, Tryd.ntmps26
        go_wp2
        go_ret
        exact ⟨ret_int (by rw [unhide HF]; rfl), rfl⟩
      · go_enter Tryd.func26, Tryd.ntmps26
        go_wp2
        go_ret
        exact ⟨ret_int (by rw [unhide HF]; rfl), rfl⟩
      · go_enter Tryd.func26, Tryd.ntmps26
        go_wp2
        go_ret
        exact ⟨ret_int (by rw [unhide HF]; rfl), rfl⟩
      · go_enter Tryd.func26, Tryd.ntmps26
        go_wp2_with fail
        refine (half_any 0 0 _ (by decide) (by decide)).mono ?_; rintro e w1 ⟨rfl, rfl⟩
        go_wp2
        go_ret
        exact ⟨ret_int (by rw [unhide HF]; rfl), rfl⟩
      · go_enter Tryd.func26, Tryd.ntmps26
        go_wp2_with fail
        refine (nearest_any 0 0 0 _ (by decide) (by decide) (by decide)).mono ?_; rintro e w1 ⟨rfl, rfl⟩
        go_wp2
        go_ret
        exact ⟨ret_int (by rw [unhide HF]; rfl), rfl⟩
    · have hil2 : i < ahead.length := by omega
      have d2 : decide ((ahead.length : Int) > 0) = true := by simp; omega
      have d2' : decide (0 < (ahead.length : Int)) = true := d2
      obtain ⟨g2, o2, rfl, hc2⟩ := ha i hil2
      have e2 : Fil.at0 ahead i = ahead[i].toNat := Fil.at0_get _ _ hil2
      rw [← e2] at hc2
      have hili : (i : Int) < (ahead.length : Int) := by omega
      clear e2 hr ha h0
      generalize Fil.at0 ahead i = y at *
      obtain rfl | rfl | rfl | rfl | rfl : k = 0 ∨ k = 1 ∨ k = 2 ∨ k = 3 ∨ k = 4 := by omega
      · go_enter Tryd.func26, Tryd.ntmps26
        go_wp2
        go_ret
        exact ⟨ret_int (by rw [unhide HF]; rfl), rfl⟩
      · go_enter Tryd.func26, Tryd.ntmps26
        go_wp2
        go_ret
        exact ⟨ret_int (by rw [unhide HF]; rfl), rfl⟩
      · go_enter Tryd.func26, Tryd.ntmps26
        go_wp2
        go_ret
        exact ⟨ret_int (by rw [unhide HF]; rfl), rfl⟩
      · go_enter Tryd.func26, Tryd.ntmps26
        go_wp2_with fail
        refine (half_any 0 y _ (by decide) l2).mono ?_; rintro e w1 ⟨rfl, rfl⟩
        go_wp2
        go_ret
        exact ⟨ret_int (by rw [unhide HF]; simp [Fil.guess]), rfl⟩
      · go_enter Tryd.func26, Tryd.ntmps26
        go_wp2_with fail
        refine (nearest_any 0 y 0 _ (by decide) l2 (by decide)).mono ?_; rintro e w1 ⟨rfl, rfl⟩
        go_wp2
        go_ret
        exact ⟨ret_int (by rw [unhide HF]; rfl), rfl⟩
end Go.Proofs.YtmmilamaahmaoafDoor
