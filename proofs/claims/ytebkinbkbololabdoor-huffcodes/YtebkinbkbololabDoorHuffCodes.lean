/- The statement on right lengths and their words: the walk. -/
import Derived.Test.YtebkinbkbololabDoorHuT
import Derived.Test.YtebkinbkbololabDoorHC
import Derived.Test.YtebkinbkbololabDoorCoded1
import Derived.Test.YtebkinbkbololabDoorQB
namespace Go.Proofs.YtebkinbkbololabDoor
open Go.RowKit Pm Cn

theorem huffCodes_long (ao : Option Addr) (len cap : Nat) (w : World) (a : Nat → Addr) (hS : Sent w a) (hl : 400 < len) :
    Calls Tryd.prog 5 #[.slice ao len cap] w fun e w' => e = .returned (.bool true) ∧ Below w.heap.size w w' := by
  have hd : decide ((400 : Int) < (len : Int)) = true := by simp; omega
  have hd2 : decide ((len : Int) > 400) = true := by simp; omega
  have HT := hide (two_any (sentV a 1) (sentV a 2) w (hS.cell 1 (by omega)) (hS.cell 2 (by omega)))
  clear hS
  go_enter Tryd.func5, Tryd.ntmps5
  go_wp2_with fail
  refine (unhide HT).mono ?_; rintro e w1 ⟨rfl, hb1⟩
  go_wp2
  go_ret
  exact ⟨rfl, hb1⟩

set_option maxHeartbeats 2000000 in
theorem huffCodes_bad (ao : Option Addr) (len cap i : Nat) (z : Nat → Int) (w : World) (a : Nat → Addr) (hS : Sent w a) (hP : IsInts w ao len z) (hl : len ≤ 400) (hi : i = 1 ∨ i = 2) (hv : vc z len = (i : Int) + 1) :
    Calls Tryd.prog 5 #[.slice ao len cap] w fun e w' => e = .returned (.bool true) ∧ Below w.heap.size w w' := by
  have hd : decide ((400 : Int) < (len : Int)) = false := by simp; omega
  have hd2 : decide ((len : Int) > 400) = false := by simp; omega
  have he : ev (sentV a 1) (sentV a 2) (vc z len) = sentV a i := by
    rw [hv]; rcases hi with rfl | rfl <;> rfl
  have hz : ∀ j, j < len → -9223372036854775808 ≤ z j ∧ z j ≤ 9223372036854775807 := fun j hj => by
    rcases hP with h | ⟨b, off, _, _, h⟩
    · omega
    · exact (h j hj).2
  have HS := hide hS
  have HP := hide hP
  have HE := hide he
  have HZ := hide hz
  have hgt : decide ((0 : Int) < (i : Int) + 1) = true := decide_eq_true (by omega)
  have hgt2 : decide ((i : Int) + 1 > 0) = true := decide_eq_true (by omega)
  have HV := hide hv
  have HT := hide (two_any (sentV a 1) (sentV a 2) w (hS.cell 1 (by omega)) (hS.cell 2 (by omega)))
  clear hS hP he hz hv
  go_enter Tryd.func5, Tryd.ntmps5
  go_wp2_with fail
  refine (unhide HT).mono ?_; rintro e w1 ⟨rfl, hb1⟩
  have HP1 := hide ((unhide HP).below hb1)
  have HS1 := hide ((unhide HS).below hb1)
  go_wp2_with fail
  refine (validCode_any ao len cap z _ (unhide HP1) (by omega)).mono ?_; rintro e w2 ⟨rfl, rfl⟩
  rw [unhide HV]
  go_wp2_with fail
  refine (ints_any ao len cap z _ (unhide HP1) (by omega)).mono ?_; rintro e w3 ⟨v3, rfl, hown3, hb3⟩
  obtain ⟨ao3, c3, rfl, hI3⟩ := ints_own hown3 (unhide HZ)
  have HS3 := hide ((unhide HS1).below hb3)
  have HI3 := hide hI3
  clear hown3 hI3
  go_wp2_with fail
  refine (codes_bad ao3 len c3 z (sentV a 1) (sentV a 2) _ _ _ (unhide HI3) (by omega) ((unhide HS3).cell 1 (by omega)) ((unhide HS3).cell 2 (by omega)) (unhide HE)).mono ?_; rintro e w4 ⟨rfl, rfl⟩
  have HP4 := hide ((unhide HP1).below hb3)
  go_wp2_with fail
  refine (ints_any ao len cap z _ (unhide HP4) (by omega)).mono ?_; rintro e w5 ⟨v5, rfl, hown5, hb5⟩
  obtain ⟨ao5, c5, rfl, hI5⟩ := ints_own hown5 (unhide HZ)
  have HS5 := hide ((unhide HS3).below hb5)
  have HI5 := hide hI5
  clear hown5 hI5
  go_wp2_with fail
  refine (valid_any ao5 len c5 z (sentV a 1) (sentV a 2) _ (unhide HI5) (by omega) ((unhide HS5).cell 1 (by omega)) ((unhide HS5).cell 2 (by omega))).mono ?_; rintro e w6 ⟨rfl, rfl⟩
  rw [unhide HE]
  go_wp2_with fail
  refine (coded_sent i ((i : Int) + 1) _ a (unhide HS5) (by omega) (by simp)).mono ?_; rintro e w7 ⟨rfl, hb7⟩
  have HS7 := hide ((unhide HS5).below hb7)
  go_wp2_with fail
  refine (coded_sent i ((i : Int) + 1) _ a (unhide HS7) (by omega) (by simp)).mono ?_; rintro e w8 ⟨rfl, hb8⟩
  have k3 := hb1.trans (hb3.mono hb1.size)
  have k5 := k3.trans (hb5.mono k3.size)
  have k7 := k5.trans (hb7.mono k5.size)
  have k8 := k7.trans (hb8.mono k7.size)
  clear hb1 hb3 hb5 hb7 hb8 k3 k5 k7
  go_wp2
  go_ret
  exact ⟨rfl, k8⟩

set_option maxHeartbeats 4000000 in
set_option maxRecDepth 100000 in
theorem huffCodes_right (ao : Option Addr) (len cap : Nat) (z : Nat → Int) (w : World) (a : Nat → Addr) (hS : Sent w a) (hP : IsInts w ao len z) (hnb : ¬ Bad z len) (hr : Right (nat z) len) :
    Calls Tryd.prog 5 #[.slice ao len cap] w fun e w' => e = .returned (.bool true) ∧ Below w.heap.size w w' := by
  have hl : len ≤ 300 := by
    rcases Nat.lt_or_ge 300 len with h | h
    · exact absurd (.inl h) hnb
    · exact h
  have hd : decide ((400 : Int) < (len : Int)) = false := by simp; omega
  have hd2 : decide ((len : Int) > 400) = false := by simp; omega
  have hz15 : ∀ i, i < len → 0 ≤ z i ∧ z i ≤ 15 := fun i hi => by
    rcases Int.lt_or_le (z i) 0 with h | h
    · exact absurd (.inr ⟨i, hi, .inl h⟩) hnb
    rcases Int.lt_or_le 15 (z i) with h' | h'
    · exact absurd (.inr ⟨i, hi, .inr h'⟩) hnb
    · exact ⟨h, h'⟩
  have hz : ∀ j, j < len → -9223372036854775808 ≤ z j ∧ z j ≤ 9223372036854775807 := fun j hj => by have := hz15 j hj; omega
  have hzn : ∀ j, j < len → z j = nat z j ∧ nat z j ≤ 15 := fun j hj => by have := hz15 j hj; unfold nat; omega
  have hv := vc_right hnb hr
  have HS := hide hS
  have HP := hide hP
  have HZ := hide hz
  have HZN := hide hzn
  have HV := hide hv
  have HNB := hide hnb
  have HR := hide hr
  have HALL := hide (right_all hr)
  have HT := hide (two_any (sentV a 1) (sentV a 2) w (hS.cell 1 (by omega)) (hS.cell 2 (by omega)))
  clear hS hP hz hzn hz15 hv hnb hr
  go_enter Tryd.func5, Tryd.ntmps5
  go_wp2_with fail
  refine (unhide HT).mono ?_; rintro e w1 ⟨rfl, hb1⟩
  have HP1 := hide ((unhide HP).below hb1)
  have HS1 := hide ((unhide HS).below hb1)
  go_wp2_with fail
  refine (validCode_any ao len cap z _ (unhide HP1) (by omega)).mono ?_; rintro e w2 ⟨rfl, rfl⟩
  rw [unhide HV]
  go_wp2_with fail
  refine (ints_any ao len cap z _ (unhide HP1) (by omega)).mono ?_; rintro e w3 ⟨v3, rfl, hown3, hb3⟩
  obtain ⟨ao3, c3, rfl, hI3⟩ := ints_own hown3 (unhide HZ)
  have HS3 := hide ((unhide HS1).below hb3)
  have HI3 := hide hI3
  have HP3 := hide ((unhide HP1).below hb3)
  clear hown3 hI3
  go_wp2_with fail
  refine (codes_right ao3 len c3 z (sentV a 1) (sentV a 2) _ (unhide HI3) (by omega) ((unhide HS3).cell 1 (by omega)) ((unhide HS3).cell 2 (by omega)) (unhide HNB) (unhide HR)).mono ?_; rintro e w4 ⟨g, rfl, hown4, hb4⟩
  have HP4 := hide ((unhide HP3).below hb4)
  have HS4 := hide ((unhide HS3).below hb4)
  have HO4 := hide hown4
  clear hown4
  go_wp2_with fail
  refine (ints_any ao len cap z _ (unhide HP4) (by omega)).mono ?_; rintro e w5 ⟨v5, rfl, hown5, hb5⟩
  obtain ⟨ao5, c5, rfl, hI5⟩ := ints_own hown5 (unhide HZ)
  have HS5 := hide ((unhide HS4).below hb5)
  have HI5 := hide hI5
  have HP5 := hide ((unhide HP4).below hb5)
  have HO5 := hide (own_below (unhide HO4) hb5)
  clear hown5 hI5
  go_wp2_with fail
  refine (valid_any ao5 len c5 z (sentV a 1) (sentV a 2) _ (unhide HI5) (by omega) ((unhide HS5).cell 1 (by omega)) ((unhide HS5).cell 2 (by omega))).mono ?_; rintro e w6 ⟨rfl, rfl⟩
  rw [unhide HV, show ev (sentV a 1) (sentV a 2) 0 = .nilIface from rfl]
  go_wp2_with fail
  refine (coded_nil _).mono ?_; rintro e w7 ⟨rfl, rfl⟩
  go_wp2_with fail
  refine (coded_nil _).mono ?_; rintro e w8 ⟨rfl, rfl⟩
  go_wp2_with fail
  refine (codesOf_any ao len cap z _ (unhide HP5) (by omega) (unhide HZN) (unhide HALL)).mono ?_; rintro e w9 ⟨g9, rfl, hown9, hb9⟩
  have HO9 := hide (own_below (unhide HO5) hb9)
  have HP9 := hide ((unhide HP5).below hb9)
  have HW9 := hide hown9
  have k3 := hb1.trans (hb3.mono hb1.size)
  have k4 := k3.trans (hb4.mono k3.size)
  have k5 := k4.trans (hb5.mono k4.size)
  have k9 := k5.trans (hb9.mono k5.size)
  clear hb1 hb3 hb4 hb5 hb9 k3 k4 k5 hown9 HS HS1 HS3 HS4 HS5 HP1 HP3 HP4 HP5 HI3 HI5 HO4 HO5 HV HNB HR HT
  go_wp2
  go_loopw [8] (fun i wr => ∃ k : Nat, k ≤ len ∧ i = .int .i64 k ∧ Below w9.heap.size w9 wr) (fun i _ => len - (intOf i).toNat)
  case atStart => exact ⟨0, by omega, rfl, Below.refl _ _⟩
  case round =>
    obtain ⟨k, hk, rfl, hbr⟩ := hrel
    by_cases hlt : k < len
    · have hdk : decide ((k : Int) < (len : Int)) = true := by simp; omega
      have hdk2 : (k : Int) < (len : Int) := by omega
      rcases unhide HP9 with h0 | ⟨b, off, rfl, hm, hP⟩
      · omega
      have c1 := (hP k hlt).1
      have c2 := (unhide HO9).cellAt k (by omega)
      rw [u32Vals_at _ _ _ hlt] at c2
      have c3 := (unhide HW9).cellAt k (by omega)
      rw [strVals_at _ _ _ hlt] at c3
      clear hP
      obtain ⟨hzk, hz15⟩ := unhide HZN k hlt
      rw [hzk] at c1
      have hK : code (nat z) len k < 4294967296 := by
        rcases Nat.eq_zero_or_pos (nat z k) with h | h
        · unfold code; rw [if_pos h]; omega
        · have := code_lt (nat z) len k hlt h hz15 (unhide HALL)
          have := Nat.pow_le_pow_right (n := 2) (i := nat z k) (j := 15) (by omega) (by omega)
          omega
      have hw : word (nat z) len k = bt (nat z k) (Bt.rev (code (nat z) len k) (nat z k)) := rfl
      have h0 : nat z k = 0 → code (nat z) len k = 0 := fun h => by unfold code; rw [if_pos h]
      clear hzk
      have q1 := World.block_lt_of_cell? _ _ c1
      have q2 := World.block_lt_of_cell? _ _ c2
      have q3 := World.block_lt_of_cell? _ _ c3
      generalize hstr : word (nat z) len k = str at *
      generalize code (nat z) len k = K at *
      generalize nat z k = L at *
      have f1 : ∀ p : BelowOf w9.heap.size w9, p.to.cell? ⟨b, off + k, none⟩ = some (.int .i64 (L : Nat)) := fun p => (p.prf.cell q1).trans c1
      have f2 : ∀ p : BelowOf w9.heap.size w9, p.to.cell? ⟨g, k, none⟩ = some (.int .u32 (K : Nat)) := fun p => (p.prf.cell q2).trans c2
      have f3 : ∀ p : BelowOf w9.heap.size w9, p.to.cell? ⟨g9, k, none⟩ = some (.string str) := fun p => (p.prf.cell q3).trans c3
      have HH : Hid (∀ W : World, Calls Tryd.prog 28 #[.int .u32 (K : Int), .int .i64 (L : Int)] W fun e w' => e = .returned (.string str) ∧ Below W.heap.size W w') := fun W => by
        rw [hw]; exact high_any K L W hK (by omega)
      clear hw hstr c1 c2 c3
      by_cases hL : L = 0
      · have hK0 := h0 hL
        subst hL hK0
        clear h0
        go_wp2_with fail
        haveI : Nonempty (BelowOf w9.heap.size w9) := ⟨⟨w9, Below.refl _ _⟩⟩
        refine region_below w9.heap.size w9 hbr (by kernel_rfl) ?_
        repeat (quiet_step (first | (go_at_call 28; exact Calls.below_of (Nat.le_refl _) (unhide HH _))))
        refine wpQuiet_nil ?_
        intro _ hw'
        obtain ⟨⟨wq, hwq⟩, rfl⟩ := hw'
        clear f1 f2 f3 HH
        go_wp2
        go_roundw
        case rel => exact ⟨k + 1, by omega, by go_num, hwq⟩
        case measure => simp [intOf]; omega
      · have hL0 : ((L : Int) == 0) = false := by simp; omega
        have hL1 : (L == 0) = false := by simp; omega
        have hL2 : decide (L = 0) = false := by simp; omega
        clear h0
        go_wp2_with fail
        haveI : Nonempty (BelowOf w9.heap.size w9) := ⟨⟨w9, Below.refl _ _⟩⟩
        refine region_below w9.heap.size w9 hbr (by kernel_rfl) ?_
        repeat (quiet_step (first | (go_at_call 28; exact Calls.below_of (Nat.le_refl _) (unhide HH _))))
        refine wpQuiet_nil ?_
        intro _ hw'
        obtain ⟨⟨wq, hwq⟩, rfl⟩ := hw'
        clear f1 f2 f3 HH
        go_wp2
        go_roundw
        case rel => exact ⟨k + 1, by omega, by go_num, hwq⟩
        case measure => simp [intOf]; omega
    · have : k = len := by omega
      subst this
      have hdk : decide ((k : Int) < (k : Int)) = false := by simp
      go_wp2
      go_ret
      exact ⟨rfl, k9.trans (hbr.mono k9.size)⟩

theorem huffCodes_any (ao : Option Addr) (len cap : Nat) (z : Nat → Int) (w : World) (a : Nat → Addr) (hS : Sent w a) (hP : IsInts w ao len z) :
    Calls Tryd.prog 5 #[.slice ao len cap] w fun e w' => e = .returned (.bool true) ∧ Below w.heap.size w w' := by
  by_cases hl : 400 < len
  · exact huffCodes_long ao len cap w a hS hl
  by_cases hb : Bad z len
  · exact huffCodes_bad ao len cap 1 z w a hS hP (by omega) (.inl rfl) (vc_bad hb)
  by_cases hr : Right (nat z) len
  · exact huffCodes_right ao len cap z w a hS hP hb hr
  · exact huffCodes_bad ao len cap 2 z w a hS hP (by omega) (.inr rfl) (vc_wrong hb hr)
end Go.Proofs.YtebkinbkbololabDoor
