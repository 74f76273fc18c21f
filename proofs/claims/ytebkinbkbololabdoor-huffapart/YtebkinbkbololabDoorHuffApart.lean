/- The statement on words that begin no other one: the walk. -/
import Derived.Test.YtebkinbkbololabDoorHuT
import Derived.Test.YtebkinbkbololabDoorTold
import Derived.Test.YtebkinbkbololabDoorQB
namespace Go.Proofs.YtebkinbkbololabDoor
open Go.RowKit Pm Cn

theorem huffApart_long (ao : Option Addr) (len cap : Nat) (w : World) (a : Nat → Addr) (hS : Told w [1, 2] a) (hl : 100 < len) :
    Calls Tryd.prog 6 #[.slice ao len cap] w fun e w' => e = .returned (.bool true) ∧ Below w.heap.size w w' := by
  have hd : decide ((100 : Int) < (len : Int)) = true := by simp; omega
  have hd2 : decide ((len : Int) > 100) = true := by simp; omega
  have HT := hide (two_any (sentV a 1) (sentV a 2) w (hS 1 (by simp)) (hS 2 (by simp)))
  clear hS
  go_enter Tryd.func6, Tryd.ntmps6
  go_wp2_with fail
  refine (unhide HT).mono ?_; rintro e w1 ⟨rfl, hb1⟩
  go_wp2
  go_ret
  exact ⟨rfl, hb1⟩

set_option maxHeartbeats 2000000 in
theorem huffApart_bad (ao : Option Addr) (len cap i : Nat) (z : Nat → Int) (w : World) (a : Nat → Addr) (hS : Told w [1, 2] a) (hP : IsInts w ao len z) (hl : len ≤ 100) (hi : i = 1 ∨ i = 2) (hv : vc z len = (i : Int) + 1) :
    Calls Tryd.prog 6 #[.slice ao len cap] w fun e w' => e = .returned (.bool true) ∧ Below w.heap.size w w' := by
  have hd : decide ((100 : Int) < (len : Int)) = false := by simp; omega
  have hd2 : decide ((len : Int) > 100) = false := by simp; omega
  have he : ev (sentV a 1) (sentV a 2) (vc z len) = sentV a i := by
    rw [hv]; rcases hi with rfl | rfl <;> rfl
  have hz : ∀ j, j < len → -9223372036854775808 ≤ z j ∧ z j ≤ 9223372036854775807 := fun j hj => by
    rcases hP with h | ⟨b, off, _, _, h⟩
    · omega
    · exact (h j hj).2
  have HS := hide hS
  have HP := hide hP
  have HE := hide he
  have HZ := hide hz
  have HT := hide (two_any (sentV a 1) (sentV a 2) w (hS 1 (by simp)) (hS 2 (by simp)))
  clear hS hP he hz hv
  go_enter Tryd.func6, Tryd.ntmps6
  go_wp2_with fail
  refine (unhide HT).mono ?_; rintro e w1 ⟨rfl, hb1⟩
  have HP1 := hide ((unhide HP).below hb1)
  have HS1 := hide ((unhide HS).below hb1)
  go_wp2_with fail
  refine (ints_any ao len cap z _ (unhide HP1) (by omega)).mono ?_; rintro e w3 ⟨v3, rfl, hown3, hb3⟩
  obtain ⟨ao3, c3, rfl, hI3⟩ := ints_own hown3 (unhide HZ)
  have HS3 := hide ((unhide HS1).below hb3)
  have HI3 := hide hI3
  clear hown3 hI3
  go_wp2_with fail
  refine (codes_bad ao3 len c3 z (sentV a 1) (sentV a 2) _ _ _ (unhide HI3) (by omega) (unhide HS3 1 (by simp)) (unhide HS3 2 (by simp)) (unhide HE)).mono ?_; rintro e w4 ⟨rfl, rfl⟩
  have k3 := hb1.trans (hb3.mono hb1.size)
  go_wp2
  go_ret
  exact ⟨rfl, k3⟩

set_option maxHeartbeats 4000000 in
set_option maxRecDepth 100000 in
theorem huffApart_right (ao : Option Addr) (len cap : Nat) (z : Nat → Int) (w : World) (a : Nat → Addr) (hS : Told w [1, 2] a) (hP : IsInts w ao len z) (hl : len ≤ 100) (hnb : ¬ Bad z len) (hr : Right (nat z) len) :
    Calls Tryd.prog 6 #[.slice ao len cap] w fun e w' => e = .returned (.bool true) ∧ Below w.heap.size w w' := by
  have hd : decide ((100 : Int) < (len : Int)) = false := by simp; omega
  have hd2 : decide ((len : Int) > 100) = false := by simp; omega
  have hz15 : ∀ i, i < len → 0 ≤ z i ∧ z i ≤ 15 := fun i hi => by
    rcases Int.lt_or_le (z i) 0 with h | h
    · exact absurd (.inr ⟨i, hi, .inl h⟩) hnb
    rcases Int.lt_or_le 15 (z i) with h' | h'
    · exact absurd (.inr ⟨i, hi, .inr h'⟩) hnb
    · exact ⟨h, h'⟩
  have hz : ∀ j, j < len → -9223372036854775808 ≤ z j ∧ z j ≤ 9223372036854775807 := fun j hj => by have := hz15 j hj; omega
  have hzn : ∀ j, j < len → z j = nat z j ∧ nat z j ≤ 15 := fun j hj => by have := hz15 j hj; unfold nat; omega
  have hK : ∀ j, j < len → code (nat z) len j < 4294967296 := fun k hlt => by
    rcases Nat.eq_zero_or_pos (nat z k) with h | h
    · unfold code; rw [if_pos h]; omega
    · have := code_lt (nat z) len k hlt h (hzn k hlt).2 (right_all hr)
      have := Nat.pow_le_pow_right (n := 2) (i := nat z k) (j := 15) (by omega) (hzn k hlt).2
      omega
  have HS := hide hS
  have HP := hide hP
  have HZ := hide hz
  have HZN := hide hzn
  have HK := hide hK
  have HNB := hide hnb
  have HR := hide hr
  have HT := hide (two_any (sentV a 1) (sentV a 2) w (hS 1 (by simp)) (hS 2 (by simp)))
  clear hS hP hz hzn hz15 hnb hr hK
  go_enter Tryd.func6, Tryd.ntmps6
  go_wp2_with fail
  refine (unhide HT).mono ?_; rintro e w1 ⟨rfl, hb1⟩
  have HP1 := hide ((unhide HP).below hb1)
  have HS1 := hide ((unhide HS).below hb1)
  go_wp2_with fail
  refine (ints_any ao len cap z _ (unhide HP1) (by omega)).mono ?_; rintro e w3 ⟨v3, rfl, hown3, hb3⟩
  obtain ⟨ao3, c3, rfl, hI3⟩ := ints_own hown3 (unhide HZ)
  have HS3 := hide ((unhide HS1).below hb3)
  have HI3 := hide hI3
  have HP3 := hide ((unhide HP1).below hb3)
  clear hown3 hI3
  go_wp2_with fail
  refine (codes_right ao3 len c3 z (sentV a 1) (sentV a 2) _ (unhide HI3) (by omega) (unhide HS3 1 (by simp)) (unhide HS3 2 (by simp)) (unhide HNB) (unhide HR)).mono ?_; rintro e w4 ⟨g, rfl, hown4, hb4⟩
  have HP4 := hide ((unhide HP3).below hb4)
  have HO4 := hide hown4
  have k3 := hb1.trans (hb3.mono hb1.size)
  have k4 := k3.trans (hb4.mono k3.size)
  clear hown4 hb1 hb3 hb4 k3 HS HS1 HS3 HP1 HP3 HI3 HNB HR HT HP
  go_wp2
  go_loopw [6] (fun i wr => ∃ k : Nat, k ≤ len ∧ i = .int .i64 k ∧ Below w4.heap.size w4 wr) (fun i _ => len - (intOf i).toNat)
  case atStart => exact ⟨0, by omega, rfl, Below.refl _ _⟩
  case round =>
    obtain ⟨i, hi, rfl, hbr⟩ := hrel
    by_cases hlt : i < len
    · have hdk : decide ((i : Int) < (len : Int)) = true := by simp; omega
      have hdk2 : (i : Int) < (len : Int) := by omega
      go_wp2
      go_loopw [7] (fun j wr => ∃ k : Nat, k ≤ len ∧ j = .int .i64 k ∧ Below w4.heap.size w4 wr) (fun j _ => len - (intOf j).toNat)
      case atStart => exact ⟨0, by omega, rfl, hbr⟩
      case round =>
        clear hbr
        obtain ⟨k, hk, rfl, hbr⟩ := hrel
        by_cases hkl : k < len
        · have hek : decide ((k : Int) < (len : Int)) = true := by simp; omega
          have hek2 : (k : Int) < (len : Int) := by omega
          rcases unhide HP4 with h0 | ⟨b, off, rfl, hm, hP⟩
          · omega
          have c1 := (hP i hlt).1
          have c2 := (hP k hkl).1
          have c3 := (unhide HO4).cellAt i (by omega)
          have c4 := (unhide HO4).cellAt k (by omega)
          rw [u32Vals_at _ _ _ hlt] at c3
          rw [u32Vals_at _ _ _ hkl] at c4
          clear hP
          obtain ⟨hzi, hi15⟩ := unhide HZN i hlt
          obtain ⟨hzk, hk15⟩ := unhide HZN k hkl
          rw [hzi] at c1
          rw [hzk] at c2
          have hKi := unhide HK i hlt
          have hKk := unhide HK k hkl
          have hap := apart (nat z) len i k hlt hkl
          rw [← hbr.cell (World.block_lt_of_cell? _ _ c1)] at c1
          rw [← hbr.cell (World.block_lt_of_cell? _ _ c2)] at c2
          rw [← hbr.cell (World.block_lt_of_cell? _ _ c3)] at c3
          rw [← hbr.cell (World.block_lt_of_cell? _ _ c4)] at c4
          clear hzi hzk
          generalize code (nat z) len i = Ci at *
          generalize code (nat z) len k = Ck at *
          generalize nat z i = Li at *
          generalize nat z k = Lk at *
          by_cases e1 : i = k
          · subst e1
            clear hap
            go_wp2_with fail
            go_quiet (fail)
            go_wp2
            go_roundw
            case rel => exact ⟨i + 1, by omega, by go_num, below_drewN hbr nq⟩
            case measure => simp [intOf]; omega
          have d0 : ((i : Int) != (k : Int)) = true := by simp; omega
          have d1 : ((i : Int) == (k : Int)) = false := by simp; omega
          have d2 : (i == k) = false := by simp; omega
          have d3 : decide (i = k) = false := by simp; omega
          by_cases e2 : 0 < Li
          · have d4 : decide ((0 : Int) < (Li : Int)) = true := by simp; omega
            have d5 : decide (0 < Li) = true := by simp; omega
            have d5b : decide ((Li : Int) > 0) = true := by simp; omega
            by_cases e3 : Li ≤ Lk
            · have d6 : decide ((Li : Int) ≤ (Lk : Int)) = true := by simp; omega
              have d7 : decide (Li ≤ Lk) = true := by simp; omega
              have d7b : decide ((Lk : Int) ≥ (Li : Int)) = true := by simp; omega
              obtain ⟨d, hdd⟩ : ∃ d, d = Lk - Li := ⟨_, rfl⟩
              have hne := hap e1 e2 e3 hk15
              rw [← hdd] at hne
              have zd : (Lk : Int) - (Li : Int) = (d : Int) := by omega
              have hdl : d < 16 := by omega
              have hq : (Ck : Int) / 2 ^ d = ((Ck / 2 ^ d : Nat) : Int) := by simp
              have hql : Ck / 2 ^ d ≤ Ck := Nat.div_le_self _ _
              generalize Ck / 2 ^ d = Q at *
              have d8 : ((Q : Int) == (Ci : Int)) = false := by simp; omega
              have d9 : (Q == Ci) = false := by simp; omega
              have d9b : decide (Q = Ci) = false := by simp; omega
              clear hap hdd hne e1
              go_wp2_with fail
              go_quiet (fail)
              go_wp2
              go_roundw
              case rel => exact ⟨k + 1, by omega, by go_num, below_drewN hbr nq⟩
              case measure => simp [intOf]; omega
            · have d6 : decide ((Li : Int) ≤ (Lk : Int)) = false := by simp; omega
              have d7 : decide (Li ≤ Lk) = false := by simp; omega
              have d7b : decide ((Lk : Int) ≥ (Li : Int)) = false := by simp; omega
              clear hap e1
              go_wp2_with fail
              go_quiet (fail)
              go_wp2
              go_roundw
              case rel => exact ⟨k + 1, by omega, by go_num, below_drewN hbr nq⟩
              case measure => simp [intOf]; omega
          · have d4 : decide ((0 : Int) < (Li : Int)) = false := by simp; omega
            have d5 : decide (0 < Li) = false := by simp; omega
            have d5b : decide ((Li : Int) > 0) = false := by simp; omega
            clear hap e1
            go_wp2_with fail
            go_quiet (fail)
            go_wp2
            go_roundw
            case rel => exact ⟨k + 1, by omega, by go_num, below_drewN hbr nq⟩
            case measure => simp [intOf]; omega
        · have hek : decide ((k : Int) < (len : Int)) = false := by simp; omega
          go_wp2
          go_roundw
          case rel => exact ⟨i + 1, by omega, by go_num, hbr⟩
          case measure => simp [intOf]; omega
    · have hdk : decide ((i : Int) < (len : Int)) = false := by simp; omega
      go_wp2
      go_ret
      exact ⟨rfl, k4.trans (hbr.mono k4.size)⟩

theorem huffApart_any (ao : Option Addr) (len cap : Nat) (z : Nat → Int) (w : World) (a : Nat → Addr) (hS : Told w [1, 2] a) (hP : IsInts w ao len z) :
    Calls Tryd.prog 6 #[.slice ao len cap] w fun e w' => e = .returned (.bool true) ∧ Below w.heap.size w w' := by
  by_cases hl : 100 < len
  · exact huffApart_long ao len cap w a hS hl
  by_cases hb : Bad z len
  · exact huffApart_bad ao len cap 1 z w a hS hP (by omega) (.inl rfl) (vc_bad hb)
  by_cases hr : Right (nat z) len
  · exact huffApart_right ao len cap z w a hS hP (by omega) hb hr
  · exact huffApart_bad ao len cap 2 z w a hS hP (by omega) (.inr rfl) (vc_wrong hb hr)
end Go.Proofs.YtebkinbkbololabDoor
