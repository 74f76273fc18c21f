/- Walks of the program's own look at lengths: are they right? -/
import Derived.Test.YtbbcfghlhgaofadDoorMg3
namespace Go.Proofs.YtbbcfghlhgaofadDoor
open Go.RowKit Pm Cn

theorem none_all (l : Nat → Nat) (n : Nat) (h : cnt l n = 0) : all l n = 0 ∧ ones l n = 0 := by
  induction n with
  | zero => exact ⟨rfl, rfl⟩
  | succ n ih =>
    rw [cnt_succ] at h
    by_cases e : 0 < l n
    · rw [if_pos e] at h; omega
    · rw [if_neg e, Nat.zero_add] at h
      rw [all_succ, ones_succ, if_neg e, if_neg (by omega)]
      have := ih h
      omega

theorem half_one (m : Nat) (h0 : 0 < m) : 2 ^ (15 - m) = 16384 ↔ m = 1 := by
  constructor
  · intro h
    rcases Nat.lt_or_ge m 2 with h1 | h1
    · omega
    · have := Nat.pow_le_pow_right (n := 2) (i := 15 - m) (j := 13) (by omega) (by omega)
      omega
  · rintro rfl; rfl

theorem one_all (l : Nat → Nat) (n : Nat) (h : cnt l n = 1) : all l n = 16384 ↔ ones l n = 1 := by
  induction n with
  | zero => exact absurd h (by simp [cnt, upto])
  | succ n ih =>
    rw [cnt_succ] at h
    rw [all_succ, ones_succ]
    by_cases e : 0 < l n
    · rw [if_pos e] at h ⊢
      obtain ⟨h1, h2⟩ := none_all l n (by omega)
      rw [h1, h2, Nat.add_zero, half_one _ e]
      by_cases e1 : l n = 1
      · simp [e1]
      · simp [e1]
    · rw [if_neg e, Nat.zero_add] at h
      rw [if_neg e, if_neg (by omega), Nat.zero_add, Nat.zero_add]
      exact ih h

/-- As the program tells it. -/
def rightB (c s : Nat) : Bool := c == 0 || (c == 1 && s == 16384) || s == 32768

theorem rightB_iff (l : Nat → Nat) (n : Nat) : rightB (cnt l n) (all l n) = true ↔ Right l n := by
  unfold rightB Right
  by_cases h : cnt l n = 1
  · have := one_all l n h
    simp [h, this]
  · simp [h]

set_option maxHeartbeats 2000000 in
set_option maxRecDepth 100000 in
theorem right_any (ao : Option Addr) (len cap : Nat) (z : Nat → Int) (w : World) (hP : IsInts w ao len z) (hlen : len ≤ 300) (hz : ∀ i, i < len → 0 ≤ z i ∧ z i ≤ 15) :
    Calls Tryd.prog 89 #[.slice ao len cap] w fun e w' => e = .returned (.bool (rightB (cnt (nat z) len) (all (nat z) len))) ∧ w' = w := by
  have HP := hide hP
  have HZ := hide hz
  clear hP hz
  go_enter Tryd.func89, Tryd.ntmps89
  go_wp2
  go_loop [3, 4, 9] (fun c s i => ∃ k : Nat, k ≤ len ∧ i = .int .i64 k ∧ s = .int .i64 (all (nat z) k : Nat) ∧ c = .int .i64 (cnt (nat z) k : Nat)) (fun _ _ i => len - (intOf i).toNat)
  case atStart => exact ⟨0, by omega, rfl, rfl, rfl⟩
  case round =>
    obtain ⟨k, hk, rfl, rfl, rfl⟩ := hrel
    have b1 := cnt_le (nat z) k
    have b3 := all_le (nat z) k
    by_cases hlt : k < len
    · have hdk : decide ((k : Int) < (len : Int)) = true := by simp; omega
      rcases unhide HP with h0 | ⟨b, off, rfl, hm, hP⟩
      · omega
      obtain ⟨c0, hw1, hw2⟩ := hP k hlt
      obtain ⟨hz1, hz2⟩ := unhide HZ k hlt
      clear hP
      have Hc := hide (cnt_succ (nat z) k)
      have Ha := hide (all_succ (nat z) k)
      generalize hS : all (nat z) k = S at *
      generalize hC : cnt (nat z) k = C at *
      clear hS hC
      obtain ⟨n, hn⟩ := Int.eq_ofNat_of_zero_le hz1
      have hnn : nat z k = n := by unfold nat; rw [hn]; rfl
      rw [hn] at c0 hw1 hw2 hz1 hz2
      rw [hnn] at Hc Ha
      clear hn hnn
      by_cases h0 : 0 < n
      · have hd0 : decide ((0 : Int) < (n : Int)) = true := by simp; omega
        have hd1 : decide ((n : Int) > 0) = true := by simp; omega
        rw [if_pos h0] at Hc Ha
        have hpw : 2 ^ (15 - n) ≤ 16384 := Nat.pow_le_pow_right (n := 2) (j := 14) (by omega) (by omega)
        have hq : (32768 : Nat) / 2 ^ n = 2 ^ (15 - n) := by
          rw [show (32768 : Nat) = 2 ^ (15 - n) * 2 ^ n from by rw [← Nat.pow_add, show 15 - n + n = 15 by omega]]
          exact Nat.mul_div_cancel _ (Nat.two_pow_pos n)
        have hqi : (32768 : Int) / 2 ^ n = ((2 ^ (15 - n) : Nat) : Int) := by
          rw [← hq]; simp
        generalize 2 ^ (15 - n) = X at *
        clear hq
        have hn15 : n < 16 := by omega
        clear hz1 hz2
        go_wp2
        go_round
        case rel => exact ⟨k + 1, by omega, by go_num, by rw [unhide Ha]; go_num, by rw [unhide Hc]; go_num⟩
        case measure => simp [intOf]; omega
      · have hd0 : decide ((0 : Int) < (n : Int)) = false := by simp; omega
        have hd1 : decide ((n : Int) > 0) = false := by simp; omega
        rw [if_neg h0] at Hc Ha
        go_wp2
        go_round
        case rel => exact ⟨k + 1, by omega, by go_num, by rw [unhide Ha]; simp, by rw [unhide Hc]; simp⟩
        case measure => simp [intOf]; omega
    · have : k = len := by omega
      subst this
      have hdk : decide ((k : Int) < (k : Int)) = false := by simp
      obtain ⟨S, hS⟩ : ∃ q, q = all (nat z) k := ⟨_, rfl⟩
      obtain ⟨C, hC⟩ : ∃ q, q = cnt (nat z) k := ⟨_, rfl⟩
      rw [← hS] at b3 ⊢
      rw [← hC] at b1 ⊢
      have HS := hide hS
      have HC := hide hC
      clear hS hC
      by_cases q0 : C = 0
      · subst q0
        go_wp2
        go_ret
        exact ⟨by rw [← unhide HC, ← unhide HS]; simp [rightB], rfl⟩
      have d0 : ((C : Int) == 0) = false := by simp; omega
      by_cases q1 : C = 1
      · subst q1
        by_cases q2 : S = 16384
        · subst q2
          go_wp2
          go_ret
          exact ⟨by rw [← unhide HC, ← unhide HS]; simp [rightB], rfl⟩
        have d2 : ((S : Int) == 16384) = false := by simp; omega
        have d3 : ((S : Int) == 32768) = (S == 32768) := by rw [Bool.eq_iff_iff]; simp; omega
        go_wp2
        go_ret
        exact ⟨by rw [← unhide HC, ← unhide HS]; simp [rightB, q2], rfl⟩
      have d1 : ((C : Int) == 1) = false := by simp; omega
      have d3 : ((S : Int) == 32768) = (S == 32768) := by rw [Bool.eq_iff_iff]; simp; omega
      go_wp2
      go_ret
      exact ⟨by rw [← unhide HC, ← unhide HS]; simp [rightB, q0, q1], rfl⟩

/-- The error that is told. -/
def ev (v1 v2 : Value) (c : Int) : Value := if c = 0 then .nilIface else if c = 2 then v1 else v2

set_option maxHeartbeats 2000000 in
set_option maxRecDepth 100000 in
theorem valid_any (ao : Option Addr) (len cap : Nat) (z : Nat → Int) (v1 v2 : Value) (w : World) (hP : IsInts w ao len z) (hlen : len ≤ 100000)
    (h1 : w.cell? ⟨0, 0, none⟩ = some v1) (h2 : w.cell? ⟨2, 0, none⟩ = some v2) :
    Calls Tryd.prog 86 #[.slice ao len cap] w fun e w' => e = .returned (ev v1 v2 (vc z len)) ∧ w' = w := by
  by_cases hl : 300 < len
  · have hd : decide ((300 : Int) < (len : Int)) = true := by simp; omega
    have hd2 : decide ((len : Int) > 300) = true := by simp; omega
    have hv := hide (vc_bad (z := z) (n := len) (.inl hl))
    clear hP h2
    go_enter Tryd.func86, Tryd.ntmps86
    go_wp2
    go_ret
    exact ⟨by rw [unhide hv]; rfl, rfl⟩
  have hd : decide ((300 : Int) < (len : Int)) = false := by simp; omega
  have hd2 : decide ((len : Int) > 300) = false := by simp; omega
  have HP := hide hP
  clear hP
  go_enter Tryd.func86, Tryd.ntmps86
  go_wp2
  go_loop [2, 11] (fun _ i => ∃ k : Nat, k ≤ len ∧ i = .int .i64 k ∧ Hid (∀ j, j < k → ¬ (z j < 0 ∨ 15 < z j))) (fun _ i => len - (intOf i).toNat)
  case atStart => exact ⟨0, by omega, rfl, (fun j hj => by omega : ∀ j, j < 0 → ¬ (z j < 0 ∨ 15 < z j))⟩
  case round =>
    obtain ⟨k, hk, rfl, Hgood⟩ := hrel
    by_cases hlt : k < len
    · have hdk : decide ((k : Int) < (len : Int)) = true := by simp; omega
      rcases unhide HP with h0 | ⟨b, off, rfl, hm, hP⟩
      · omega
      obtain ⟨c0, hw1, hw2⟩ := hP k hlt
      clear hP
      by_cases hneg : z k < 0
      · have hd1 : decide (z k < 0) = true := by simp; omega
        have hv := hide (vc_bad (z := z) (n := len) (.inr ⟨k, hlt, .inl hneg⟩))
        generalize z k = d at *
        go_wp2
        go_ret
        exact ⟨by rw [unhide hv]; rfl, rfl⟩
      have hd1 : decide (z k < 0) = false := by simp; omega
      by_cases hbig : 15 < z k
      · have hd2 : decide (15 < z k) = true := by simp; omega
        have hd3 : decide (z k > 15) = true := by simp; omega
        have hv := hide (vc_bad (z := z) (n := len) (.inr ⟨k, hlt, .inr hbig⟩))
        generalize z k = d at *
        go_wp2
        go_ret
        exact ⟨by rw [unhide hv]; rfl, rfl⟩
      have hd2 : decide (15 < z k) = false := by simp; omega
      have hd3 : decide (z k > 15) = false := by simp; omega
      have Hnext : Hid (∀ j, j < k + 1 → ¬ (z j < 0 ∨ 15 < z j)) := fun j hj => by
        by_cases e : j = k
        · subst e; omega
        · exact unhide Hgood j (by omega)
      generalize z k = d at *
      clear Hgood
      go_wp2
      go_round
      case rel => exact ⟨k + 1, by omega, by go_num, Hnext⟩
      case measure => simp [intOf]; omega
    · have : k = len := by omega
      subst this
      have hdk : decide ((k : Int) < (k : Int)) = false := by simp
      have hnb : ¬ Bad z k := fun hb => by
        rcases hb with hb | ⟨i, hi, hb⟩
        · omega
        · exact unhide Hgood i hi hb
      have HR := hide (right_any ao k cap z w (unhide HP) (by omega) (fun i hi => by have := unhide Hgood i hi; omega))
      have hiff := rightB_iff (nat z) k
      cases hb : rightB (cnt (nat z) k) (all (nat z) k) with
      | true =>
        have hv := hide (vc_right hnb (hiff.1 hb))
        rw [hb] at HR
        clear hiff hb hnb
        go_wp2_with fail
        refine (unhide HR).mono ?_; rintro e w1 ⟨rfl, rfl⟩
        go_wp2
        go_ret
        exact ⟨by rw [unhide hv]; rfl, rfl⟩
      | false =>
        have hv := hide (vc_wrong hnb (fun h => by rw [hiff.2 h] at hb; cases hb))
        rw [hb] at HR
        clear hiff hb hnb
        go_wp2_with fail
        refine (unhide HR).mono ?_; rintro e w1 ⟨rfl, rfl⟩
        go_wp2
        go_ret
        exact ⟨by rw [unhide hv]; rfl, rfl⟩
end Go.Proofs.YtbbcfghlhgaofadDoor
