/- The statement on what lengths cost: the program's sum, and the walk. -/
import Derived.Test.YtogpkpjdipeiiabDoorHuT
import Derived.Test.YtogpkpjdipeiiabDoorCoded1
import Derived.Deep.QuietTactic
import Derived.BigQuiet
import Derived.Test.YtogpkpjdipeiiabDoorQB
namespace Go.Proofs.YtogpkpjdipeiiabDoor
open Go.RowKit Pm Cn

/-- What is summed, modulo 2^64. -/
def costZ (x y : Nat → Int) : Nat → Int
  | 0 => 0
  | n + 1 => wrap64 (costZ x y n + wrap64 (x n * y n))

/-- Is there one below 0? -/
def negB (x y : Nat → Int) : Nat → Bool
  | 0 => false
  | n + 1 => negB x y n || decide (x n < 0) || decide (y n < 0)

theorem negB_iff (x y : Nat → Int) (n : Nat) : negB x y n = true ↔ ∃ i, i < n ∧ (x i < 0 ∨ y i < 0) := by
  induction n with
  | zero => simp [negB]
  | succ n ih =>
    unfold negB
    simp only [Bool.or_eq_true, decide_eq_true_eq, ih]
    constructor
    · rintro ((⟨i, hi, h⟩ | h) | h)
      · exact ⟨i, by omega, h⟩
      · exact ⟨n, by omega, .inl h⟩
      · exact ⟨n, by omega, .inr h⟩
    · rintro ⟨i, hi, h⟩
      by_cases e : i = n
      · subst e
        rcases h with h | h
        · exact .inl (.inr h)
        · exact .inr h
      · exact .inl (.inl ⟨i, by omega, h⟩)

theorem costZ_wf (x y : Nat → Int) (n : Nat) : -9223372036854775808 ≤ costZ x y n ∧ costZ x y n ≤ 9223372036854775807 := by
  cases n with
  | zero => unfold costZ; omega
  | succ n => unfold costZ; unfold wrap64; omega

/-- What is told. -/
def costV (x y : Nat → Int) (n : Nat) (v : Value) : Value := if negB x y n = true then .tuple #[.int .i64 0, v] else .tuple #[.int .i64 (costZ x y n), .nilIface]
theorem costV_bad {x y : Nat → Int} {n : Nat} {v : Value} (h : negB x y n = true) : costV x y n v = .tuple #[.int .i64 0, v] := by unfold costV; rw [if_pos h]
theorem costV_ok {x y : Nat → Int} {n : Nat} {v : Value} (h : ¬ negB x y n = true) : costV x y n v = .tuple #[.int .i64 (costZ x y n), .nilIface] := by unfold costV; rw [if_neg h]

set_option maxHeartbeats 1000000 in
set_option maxRecDepth 100000 in
/-- Not as many. -/
theorem cost_apart (ao bo : Option Addr) (n m ca cb : Nat) (v : Value) (w : World) (hnm : n ≠ m) (h2 : w.cell? ⟨2, 0, none⟩ = some v) :
    Calls Tryd.prog 31 #[.slice ao n ca, .slice bo m cb] w fun e w' => e = .returned (.tuple #[.int .i64 0, v]) ∧ Below w.heap.size w w' := by
  have d1 : ((n : Int) != (m : Int)) = true := by simp; omega
  have d2 : ((n : Int) == (m : Int)) = false := by simp; omega
  go_enter Tryd.func31, Tryd.ntmps31
  go_wp2
  go_quiet (fail)
  go_wp2
  go_ret2
  exact ⟨rfl, below_drewN (Below.refl _ _) nq⟩

set_option maxHeartbeats 2000000 in
set_option maxRecDepth 100000 in
/-- As many: an error where one is below 0, else the sum. -/
theorem cost_any (ao bo : Option Addr) (n ca cb : Nat) (x y : Nat → Int) (v : Value) (w : World) (hX : IsInts w ao n x) (hY : IsInts w bo n y) (hn : n ≤ 100000) (h2 : w.cell? ⟨2, 0, none⟩ = some v) :
    Calls Tryd.prog 31 #[.slice ao n ca, .slice bo n cb] w fun e w' => e = .returned (costV x y n v) ∧ Below w.heap.size w w' := by
  have HX := hide hX
  have HY := hide hY
  clear hX hY
  go_enter Tryd.func31, Tryd.ntmps31
  go_wp2
  go_loop [6, 17] (fun s i => ∃ k : Nat, k ≤ n ∧ i = .int .i64 k ∧ s = .int .i64 (costZ x y k) ∧ Hid (∀ j, j < k → ¬ (x j < 0 ∨ y j < 0))) (fun _ i => n - (intOf i).toNat)
  case atStart => exact ⟨0, by omega, rfl, rfl, (fun j hj => by omega : ∀ j, j < 0 → ¬ (x j < 0 ∨ y j < 0))⟩
  case round =>
    obtain ⟨k, hk, rfl, rfl, Hg⟩ := hrel
    by_cases hlt : k < n
    · have hdk : decide ((k : Int) < (n : Int)) = true := by simp; omega
      have hdk2 : (k : Int) < (n : Int) := by omega
      rcases unhide HX with h0 | ⟨b1, o1, rfl, hm1, hX⟩
      · omega
      rcases unhide HY with h0 | ⟨b3, o3, rfl, hm3, hY⟩
      · omega
      obtain ⟨c1, x1, x2⟩ := hX k hlt
      obtain ⟨c2, y1, y2⟩ := hY k hlt
      clear hX hY
      have Hs : Hid (costZ x y (k + 1) = wrap64 (costZ x y k + wrap64 (x k * y k))) := rfl
      obtain ⟨s1, s2⟩ := costZ_wf x y k
      by_cases hy : y k < 0
      · have q1 : decide (y k < 0) = true := by simp; omega
        have Hb := hide (costV_bad (v := v) ((negB_iff x y n).2 ⟨k, hlt, .inr hy⟩))
        generalize costZ x y k = s at *
        generalize x k = xk at *
        generalize y k = yk at *
        clear Hg
        go_wp2
        go_quiet (fail)
        go_wp2
        go_ret2
        exact ⟨by rw [unhide Hb]; rfl, below_drewN (Below.refl _ _) nq⟩
      have q1 : decide (y k < 0) = false := by simp; omega
      by_cases hx : x k < 0
      · have q2 : decide (x k < 0) = true := by simp; omega
        have Hb := hide (costV_bad (v := v) ((negB_iff x y n).2 ⟨k, hlt, .inl hx⟩))
        generalize costZ x y k = s at *
        generalize x k = xk at *
        generalize y k = yk at *
        clear Hg
        go_wp2
        go_quiet (fail)
        go_wp2
        go_ret2
        exact ⟨by rw [unhide Hb]; rfl, below_drewN (Below.refl _ _) nq⟩
      have q2 : decide (x k < 0) = false := by simp; omega
      have Hnext : Hid (∀ j, j < k + 1 → ¬ (x j < 0 ∨ y j < 0)) := fun j hj => by
        by_cases e : j = k
        · subst e; omega
        · exact unhide Hg j (by omega)
      obtain ⟨s', hs'⟩ : ∃ s', s' = wrap64 (costZ x y k + wrap64 (x k * y k)) := ⟨_, rfl⟩
      rw [← hs'] at Hs
      generalize costZ x y k = s at *
      generalize x k = xk at *
      generalize y k = yk at *
      clear Hg
      have hs'' := hs'.symm
      clear hs'
      go_wp2
      go_round
      case rel => exact ⟨k + 1, by omega, by go_num, by rw [unhide Hs, ← hs''], Hnext⟩
      case measure => simp [intOf]; omega
    · have : k = n := by omega
      subst this
      have hdk : decide ((k : Int) < (k : Int)) = false := by simp
      have Hb := hide (costV_ok (v := v) (fun h : negB x y k = true => by
        obtain ⟨i, hi, h'⟩ := (negB_iff x y k).1 h
        exact unhide Hg i hi h'))
      clear Hg
      go_wp2
      go_ret2
      exact ⟨by rw [unhide Hb]; rfl, Below.refl _ _⟩

/-! ### The statement -/

set_option maxHeartbeats 4000000 in
set_option maxRecDepth 100000 in
theorem huffCosts_short (ao bo : Option Addr) (n ca m cb : Nat) (x y : Nat → Int) (w : World) (a : Nat → Addr) (hS : Sent w a) (hX : IsInts w ao n x) (hY : IsInts w bo m y) (hn : n ≤ 100) (hm : m ≤ 100) :
    Calls Tryd.prog 8 #[.slice ao n ca, .slice bo m cb] w fun e w' => e = .returned (.bool true) ∧ Below w.heap.size w w' := by
  have hd1 : decide ((100 : Int) < (n : Int)) = false := by simp; omega
  have hd2 : decide ((n : Int) > 100) = false := by simp; omega
  have hd3 : decide ((100 : Int) < (m : Int)) = false := by simp; omega
  have hd4 : decide ((m : Int) > 100) = false := by simp; omega
  have hzx : ∀ j, j < n → -9223372036854775808 ≤ x j ∧ x j ≤ 9223372036854775807 := fun j hj => by
    rcases hX with h | ⟨b, off, _, _, h⟩
    · omega
    · exact (h j hj).2
  have hzy : ∀ j, j < m → -9223372036854775808 ≤ y j ∧ y j ≤ 9223372036854775807 := fun j hj => by
    rcases hY with h | ⟨b, off, _, _, h⟩
    · omega
    · exact (h j hj).2
  have HZX := hide hzx
  have HZY := hide hzy
  have HS := hide hS
  have HX := hide hX
  have HY := hide hY
  have HT := hide (two_any (sentV a 1) (sentV a 2) w (hS.cell 1 (by omega)) (hS.cell 2 (by omega)))
  obtain ⟨d0, hd0⟩ : ∃ d0, d0 = ((n : Int) != (m : Int)) := ⟨_, rfl⟩
  have hd0' := hd0.symm
  have HD0 := hide hd0
  clear hS hX hY hd0 hzx hzy
  go_enter Tryd.func8, Tryd.ntmps8
  go_wp2_with fail
  refine (unhide HT).mono ?_; rintro e w1 ⟨rfl, hb0⟩
  have HX1 := hide ((unhide HX).below hb0)
  have HY1 := hide ((unhide HY).below hb0)
  have HS1 := hide ((unhide HS).below hb0)
  clear HT HX HY HS
  go_wp2
  clear hd0'
  go_loopw [4, 6, 7, 8] (fun _ bd wt i wr => ∃ (k : Nat) (B : Bool), k ≤ n ∧ k ≤ m ∧ i = .int .i64 k ∧ bd = .bool B ∧ wt = .int .i64 (costZ x y k) ∧ (d0 || negB x y k) = B ∧ Below w1.heap.size w1 wr) (fun _ _ _ i _ => n - (intOf i).toNat)
  case atStart => exact ⟨0, d0, by omega, by omega, rfl, rfl, rfl, by simp [negB], Below.refl _ _⟩
  case round =>
    obtain ⟨k, B, hkn, hkm, rfl, rfl, rfl, hB, hbr⟩ := hrel
    have HB := hide hB
    clear hB
    by_cases hlt : k < n ∧ k < m
    · obtain ⟨l1, l2⟩ := hlt
      have e1 : decide ((k : Int) < (n : Int)) = true := by simp; omega
      have e2 : decide ((k : Int) < (m : Int)) = true := by simp; omega
      have e3 : (k : Int) < (n : Int) := by omega
      have e4 : (k : Int) < (m : Int) := by omega
      rcases unhide HX1 with h0 | ⟨b1, o1, rfl, hm1, hX⟩
      · omega
      rcases unhide HY1 with h0 | ⟨b3, o3, rfl, hm3, hY⟩
      · omega
      obtain ⟨c1, x1, x2⟩ := hX k l1
      obtain ⟨c2, y1, y2⟩ := hY k l2
      rw [← hbr.cell (World.block_lt_of_cell? _ _ c1)] at c1
      rw [← hbr.cell (World.block_lt_of_cell? _ _ c2)] at c2
      clear hX hY
      have Hs : Hid (costZ x y (k + 1) = wrap64 (costZ x y k + wrap64 (x k * y k))) := rfl
      obtain ⟨s1, s2⟩ := costZ_wf x y k
      cases B with
      | true =>
        by_cases g1 : 1048576 < x k
        · have r1 : decide ((1048576 : Int) < x k) = true := by simp; omega
          have r2 : decide (x k > 1048576) = true := by simp; omega
          have Hn : Hid ((d0 || negB x y (k + 1)) = true) := by show _ = _; unfold negB; rw [← Bool.or_assoc, ← Bool.or_assoc, unhide HB]; simp
          generalize costZ x y k = s at *
          generalize x k = xk at *
          generalize y k = yk at *
          clear HB
          go_wp2
          go_ret
          exact ⟨rfl, hb0.trans (hbr.mono hb0.size)⟩
        · have r1 : decide ((1048576 : Int) < x k) = false := by simp; omega
          have r2 : decide (x k > 1048576) = false := by simp; omega
          by_cases g2 : 1048576 < y k
          · have r3 : decide ((1048576 : Int) < y k) = true := by simp; omega
            have r4 : decide (y k > 1048576) = true := by simp; omega
            have Hn : Hid ((d0 || negB x y (k + 1)) = true) := by show _ = _; unfold negB; rw [← Bool.or_assoc, ← Bool.or_assoc, unhide HB]; simp
            generalize costZ x y k = s at *
            generalize x k = xk at *
            generalize y k = yk at *
            clear HB
            go_wp2
            go_ret
            exact ⟨rfl, hb0.trans (hbr.mono hb0.size)⟩
          · have r3 : decide ((1048576 : Int) < y k) = false := by simp; omega
            have r4 : decide (y k > 1048576) = false := by simp; omega
            have Hn : Hid ((d0 || negB x y (k + 1)) = true) := by show _ = _; unfold negB; rw [← Bool.or_assoc, ← Bool.or_assoc, unhide HB]; simp
            generalize costZ x y k = s at *
            generalize x k = xk at *
            generalize y k = yk at *
            clear HB
            go_wp2_with fail
            go_quiet (fail)
            go_wp2
            go_roundw
            case rel => exact ⟨k + 1, true, by omega, by omega, by go_num, rfl, by rw [unhide Hs], unhide Hn, below_drewN hbr nq⟩
            case measure => simp [intOf]; omega
      | false =>
        by_cases hx : x k < 0
        · have q1 : decide (x k < 0) = true := by simp; omega
          by_cases g1 : 1048576 < x k
          · have r1 : decide ((1048576 : Int) < x k) = true := by simp; omega
            have r2 : decide (x k > 1048576) = true := by simp; omega
            have Hn : Hid ((d0 || negB x y (k + 1)) = true) := by show _ = _; unfold negB; simp [hx]
            generalize costZ x y k = s at *
            generalize x k = xk at *
            generalize y k = yk at *
            clear HB
            go_wp2
            go_ret
            exact ⟨rfl, hb0.trans (hbr.mono hb0.size)⟩
          · have r1 : decide ((1048576 : Int) < x k) = false := by simp; omega
            have r2 : decide (x k > 1048576) = false := by simp; omega
            by_cases g2 : 1048576 < y k
            · have r3 : decide ((1048576 : Int) < y k) = true := by simp; omega
              have r4 : decide (y k > 1048576) = true := by simp; omega
              have Hn : Hid ((d0 || negB x y (k + 1)) = true) := by show _ = _; unfold negB; simp [hx]
              generalize costZ x y k = s at *
              generalize x k = xk at *
              generalize y k = yk at *
              clear HB
              go_wp2
              go_ret
              exact ⟨rfl, hb0.trans (hbr.mono hb0.size)⟩
            · have r3 : decide ((1048576 : Int) < y k) = false := by simp; omega
              have r4 : decide (y k > 1048576) = false := by simp; omega
              have Hn : Hid ((d0 || negB x y (k + 1)) = true) := by show _ = _; unfold negB; simp [hx]
              generalize costZ x y k = s at *
              generalize x k = xk at *
              generalize y k = yk at *
              clear HB
              go_wp2_with fail
              go_quiet (fail)
              go_wp2
              go_roundw
              case rel => exact ⟨k + 1, true, by omega, by omega, by go_num, rfl, by rw [unhide Hs], unhide Hn, below_drewN hbr nq⟩
              case measure => simp [intOf]; omega
        have q1 : decide (x k < 0) = false := by simp; omega
        by_cases hy : y k < 0
        · have q2 : decide (y k < 0) = true := by simp; omega
          by_cases g1 : 1048576 < x k
          · have r1 : decide ((1048576 : Int) < x k) = true := by simp; omega
            have r2 : decide (x k > 1048576) = true := by simp; omega
            have Hn : Hid ((d0 || negB x y (k + 1)) = true) := by show _ = _; unfold negB; simp [hy]
            generalize costZ x y k = s at *
            generalize x k = xk at *
            generalize y k = yk at *
            clear HB
            go_wp2
            go_ret
            exact ⟨rfl, hb0.trans (hbr.mono hb0.size)⟩
          · have r1 : decide ((1048576 : Int) < x k) = false := by simp; omega
            have r2 : decide (x k > 1048576) = false := by simp; omega
            by_cases g2 : 1048576 < y k
            · have r3 : decide ((1048576 : Int) < y k) = true := by simp; omega
              have r4 : decide (y k > 1048576) = true := by simp; omega
              have Hn : Hid ((d0 || negB x y (k + 1)) = true) := by show _ = _; unfold negB; simp [hy]
              generalize costZ x y k = s at *
              generalize x k = xk at *
              generalize y k = yk at *
              clear HB
              go_wp2
              go_ret
              exact ⟨rfl, hb0.trans (hbr.mono hb0.size)⟩
            · have r3 : decide ((1048576 : Int) < y k) = false := by simp; omega
              have r4 : decide (y k > 1048576) = false := by simp; omega
              have Hn : Hid ((d0 || negB x y (k + 1)) = true) := by show _ = _; unfold negB; simp [hy]
              generalize costZ x y k = s at *
              generalize x k = xk at *
              generalize y k = yk at *
              clear HB
              go_wp2_with fail
              go_quiet (fail)
              go_wp2
              go_roundw
              case rel => exact ⟨k + 1, true, by omega, by omega, by go_num, rfl, by rw [unhide Hs], unhide Hn, below_drewN hbr nq⟩
              case measure => simp [intOf]; omega
        have q2 : decide (y k < 0) = false := by simp; omega
        by_cases g1 : 1048576 < x k
        · have r1 : decide ((1048576 : Int) < x k) = true := by simp; omega
          have r2 : decide (x k > 1048576) = true := by simp; omega
          have Hn : Hid ((d0 || negB x y (k + 1)) = false) := by show _ = _; unfold negB; rw [← Bool.or_assoc, ← Bool.or_assoc, unhide HB]; simp; omega
          generalize costZ x y k = s at *
          generalize x k = xk at *
          generalize y k = yk at *
          clear HB
          go_wp2
          go_ret
          exact ⟨rfl, hb0.trans (hbr.mono hb0.size)⟩
        · have r1 : decide ((1048576 : Int) < x k) = false := by simp; omega
          have r2 : decide (x k > 1048576) = false := by simp; omega
          by_cases g2 : 1048576 < y k
          · have r3 : decide ((1048576 : Int) < y k) = true := by simp; omega
            have r4 : decide (y k > 1048576) = true := by simp; omega
            have Hn : Hid ((d0 || negB x y (k + 1)) = false) := by show _ = _; unfold negB; rw [← Bool.or_assoc, ← Bool.or_assoc, unhide HB]; simp; omega
            generalize costZ x y k = s at *
            generalize x k = xk at *
            generalize y k = yk at *
            clear HB
            go_wp2
            go_ret
            exact ⟨rfl, hb0.trans (hbr.mono hb0.size)⟩
          · have r3 : decide ((1048576 : Int) < y k) = false := by simp; omega
            have r4 : decide (y k > 1048576) = false := by simp; omega
            have Hn : Hid ((d0 || negB x y (k + 1)) = false) := by show _ = _; unfold negB; rw [← Bool.or_assoc, ← Bool.or_assoc, unhide HB]; simp; omega
            generalize costZ x y k = s at *
            generalize x k = xk at *
            generalize y k = yk at *
            clear HB
            go_wp2_with fail
            go_quiet (fail)
            go_wp2
            go_roundw
            case rel => exact ⟨k + 1, false, by omega, by omega, by go_num, rfl, by rw [unhide Hs], unhide Hn, below_drewN hbr nq⟩
            case measure => simp [intOf]; omega
    · have hdec : ¬ k < n ∨ (k < n ∧ ¬ k < m) := by omega
      have HXr := hide ((unhide HX1).below hbr)
      have HYr := hide ((unhide HY1).below hbr)
      have HSr := hide ((unhide HS1).below hbr)
      have kr := hb0.trans (hbr.mono hb0.size)
      clear HX1 HY1 HS1 hbr hb0
      have fin : Hid ((n ≠ m ∧ d0 = true) ∨ (n = m ∧ d0 = false ∧ k = n)) := by
        have h := unhide HD0
        by_cases e : n = m
        · subst e
          refine .inr ⟨rfl, by rw [h]; simp, by omega⟩
        · exact .inl ⟨e, by rw [h]; simp; omega⟩
      rcases hdec with q0 | ⟨q0, q0'⟩
      · have q1 : decide ((k : Int) < (n : Int)) = false := by simp; omega
        have q1b : ¬ (k : Int) < (n : Int) := by omega
        have q1c : decide (k < n) = false := by simp; omega
        go_wp2_with fail
        refine (ints_any ao n ca x _ (unhide HXr) (by omega)).mono ?_; rintro e w3 ⟨v3, rfl, hown3, hb3⟩
        obtain ⟨a3, c3, rfl, hI3⟩ := ints_own hown3 (unhide HZX)
        have HI3 := hide hI3
        have HY3 := hide ((unhide HYr).below hb3)
        have HS3 := hide ((unhide HSr).below hb3)
        clear hown3 hI3
        go_wp2_with fail
        refine (ints_any bo m cb y _ (unhide HY3) (by omega)).mono ?_; rintro e w4 ⟨v4, rfl, hown4, hb4⟩
        obtain ⟨a4, c4, rfl, hI4⟩ := ints_own hown4 (unhide HZY)
        have HI4 := hide hI4
        have HI3b := hide ((unhide HI3).below hb4)
        have HS4 := hide ((unhide HS3).below hb4)
        clear hown4 hI4
        have k3 := kr.trans (hb3.mono kr.size)
        have k4 := k3.trans (hb4.mono k3.size)
        clear kr k3 hb3 hb4 HXr HYr HSr HI3 HY3 HS3
        rcases unhide fin with ⟨hne, hd⟩ | ⟨heq, hd, hkn2⟩
        · have hB : B = true := by rw [← unhide HB, hd]; rfl
          subst hB
          go_wp2_with fail
          refine (cost_apart a3 a4 n m c3 c4 (sentV a 2) _ hne ((unhide HS4).cell 2 (by omega))).mono ?_; rintro e w5 ⟨rfl, hb5⟩
          have HS5 := hide ((unhide HS4).below hb5)
          go_wp2_with fail
          refine (coded_sent 2 3 _ a (unhide HS5) (by omega) (by decide)).mono ?_; rintro e w6 ⟨rfl, hb6⟩
          have k5 := k4.trans (hb5.mono k4.size)
          have k6 := k5.trans (hb6.mono k5.size)
          go_wp2
          go_ret
          exact ⟨rfl, k6⟩
        · subst heq hkn2
          have hBn := unhide HB
          rw [hd, Bool.false_or] at hBn
          cases B with
          | true =>
            have hcv := hide (costV_bad (v := sentV a 2) hBn)
            go_wp2_with fail
            refine (cost_any a3 a4 k c3 c4 x y (sentV a 2) _ (unhide HI3b) (unhide HI4) (by omega) ((unhide HS4).cell 2 (by omega))).mono ?_; rintro e w5 ⟨rfl, hb5⟩
            rw [unhide hcv]
            have HS5 := hide ((unhide HS4).below hb5)
            clear hBn hcv
            go_wp2_with fail
            refine (coded_sent 2 3 _ a (unhide HS5) (by omega) (by decide)).mono ?_; rintro e w6 ⟨rfl, hb6⟩
            have k5 := k4.trans (hb5.mono k4.size)
            have k6 := k5.trans (hb6.mono k5.size)
            go_wp2
            go_ret
            exact ⟨rfl, k6⟩
          | false =>
            have hcv := hide (costV_ok (v := sentV a 2) (by rw [hBn]; simp))
            go_wp2_with fail
            refine (cost_any a3 a4 k c3 c4 x y (sentV a 2) _ (unhide HI3b) (unhide HI4) (by omega) ((unhide HS4).cell 2 (by omega))).mono ?_; rintro e w5 ⟨rfl, hb5⟩
            rw [unhide hcv]
            have k5 := k4.trans (hb5.mono k4.size)
            clear hBn hcv
            generalize costZ x y k = s at *
            go_wp2
            go_ret
            exact ⟨by simp, k5⟩
      · have q1 : decide ((k : Int) < (n : Int)) = true := by simp; omega
        have q2 : decide ((k : Int) < (m : Int)) = false := by simp; omega
        have q1b : (k : Int) < (n : Int) := by omega
        have q2b : ¬ (k : Int) < (m : Int) := by omega
        have q1c : decide (k < n) = true := by simp; omega
        have q2c : decide (k < m) = false := by simp; omega
        go_wp2_with fail
        refine (ints_any ao n ca x _ (unhide HXr) (by omega)).mono ?_; rintro e w3 ⟨v3, rfl, hown3, hb3⟩
        obtain ⟨a3, c3, rfl, hI3⟩ := ints_own hown3 (unhide HZX)
        have HI3 := hide hI3
        have HY3 := hide ((unhide HYr).below hb3)
        have HS3 := hide ((unhide HSr).below hb3)
        clear hown3 hI3
        go_wp2_with fail
        refine (ints_any bo m cb y _ (unhide HY3) (by omega)).mono ?_; rintro e w4 ⟨v4, rfl, hown4, hb4⟩
        obtain ⟨a4, c4, rfl, hI4⟩ := ints_own hown4 (unhide HZY)
        have HI4 := hide hI4
        have HI3b := hide ((unhide HI3).below hb4)
        have HS4 := hide ((unhide HS3).below hb4)
        clear hown4 hI4
        have k3 := kr.trans (hb3.mono kr.size)
        have k4 := k3.trans (hb4.mono k3.size)
        clear kr k3 hb3 hb4 HXr HYr HSr HI3 HY3 HS3
        rcases unhide fin with ⟨hne, hd⟩ | ⟨heq, hd, hkn2⟩
        · have hB : B = true := by rw [← unhide HB, hd]; rfl
          subst hB
          go_wp2_with fail
          refine (cost_apart a3 a4 n m c3 c4 (sentV a 2) _ hne ((unhide HS4).cell 2 (by omega))).mono ?_; rintro e w5 ⟨rfl, hb5⟩
          have HS5 := hide ((unhide HS4).below hb5)
          go_wp2_with fail
          refine (coded_sent 2 3 _ a (unhide HS5) (by omega) (by decide)).mono ?_; rintro e w6 ⟨rfl, hb6⟩
          have k5 := k4.trans (hb5.mono k4.size)
          have k6 := k5.trans (hb6.mono k5.size)
          go_wp2
          go_ret
          exact ⟨rfl, k6⟩
        · subst heq hkn2
          have hBn := unhide HB
          rw [hd, Bool.false_or] at hBn
          cases B with
          | true =>
            have hcv := hide (costV_bad (v := sentV a 2) hBn)
            go_wp2_with fail
            refine (cost_any a3 a4 k c3 c4 x y (sentV a 2) _ (unhide HI3b) (unhide HI4) (by omega) ((unhide HS4).cell 2 (by omega))).mono ?_; rintro e w5 ⟨rfl, hb5⟩
            rw [unhide hcv]
            have HS5 := hide ((unhide HS4).below hb5)
            clear hBn hcv
            go_wp2_with fail
            refine (coded_sent 2 3 _ a (unhide HS5) (by omega) (by decide)).mono ?_; rintro e w6 ⟨rfl, hb6⟩
            have k5 := k4.trans (hb5.mono k4.size)
            have k6 := k5.trans (hb6.mono k5.size)
            go_wp2
            go_ret
            exact ⟨rfl, k6⟩
          | false =>
            have hcv := hide (costV_ok (v := sentV a 2) (by rw [hBn]; simp))
            go_wp2_with fail
            refine (cost_any a3 a4 k c3 c4 x y (sentV a 2) _ (unhide HI3b) (unhide HI4) (by omega) ((unhide HS4).cell 2 (by omega))).mono ?_; rintro e w5 ⟨rfl, hb5⟩
            rw [unhide hcv]
            have k5 := k4.trans (hb5.mono k4.size)
            clear hBn hcv
            generalize costZ x y k = s at *
            go_wp2
            go_ret
            exact ⟨by simp, k5⟩

theorem huffCosts_long (ao bo : Option Addr) (n ca m cb : Nat) (w : World) (a : Nat → Addr) (hS : Sent w a) (hl : 100 < n ∨ 100 < m) :
    Calls Tryd.prog 8 #[.slice ao n ca, .slice bo m cb] w fun e w' => e = .returned (.bool true) ∧ Below w.heap.size w w' := by
  have HT := hide (two_any (sentV a 1) (sentV a 2) w (hS.cell 1 (by omega)) (hS.cell 2 (by omega)))
  clear hS
  by_cases h1 : 100 < n
  · have hd1 : decide ((100 : Int) < (n : Int)) = true := by simp; omega
    have hd2 : decide ((n : Int) > 100) = true := by simp; omega
    go_enter Tryd.func8, Tryd.ntmps8
    go_wp2_with fail
    refine (unhide HT).mono ?_; rintro e w1 ⟨rfl, hb0⟩
    go_wp2
    go_ret
    exact ⟨rfl, hb0⟩
  · have hd1 : decide ((100 : Int) < (n : Int)) = false := by simp; omega
    have hd2 : decide ((n : Int) > 100) = false := by simp; omega
    have hd3 : decide ((100 : Int) < (m : Int)) = true := by simp; omega
    have hd4 : decide ((m : Int) > 100) = true := by simp; omega
    go_enter Tryd.func8, Tryd.ntmps8
    go_wp2_with fail
    refine (unhide HT).mono ?_; rintro e w1 ⟨rfl, hb0⟩
    go_wp2
    go_ret
    exact ⟨rfl, hb0⟩

theorem huffCosts_any (ao : Option Addr) (n ca : Nat) (x : Nat → Int) (bo : Option Addr) (m cb : Nat) (y : Nat → Int) (w : World) (a : Nat → Addr) (hS : Sent w a) (hX : IsInts w ao n x) (hY : IsInts w bo m y) :
    Calls Tryd.prog 8 #[.slice ao n ca, .slice bo m cb] w fun e w' => e = .returned (.bool true) ∧ Below w.heap.size w w' := by
  by_cases h : 100 < n ∨ 100 < m
  · exact huffCosts_long ao bo n ca m cb w a hS h
  · exact huffCosts_short ao bo n ca m cb x y w a hS hX hY (by omega) (by omega)
end Go.Proofs.YtogpkpjdipeiiabDoor
