/- Pixels over pixels, the document's: rounding, and how two colors meet. -/
import Derived.Test.YtjhnneplknhmkahDoorOv3
namespace Go.Proofs.YtjhnneplknhmkahDoor
open Go.RowKit

set_option maxHeartbeats 1000000 in
theorem rrounded_any (n k : Nat) (w : World) (hk : 0 < k) (hk2 : k ≤ 4294967296) (hn : n ≤ 255 * k) :
    Calls Tryd.prog 80 #[.int .i64 (n : Int), .int .i64 (k : Int)] w fun e w' => e = .returned (.int .i64 (Ov.rnd n k : Int)) ∧ w' = w := by
  have hd := Ov.rnd_doc n k hk
  obtain ⟨q, hq⟩ : ∃ q, q = n / k := ⟨_, rfl⟩
  obtain ⟨p, hp⟩ : ∃ p, p = n / k * k := ⟨_, rfl⟩
  have hpn : p ≤ n := by rw [hp]; exact Nat.div_mul_le_self n k
  have hql : q ≤ n := by rw [hq]; exact Nat.div_le_self n k
  rw [← hp, ← hq] at hd
  have zq : (n : Int) / (k : Int) = (q : Int) := by rw [hq, Int.natCast_ediv]
  have zq' : (n : Int).tdiv (k : Int) = (q : Int) := by rw [Int.tdiv_eq_ediv_of_nonneg (by omega)]; exact zq
  have zp : (q : Int) * (k : Int) = (p : Int) := by rw [hp, hq]; simp
  have wq : IntKind.i64.wrap (q : Int) = (q : Int) := by rw [IntKind.wrap_i64]; omega
  have wp' : IntKind.i64.wrap (p : Int) = (p : Int) := by rw [IntKind.wrap_i64]; omega
  have k0 : ((k : Int) == 0) = false := beq_eq_false_iff_ne.2 (by omega)
  clear hq hp
  by_cases h : k ≤ 2 * (n - p)
  · rw [if_pos h] at hd
    rw [hd]
    have d : decide (2 * ((n : Int) - (p : Int)) ≥ (k : Int)) = true := decide_eq_true (by omega)
    have d' : decide ((k : Int) ≤ 2 * ((n : Int) - (p : Int))) = true := d
    clear h hd
    go_enter Tryd.func80, Tryd.ntmps80
    go_wp2
    go_ret
    exact ⟨ret_int (by omega), rfl⟩
  · rw [if_neg h] at hd
    rw [hd]
    have d : decide (2 * ((n : Int) - (p : Int)) ≥ (k : Int)) = false := decide_eq_false (by omega)
    have d' : decide ((k : Int) ≤ 2 * ((n : Int) - (p : Int))) = false := d
    clear h hd
    go_enter Tryd.func80, Tryd.ntmps80
    go_wp2
    go_ret
    exact ⟨rfl, rfl⟩

set_option maxHeartbeats 2000000 in
theorem blend_any (m s d : Nat) (w : World) (hm : m ≤ 5) (hs : s ≤ 255) (hd : d ≤ 255) :
    Calls Tryd.prog 79 #[.int .i64 (m : Int), .int .i64 (s : Int), .int .i64 (d : Int)] w fun e w' => e = .returned (.int .i64 (Ov.mt m s d : Int)) ∧ w' = w := by
  have h2 := Ov.two_colors s d hs hd
  obtain ⟨t, ht⟩ : ∃ t, t = s * d := ⟨_, rfl⟩
  have zt : (s : Int) * (d : Int) = (t : Int) := by rw [ht]; simp
  have wt : IntKind.i64.wrap (t : Int) = (t : Int) := by rw [IntKind.wrap_i64]; omega
  obtain ⟨M, hM⟩ : ∃ M, M = Ov.mt m s d := ⟨_, rfl⟩
  rw [← hM]
  unfold Ov.mt at hM
  rw [← ht] at hM h2
  clear ht
  by_cases hlt : s < d
  · have g1 : decide ((s : Int) < (d : Int)) = true := decide_eq_true (by omega)
    have g1n : decide (s < d) = true := decide_eq_true hlt
    have g2 : decide ((s : Int) > (d : Int)) = false := decide_eq_false (by omega)
    have g2' : decide ((d : Int) < (s : Int)) = false := g2
    have g2n : decide (d < s) = false := decide_eq_false (by omega)
    have HL := hide hlt
    clear hlt
    rcases (show m = 0 ∨ m = 1 ∨ m = 2 ∨ m = 3 ∨ m = 4 ∨ m = 5 by omega) with rfl | rfl | rfl | rfl | rfl | rfl
    all_goals
      simp at hM
      have HM := hide hM
      clear hM
      go_enter Tryd.func79, Tryd.ntmps79
      go_wp2
      go_ret
      exact ⟨ret_int (by have := unhide HM; have := unhide HL; omega), rfl⟩
  · have g1 : decide ((s : Int) < (d : Int)) = false := decide_eq_false (by omega)
    have g1n : decide (s < d) = false := decide_eq_false hlt
    by_cases hgt : d < s
    · have g2 : decide ((s : Int) > (d : Int)) = true := decide_eq_true (by omega)
      have g2' : decide ((d : Int) < (s : Int)) = true := g2
      have g2n : decide (d < s) = true := decide_eq_true hgt
      have HL := hide hlt
      clear hlt
      rcases (show m = 0 ∨ m = 1 ∨ m = 2 ∨ m = 3 ∨ m = 4 ∨ m = 5 by omega) with rfl | rfl | rfl | rfl | rfl | rfl
      all_goals
        simp at hM
        have HM := hide hM
        clear hM
        go_enter Tryd.func79, Tryd.ntmps79
        go_wp2
        go_ret
        exact ⟨ret_int (by have := unhide HM; have := unhide HL; omega), rfl⟩
    · have g2 : decide ((s : Int) > (d : Int)) = false := decide_eq_false (by omega)
      have g2' : decide ((d : Int) < (s : Int)) = false := g2
      have g2n : decide (d < s) = false := decide_eq_false hgt
      have HL : Hid (s = d) := by show s = d; omega
      clear hlt hgt
      rcases (show m = 0 ∨ m = 1 ∨ m = 2 ∨ m = 3 ∨ m = 4 ∨ m = 5 by omega) with rfl | rfl | rfl | rfl | rfl | rfl
      all_goals
        simp at hM
        have HM := hide hM
        clear hM
        go_enter Tryd.func79, Tryd.ntmps79
        go_wp2
        go_ret
        exact ⟨ret_int (by have := unhide HM; have := unhide HL; omega), rfl⟩

theorem isMode_any (z : Int) (w : World) :
    Calls Tryd.prog 27 #[.int .i64 z] w fun e w' => e = .returned (.bool (decide (0 ≤ z ∧ z ≤ 5))) ∧ w' = w := by
  by_cases h1 : 0 ≤ z
  · have d1 : decide (z ≥ 0) = true := decide_eq_true h1
    have d1' : decide (0 ≤ z) = true := d1
    by_cases h2 : z ≤ 5
    · have d2 : decide (z ≤ 5) = true := decide_eq_true h2
      rw [decide_eq_true (⟨h1, h2⟩ : 0 ≤ z ∧ z ≤ 5)]
      clear h1 h2
      go_enter Tryd.func27, Tryd.ntmps27
      go_wp2
      go_ret
      exact ⟨rfl, rfl⟩
    · have d2 : decide (z ≤ 5) = false := decide_eq_false h2
      rw [decide_eq_false (fun q : 0 ≤ z ∧ z ≤ 5 => h2 q.2)]
      clear h1 h2
      go_enter Tryd.func27, Tryd.ntmps27
      go_wp2
      go_ret
      exact ⟨rfl, rfl⟩
  · have d1 : decide (z ≥ 0) = false := decide_eq_false h1
    have d1' : decide (0 ≤ z) = false := d1
    rw [decide_eq_false (fun q : 0 ≤ z ∧ z ≤ 5 => h1 q.1)]
    clear h1
    go_enter Tryd.func27, Tryd.ntmps27
    go_wp2
    go_ret
    exact ⟨rfl, rfl⟩
end Go.Proofs.YtjhnneplknhmkahDoor
