/- The walk of the statement: a long text of few words. -/
import Derived.Test.YtmmilamaahmaoadDoorMz8
import Derived.Test.YtmmilamaahmaoadDoorSm
import Derived.Test.YtmmilamaahmaoadDoorCoded1
namespace Go.Proofs.YtmmilamaahmaoadDoor
open Go.RowKit Mm

set_option maxHeartbeats 2000000 in
set_option maxRecDepth 100000 in
theorem matchLong_any (s : ByteArray) (times win : Int) (w : World) (a : Nat → Addr) (hS : Sent w a) (_hs : s.size ≤ maxLen) :
    Calls Tryd.prog 4 #[.string s, .int .i64 times, .int .i64 win] w fun e w' => e = .returned (.bool true) ∧ Below w.heap.size w w' := by
  have HL := hide (same_any w _ _ (hS.cell 2 (by omega)))
  have HS := hide hS
  clear hS
  have hsi : (0 : Int) ≤ (s.size : Int) := by omega
  by_cases hin : 1 ≤ s.size ∧ s.size ≤ 40 ∧ 1 ≤ times ∧ times ≤ 100 ∧ (s.size : Int) ≤ win ∧ win ≤ 32768
  rotate_left
  · go_enter Tryd.func4, Tryd.ntmps4
    go_wp2_with fail
    refine (unhide HL).mono ?_; rintro e w1 ⟨rfl, hb1⟩
    clear HL
    by_cases c1 : s.size < 1
    · have d1 : decide ((s.size : Int) < 1) = true := decide_eq_true (by omega)
      have d1n : decide (s.size < 1) = true := decide_eq_true (by omega)
      go_wp2; go_ret; exact ⟨rfl, hb1⟩
    have d1 : decide ((s.size : Int) < 1) = false := decide_eq_false (by omega)
    have d1n : decide (s.size < 1) = false := decide_eq_false (by omega)
    by_cases c2 : 40 < s.size
    · have d2 : decide ((s.size : Int) > 40) = true := decide_eq_true (by omega)
      have d2' : decide ((40 : Int) < (s.size : Int)) = true := d2
      have d2n : decide (40 < s.size) = true := decide_eq_true (by omega)
      go_wp2; go_ret; exact ⟨rfl, hb1⟩
    have d2 : decide ((s.size : Int) > 40) = false := decide_eq_false (by omega)
    have d2' : decide ((40 : Int) < (s.size : Int)) = false := d2
    have d2n : decide (40 < s.size) = false := decide_eq_false (by omega)
    by_cases c3 : times < 1
    · have d3 : decide (times < 1) = true := decide_eq_true c3
      go_wp2; go_ret; exact ⟨rfl, hb1⟩
    have d3 : decide (times < 1) = false := decide_eq_false c3
    by_cases c4 : times > 100
    · have d4 : decide (times > 100) = true := decide_eq_true c4
      have d4' : decide ((100 : Int) < times) = true := d4
      go_wp2; go_ret; exact ⟨rfl, hb1⟩
    have d4 : decide (times > 100) = false := decide_eq_false c4
    have d4' : decide ((100 : Int) < times) = false := d4
    by_cases c5 : win < (s.size : Int)
    · have d5 : decide (win < (s.size : Int)) = true := decide_eq_true c5
      go_wp2; go_ret; exact ⟨rfl, hb1⟩
    have d5 : decide (win < (s.size : Int)) = false := decide_eq_false c5
    have d6 : decide (win > 32768) = true := decide_eq_true (by omega)
    have d6' : decide ((32768 : Int) < win) = true := d6
    go_wp2; go_ret; exact ⟨rfl, hb1⟩
  obtain ⟨h1, h2, h3, h4, h5, h6⟩ := hin
  obtain ⟨n, rfl⟩ := Int.eq_ofNat_of_zero_le (show (0 : Int) ≤ times by omega)
  obtain ⟨W, rfl⟩ := Int.eq_ofNat_of_zero_le (show (0 : Int) ≤ win by omega)
  have hn1 : 1 ≤ n := by omega
  have hn2 : n ≤ 100 := by omega
  have hW1 : s.size ≤ W := by omega
  have hW2 : W ≤ 32768 := by omega
  have d1 : decide ((s.size : Int) < 1) = false := decide_eq_false (by omega)
  have d1n : decide (s.size < 1) = false := decide_eq_false (by omega)
  have d2 : decide ((s.size : Int) > 40) = false := decide_eq_false (by omega)
  have d2' : decide ((40 : Int) < (s.size : Int)) = false := d2
  have d2n : decide (40 < s.size) = false := decide_eq_false (by omega)
  have d3 : decide ((n : Int) < 1) = false := decide_eq_false (by omega)
  have d3n : decide (n < 1) = false := decide_eq_false (by omega)
  have d4 : decide ((n : Int) > 100) = false := decide_eq_false (by omega)
  have d4' : decide ((100 : Int) < (n : Int)) = false := d4
  have d4n : decide (100 < n) = false := decide_eq_false (by omega)
  have d5 : decide ((W : Int) < (s.size : Int)) = false := decide_eq_false (by omega)
  have d5n : decide (W < s.size) = false := decide_eq_false (by omega)
  have d6 : decide ((W : Int) > 32768) = false := decide_eq_false (by omega)
  have d6' : decide ((32768 : Int) < (W : Int)) = false := d6
  have d6n : decide (32768 < W) = false := decide_eq_false (by omega)
  clear h3 h4 h5 h6 hsi
  go_enter Tryd.func4, Tryd.ntmps4
  go_wp2_with fail
  refine (unhide HL).mono ?_; rintro e w1 ⟨rfl, hb1⟩
  clear HL
  go_wp2
  clear d1 d1n d2 d2' d2n d3 d3n d4 d4' d4n d5 d5n d6 d6' d6n
  have HB1 := hide hb1
  clear hb1
  go_loop [8, 9] (fun t i => ∃ k : Nat, k ≤ n ∧ i = .int .i64 (k : Int) ∧ t = .string (rept s k)) (fun _ i => n - (intOf i).toNat)
  case atStart => exact ⟨0, by omega, rfl, rfl⟩
  case round =>
    obtain ⟨k, hk, rfl, rfl⟩ := hrel
    obtain ⟨tt, htt⟩ : ∃ tt, tt = rept s k := ⟨_, rfl⟩
    have hts := rept_le s k tt.size (by omega) h2 (by rw [htt])
    by_cases hlt : k < n
    · have g1 : decide ((k : Int) < (n : Int)) = true := decide_eq_true (by omega)
      have hsum : ¬ (9223372036854775807 < tt.size + s.size) := by omega
      have HN : Hid (rept s (k + 1) = tt ++ s) := by show _ = _; rw [htt]; rfl
      rw [← htt]
      clear htt
      go_wp2
      go_round
      case rel => exact ⟨k + 1, by omega, by go_num, by rw [unhide HN]⟩
      case measure => simp [intOf]; omega
    · have : k = n := by omega
      subst this
      have g1 : decide ((k : Int) < (k : Int)) = false := by simp
      have hfew := rept_few s k W hn1 h1 hW1
      rw [← htt] at hfew
      rw [← htt]
      have HFE := hide hfew
      have HS1 := hide ((unhide HS).below (unhide HB1))
      clear htt hfew HS
      by_cases hbig : 3000 < tt.size
      · have g2 : decide ((tt.size : Int) > 3000) = true := decide_eq_true (by omega)
        have g2' : decide ((3000 : Int) < (tt.size : Int)) = true := g2
        have g2n : decide (3000 < tt.size) = true := decide_eq_true (by omega)
        have HX := hide (fewest_out tt W _ w1 (by omega) hbig (by omega) hW2 ((unhide HS1).cell 1 (by omega)))
        go_wp2_with fail
        refine (unhide HX).mono ?_; rintro e w2 ⟨rfl, hb2⟩
        have HB2 := hide ((unhide HB1).trans (hb2.mono (unhide HB1).size))
        have HX := hide (coded_sent 1 2 w2 a ((unhide HS1).below hb2) (by omega) (by decide))
        clear HB1 hb2 HS1
        generalize sentV a 1 = ev at *
        go_wp2_with fail
        refine (unhide HX).mono ?_; rintro e w3 ⟨rfl, hb3⟩
        have HB3 := hide ((unhide HB2).trans (hb3.mono (unhide HB2).size))
        clear HB2 hb3 HX
        go_wp2
        go_ret
        exact ⟨rfl, unhide HB3⟩
      · have g2 : decide ((tt.size : Int) > 3000) = false := decide_eq_false (by omega)
        have g2' : decide ((3000 : Int) < (tt.size : Int)) = false := g2
        have g2n : decide (3000 < tt.size) = false := decide_eq_false (by omega)
        have HX := hide (fewest_in tt W w1 (by omega) (by omega) hW2)
        go_wp2_with fail
        refine (unhide HX).mono ?_; rintro e w2 ⟨m, rfl, hm, hb2⟩
        have HB2 := hide ((unhide HB1).trans (hb2.mono (unhide HB1).size))
        have hm1 : m ≤ s.size + tt.size / 258 + 2 := by
          obtain ⟨c, c1, c2⟩ := unhide HFE
          have := hm.2 c c1
          omega
        have HM := hide hm
        have g3 : decide ((m : Int) > (s.size : Int) + (tt.size : Int) / 258 + 2) = false := decide_eq_false (by omega)
        have g3' : decide ((s.size : Int) + (tt.size : Int) / 258 + 2 < (m : Int)) = false := g3
        have g3n : decide (s.size + tt.size / 258 + 2 < m) = false := decide_eq_false (by omega)
        have HX := hide (tokens_in tt W w2 (by omega) (by omega) hW2)
        clear HB1 hb2 HS1 hm
        go_wp2_with fail
        refine (unhide HX).mono ?_; rintro e w3 ⟨ts, aL, cL, rfl, hcov, _, hb3⟩
        have HB3 := hide ((unhide HB2).trans (hb3.mono (unhide HB2).size))
        have hts2 : ts.length ≤ 2 * m := greedy_twice (unhide HM).1 rfl (Nat.le_refl 0) hcov.all
        obtain ⟨q, hq⟩ : ∃ q, q = ts.length := ⟨_, rfl⟩
        rw [← hq] at hts2 ⊢
        have g4 : decide ((q : Int) ≤ 2 * (m : Int) + 1) = true := decide_eq_true (by omega)
        have g4n : decide (q ≤ 2 * m + 1) = true := decide_eq_true (by omega)
        clear HB2 hb3 HX hcov hq
        go_wp2
        go_ret
        exact ⟨rfl, unhide HB3⟩
end Go.Proofs.YtmmilamaahmaoadDoor
