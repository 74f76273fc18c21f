/- The walk of the statement: tokens of any text mean it, reach back no further than they may, and are not too many. -/
import Derived.Test.YtlnglpphlcebdadDoorMzb
import Derived.Test.YtlnglpphlcebdadDoorMx4
import Derived.Test.YtlnglpphlcebdadDoorSm
import Derived.Test.YtlnglpphlcebdadDoorCoded1
namespace Go.Proofs.YtlnglpphlcebdadDoor
open Go.RowKit Mm

/-- Tokens that cover a text are a way through it. -/
theorem Cov.path {s : ByteArray} {win a : Nat} {ts : List (Nat × Nat × Nat)} (h : Cov s win a ts) : Path (byt s) s.size win 0 a ts.length := by
  induction h with
  | nil => exact .nil _
  | @snoc a l b ts h ha hl ih =>
    rw [List.length_append]
    refine ih.snoc ?_
    rcases hl.good with ⟨q, _⟩ | ⟨g1, g2, g3, g4, g5, g6⟩
    · exact .inl ⟨ha, by omega⟩
    · exact .inr ⟨l, g1, ⟨a - b, by omega, by omega, by omega, by omega, g6⟩, by omega⟩

set_option maxHeartbeats 4000000 in
set_option maxRecDepth 100000 in
theorem matchFinds_any (s : ByteArray) (win : Int) (w : World) (a : Nat → Addr) (hS : Sent w a) (_hs : s.size ≤ maxLen) :
    Calls Tryd.prog 3 #[.string s, .int .i64 win] w fun e w' => e = .returned (.bool true) ∧ Below w.heap.size w w' := by
  have HL := hide (same_any w _ _ (hS.cell 2 (by omega)))
  have HS := hide hS
  clear hS
  by_cases hbig : 400 < s.size
  · have d2 : decide ((s.size : Int) > 400) = true := decide_eq_true (by omega)
    have d2' : decide ((400 : Int) < (s.size : Int)) = true := d2
    have d2n : decide (400 < s.size) = true := decide_eq_true hbig
    go_enter Tryd.func3, Tryd.ntmps3
    go_wp2_with fail
    refine (unhide HL).mono ?_; rintro e w1 ⟨rfl, hb1⟩
    clear HL
    go_wp2
    go_ret
    exact ⟨rfl, hb1⟩
  have hs4 : s.size ≤ 400 := by omega
  have d2 : decide ((s.size : Int) > 400) = false := decide_eq_false (by omega)
  have d2' : decide ((400 : Int) < (s.size : Int)) = false := d2
  have d2n : decide (400 < s.size) = false := decide_eq_false hbig
  clear hbig
  by_cases hz : win < 1 ∨ 32768 < win
  · go_enter Tryd.func3, Tryd.ntmps3
    go_wp2_with fail
    refine (unhide HL).mono ?_; rintro e w1 ⟨rfl, hb1⟩
    have HB1 := hide hb1
    have HS1 := hide ((unhide HS).below hb1)
    have HX := hide (tokens_no s win _ w1 (by omega) hz ((unhide HS1).cell 1 (by omega)))
    clear HL hb1 HS
    go_wp2_with fail
    refine (unhide HX).mono ?_; rintro e w2 ⟨rfl, hb2⟩
    have HB2 := hide ((unhide HB1).trans (hb2.mono (unhide HB1).size))
    have HS2 := hide ((unhide HS1).below hb2)
    have HX := hide (fewest_no s win _ w2 (by omega) hz ((unhide HS2).cell 1 (by omega)))
    clear HB1 hb2 HS1
    go_wp2_with fail
    refine (unhide HX).mono ?_; rintro e w3 ⟨rfl, hb3⟩
    have HB3 := hide ((unhide HB2).trans (hb3.mono (unhide HB2).size))
    have HS3 := hide ((unhide HS2).below hb3)
    have HX := hide (coded_sent 1 2 w3 a (unhide HS3) (by omega) (by decide))
    have HC2 := hide (fun w4 (hb : Below w3.heap.size w3 w4) => coded_sent 1 2 w4 a ((unhide HS3).below hb) (by omega) (by decide))
    clear HB2 hb3 HS2 HS3
    generalize sentV a 1 = ev at *
    have hgo : ∃ b1 b2 : Bool, decide (win < 1) = b1 ∧ (b1 = false → decide (win > 32768) = true) := by
      by_cases q : win < 1
      · exact ⟨true, true, decide_eq_true q, fun z => by cases z⟩
      · exact ⟨false, true, decide_eq_false q, fun _ => decide_eq_true (by omega)⟩
    by_cases q : win < 1
    · have d3 : decide (win < 1) = true := decide_eq_true q
      clear hz hgo
      go_wp2_with fail
      refine (unhide HX).mono ?_; rintro e w4 ⟨rfl, hb4⟩
      have HB4 := hide ((unhide HB3).trans (hb4.mono (unhide HB3).size))
      have HX := hide (unhide HC2 w4 hb4)
      clear HB3 hb4 HC2
      go_wp2_with fail
      refine (unhide HX).mono ?_; rintro e w5 ⟨rfl, hb5⟩
      have HB5 := hide ((unhide HB4).trans (hb5.mono (unhide HB4).size))
      clear HB4 hb5 HX
      go_wp2
      go_ret
      exact ⟨rfl, unhide HB5⟩
    · have d3 : decide (win < 1) = false := decide_eq_false q
      have d4 : decide (win > 32768) = true := decide_eq_true (by omega)
      have d4' : decide ((32768 : Int) < win) = true := d4
      clear hz hgo
      go_wp2_with fail
      refine (unhide HX).mono ?_; rintro e w4 ⟨rfl, hb4⟩
      have HB4 := hide ((unhide HB3).trans (hb4.mono (unhide HB3).size))
      have HX := hide (unhide HC2 w4 hb4)
      clear HB3 hb4 HC2
      go_wp2_with fail
      refine (unhide HX).mono ?_; rintro e w5 ⟨rfl, hb5⟩
      have HB5 := hide ((unhide HB4).trans (hb5.mono (unhide HB4).size))
      clear HB4 hb5 HX
      go_wp2
      go_ret
      exact ⟨rfl, unhide HB5⟩
  obtain ⟨W, rfl⟩ := Int.eq_ofNat_of_zero_le (show (0 : Int) ≤ win by omega)
  have h1 : 1 ≤ W := by omega
  have h2 : W ≤ 32768 := by omega
  have d3 : decide ((W : Int) < 1) = false := decide_eq_false (by omega)
  have d3n : decide (W < 1) = false := decide_eq_false (by omega)
  have d4 : decide ((W : Int) > 32768) = false := decide_eq_false (by omega)
  have d4' : decide ((32768 : Int) < (W : Int)) = false := d4
  have d4n : decide (32768 < W) = false := decide_eq_false (by omega)
  clear hz
  go_enter Tryd.func3, Tryd.ntmps3
  go_wp2_with fail
  refine (unhide HL).mono ?_; rintro e w1 ⟨rfl, hb1⟩
  have HB1 := hide hb1
  have HX := hide (tokens_in s W w1 (by omega) h1 h2)
  clear HL hb1 HS
  go_wp2_with fail
  refine (unhide HX).mono ?_; rintro e w2 ⟨ts, aL, cL, rfl, hcov, hrow, hb2⟩
  have HB2 := hide ((unhide HB1).trans (hb2.mono (unhide HB1).size))
  have HCV := hide hcov
  obtain ⟨_, hmean, hall⟩ := hcov.means h2
  have hfew := hcov.few
  have hgood : ∀ j, j < ts.length → (tks ts).good j := fun j hj => (hall j hj).1
  have hfar : ∀ j, j < ts.length → (tks ts).d j ≤ (W : Int) := fun j hj => (hall j hj).2.1
  have hT : IsTokens w2 aL ts.length (tks ts) := row_tokens hrow (by omega) (fun i hi => by
    obtain ⟨⟨g1, g2⟩, g3, g4⟩ := hall i hi
    refine ⟨g4, ?_, by omega⟩
    unfold Tks.shaped at g1
    split at g1 <;> omega)
  have hout : (⟨((tks ts).out ts.length).toArray⟩ : ByteArray) = s := by
    rw [hmean, show s.data.toList.take s.size = s.data.toList from List.take_of_length_le (Nat.le_of_eq Array.length_toList)]
  have hsm : ∀ i, i ≤ ts.length → (∀ j, j < i → (tks ts).good j) → ((tks ts).out i).length ≤ 300000 := fun i hi hg => by
    have q1 := (tks ts).out_le (fun j hj => (hg j hj).1)
    have q2 := (tks ts).wide_le i
    omega
  have HSM := hide hsm
  have HT := hide hT
  have HG := hide hgood
  have HFR := hide hfar
  have HO := hide hout
  have HX := hide (fewest_in s W w2 (by omega) h1 h2)
  obtain ⟨q, hq⟩ : ∃ q, q = ts.length := ⟨_, rfl⟩
  rw [← hq] at HT HG HFR HO HSM hfew ⊢
  have Hq := hide hq
  clear hq hcov hrow hmean hall hgood hfar hT hout hsm HB1 hb2
  go_wp2_with fail
  refine (unhide HX).mono ?_; rintro e w3 ⟨n, rfl, hn, hb3⟩
  have HB3 := hide ((unhide HB2).trans (hb3.mono (unhide HB2).size))
  have HT3 := hide ((unhide HT).below hb3)
  have HLN := hide hn
  have HX := hide (expandOf_any aL q cL (tks ts) w3 (unhide HT3) (by omega) (unhide HSM))
  clear HB2 hb3 HT hn HSM
  go_wp2_with fail
  refine (unhide HX).mono ?_
  rintro e w4 (⟨_, rfl, hb4⟩ | ⟨j, hj, _, hbad, _, _⟩)
  rotate_left
  · exact absurd (unhide HG j hj) hbad
  rw [unhide HO]
  have HB4 := hide ((unhide HB3).trans (hb4.mono (unhide HB3).size))
  have HT4 := hide ((unhide HT3).below hb4)
  have HB4' := hide ((unhide HB4).alloc (unhide HB4).size (.cells #[.int .i64 0, .int .i64 (-1)] 32))
  have HT4' : Hid (IsTokens (w4.alloc (.cells #[.int .i64 0, .int .i64 (-1)] 32)) aL q (tks ts)) := (unhide HT4).below ((Below.refl _ _).alloc (Nat.le_refl _) _)
  clear HB3 hb4 HT3 HX HO HG HB4 HT4
  go_wp2
  generalize w4.alloc (.cells #[.int .i64 0, .int .i64 (-1)] 32) = w5 at *
  go_loop [12] (fun v => ∃ i : Nat, i ≤ q ∧ v = .int .i64 (i : Int)) (fun v => q - (intOf v).toNat)
  case atStart => exact ⟨0, by omega, rfl⟩
  case round =>
    obtain ⟨i, hi, rfl⟩ := hrel
    by_cases hlt : i < q
    · have g1 : decide ((i : Int) < (q : Int)) = true := decide_eq_true (by omega)
      have g1n : decide (i < q) = true := decide_eq_true hlt
      have hii : (i : Int) < (q : Int) := by omega
      have hqm : q ≤ 400 := by omega
      rcases unhide HT4' with h0 | ⟨b, off, rfl, hml, hcell⟩
      · omega
      have c2 := (hcell i hlt).2.2.1
      have hfr := unhide HFR i hlt
      have g2 : decide ((tks ts).d i > (W : Int)) = false := decide_eq_false (by omega)
      have g2' : decide ((W : Int) < (tks ts).d i) = false := g2
      generalize (tks ts).d i = dd at *
      clear hcell hfr hml
      go_wp2
      go_round
      case rel => exact ⟨i + 1, by omega, by go_num⟩
      case measure => simp [intOf]; omega
    · obtain rfl : i = q := by omega
      have g1 : decide ((i : Int) < (i : Int)) = false := by simp
      have HX := hide (fewestOf_any s W w5 hs4)
      go_wp2_with fail
      refine (unhide HX).mono ?_; rintro e w6 ⟨n2, rfl, hn2, hb6⟩
      obtain rfl := (unhide HLN).unique hn2
      have hpath := (unhide HCV).path
      have hts2 : ts.length ≤ 2 * n := greedy_twice (unhide HLN).1 rfl (Nat.le_refl 0) (unhide HCV).all
      have hts3 := (unhide HLN).2 _ hpath
      rw [← unhide Hq] at hts2 hts3
      have g2 : decide ((i : Int) ≥ (n : Int)) = true := decide_eq_true (by omega)
      have g2' : decide ((n : Int) ≤ (i : Int)) = true := g2
      have g2n : decide (n ≤ i) = true := decide_eq_true (by omega)
      have g3 : decide ((i : Int) ≤ 2 * (n : Int) + 1) = true := decide_eq_true (by omega)
      have g3n : decide (i ≤ 2 * n + 1) = true := decide_eq_true (by omega)
      have hn4 : n ≤ 400 := by omega
      have HB6 := hide ((unhide HB4').trans (hb6.mono (unhide HB4').size))
      clear HX hb6 hpath hts2 hts3 HB4' hn2
      go_wp2
      go_ret
      exact ⟨rfl, unhide HB6⟩
end Go.Proofs.YtlnglpphlcebdadDoor
