/- The statement on rows: the walk. -/
import Derived.Test.YtmmilamaahmaoaeDoorFlA
import Derived.Test.YtmmilamaahmaoaeDoorFlB
import Derived.Test.YtmmilamaahmaoaeDoorFlC
namespace Go.Proofs.YtmmilamaahmaoaeDoor
open Go.RowKit

set_option maxHeartbeats 2000000 in
set_option maxRecDepth 100000 in
theorem filterDoes_any (z : Int) (row ahead : ByteArray) (st : Int) (w : World) (a : Nat → Addr) (hS : Sent w a) (_hr : row.size ≤ maxLen) (_ha : ahead.size ≤ maxLen) :
    Calls Tryd.prog 7 #[.int .i64 z, .string row, .string ahead, .int .i64 st] w fun e w' => e = .returned (.bool true) ∧ Below w.heap.size w w' := by
  by_cases h0 : row.size ≤ 300
  rotate_left
  · have HL := hide (less_any w a hS)
    have g1 : decide ((row.size : Int) > 300) = true := by simp; omega
    have g1' : decide ((300 : Int) < (row.size : Int)) = true := g1
    have g1n : decide (300 < row.size) = true := by simp; omega
    clear hS
    go_enter Tryd.func7, Tryd.ntmps7
    go_wp2_with fail
    refine (unhide HL).mono ?_; rintro e w1 ⟨rfl, hb1⟩
    go_wp2
    go_ret
    exact ⟨rfl, hb1⟩
  by_cases h00 : ahead.size ≤ 300
  rotate_left
  · have HL := hide (less_any w a hS)
    have g1 : decide ((row.size : Int) > 300) = false := by simp; omega
    have g1' : decide ((300 : Int) < (row.size : Int)) = false := g1
    have g1n : decide (300 < row.size) = false := by simp; omega
    have g2 : decide ((ahead.size : Int) > 300) = true := by simp; omega
    have g2' : decide ((300 : Int) < (ahead.size : Int)) = true := g2
    have g2n : decide (300 < ahead.size) = true := by simp; omega
    clear hS
    go_enter Tryd.func7, Tryd.ntmps7
    go_wp2_with fail
    refine (unhide HL).mono ?_; rintro e w1 ⟨rfl, hb1⟩
    go_wp2
    go_ret
    exact ⟨rfl, hb1⟩
  rcases (by omega : st < 1 ∨ 8 < st ∨ (1 ≤ st ∧ st ≤ 8)) with h1 | h1 | h1
  · rcases (by omega : z < 0 ∨ 4 < z ∨ (0 ≤ z ∧ z < 5)) with h2 | h2 | h2
    · rcases (by omega : ahead.size = 0 ∨ (0 < ahead.size ∧ ahead.size = row.size) ∨ (0 < ahead.size ∧ ahead.size ≠ row.size)) with h3 | ⟨h3, h4⟩ | ⟨h3, h4⟩
      · exact fd_blank_lo_neg z st row ahead h3 w a hS h1 h2 h0 h00
      · exact fd_eq_lo_neg z st row ahead h3 h4 w a hS h1 h2 h0 h00
      · exact fd_diff_lo_neg z st row ahead h3 h4 w a hS h1 h2 h0 h00
    · rcases (by omega : ahead.size = 0 ∨ (0 < ahead.size ∧ ahead.size = row.size) ∨ (0 < ahead.size ∧ ahead.size ≠ row.size)) with h3 | ⟨h3, h4⟩ | ⟨h3, h4⟩
      · exact fd_blank_lo_big z st row ahead h3 w a hS h1 h2 h0 h00
      · exact fd_eq_lo_big z st row ahead h3 h4 w a hS h1 h2 h0 h00
      · exact fd_diff_lo_big z st row ahead h3 h4 w a hS h1 h2 h0 h00
    · rcases (by omega : ahead.size = 0 ∨ (0 < ahead.size ∧ ahead.size = row.size) ∨ (0 < ahead.size ∧ ahead.size ≠ row.size)) with h3 | ⟨h3, h4⟩ | ⟨h3, h4⟩
      · exact fd_blank_lo_ok z st row ahead h3 w a hS h1 h2 h0 h00
      · exact fd_eq_lo_ok z st row ahead h3 h4 w a hS h1 h2 h0 h00
      · exact fd_diff_lo_ok z st row ahead h3 h4 w a hS h1 h2 h0 h00
  · rcases (by omega : z < 0 ∨ 4 < z ∨ (0 ≤ z ∧ z < 5)) with h2 | h2 | h2
    · rcases (by omega : ahead.size = 0 ∨ (0 < ahead.size ∧ ahead.size = row.size) ∨ (0 < ahead.size ∧ ahead.size ≠ row.size)) with h3 | ⟨h3, h4⟩ | ⟨h3, h4⟩
      · exact fd_blank_hi_neg z st row ahead h3 w a hS h1 h2 h0 h00
      · exact fd_eq_hi_neg z st row ahead h3 h4 w a hS h1 h2 h0 h00
      · exact fd_diff_hi_neg z st row ahead h3 h4 w a hS h1 h2 h0 h00
    · rcases (by omega : ahead.size = 0 ∨ (0 < ahead.size ∧ ahead.size = row.size) ∨ (0 < ahead.size ∧ ahead.size ≠ row.size)) with h3 | ⟨h3, h4⟩ | ⟨h3, h4⟩
      · exact fd_blank_hi_big z st row ahead h3 w a hS h1 h2 h0 h00
      · exact fd_eq_hi_big z st row ahead h3 h4 w a hS h1 h2 h0 h00
      · exact fd_diff_hi_big z st row ahead h3 h4 w a hS h1 h2 h0 h00
    · rcases (by omega : ahead.size = 0 ∨ (0 < ahead.size ∧ ahead.size = row.size) ∨ (0 < ahead.size ∧ ahead.size ≠ row.size)) with h3 | ⟨h3, h4⟩ | ⟨h3, h4⟩
      · exact fd_blank_hi_ok z st row ahead h3 w a hS h1 h2 h0 h00
      · exact fd_eq_hi_ok z st row ahead h3 h4 w a hS h1 h2 h0 h00
      · exact fd_diff_hi_ok z st row ahead h3 h4 w a hS h1 h2 h0 h00
  · rcases (by omega : z < 0 ∨ 4 < z ∨ (0 ≤ z ∧ z < 5)) with h2 | h2 | h2
    · rcases (by omega : ahead.size = 0 ∨ (0 < ahead.size ∧ ahead.size = row.size) ∨ (0 < ahead.size ∧ ahead.size ≠ row.size)) with h3 | ⟨h3, h4⟩ | ⟨h3, h4⟩
      · exact fd_blank_ok_neg z st row ahead h3 w a hS h1 h2 h0 h00
      · exact fd_eq_ok_neg z st row ahead h3 h4 w a hS h1 h2 h0 h00
      · exact fd_diff_ok_neg z st row ahead h3 h4 w a hS h1 h2 h0 h00
    · rcases (by omega : ahead.size = 0 ∨ (0 < ahead.size ∧ ahead.size = row.size) ∨ (0 < ahead.size ∧ ahead.size ≠ row.size)) with h3 | ⟨h3, h4⟩ | ⟨h3, h4⟩
      · exact fd_blank_ok_big z st row ahead h3 w a hS h1 h2 h0 h00
      · exact fd_eq_ok_big z st row ahead h3 h4 w a hS h1 h2 h0 h00
      · exact fd_diff_ok_big z st row ahead h3 h4 w a hS h1 h2 h0 h00
    · rcases (by omega : ahead.size = 0 ∨ (0 < ahead.size ∧ ahead.size = row.size) ∨ (0 < ahead.size ∧ ahead.size ≠ row.size)) with h3 | ⟨h3, h4⟩ | ⟨h3, h4⟩
      · exact fd_blank_ok_ok z st row ahead h3 w a hS h1 h2 h0 h00
      · exact fd_eq_ok_ok z st row ahead h3 h4 w a hS h1 h2 h0 h00
      · exact fd_diff_ok_ok z st row ahead h3 h4 w a hS h1 h2 h0 h00
end Go.Proofs.YtmmilamaahmaoaeDoor
