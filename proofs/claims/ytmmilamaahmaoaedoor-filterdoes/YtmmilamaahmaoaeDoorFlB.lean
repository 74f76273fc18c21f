/- The statement on rows: a case a theorem. -/
import Derived.Test.YtmmilamaahmaoaeDoorFl0
namespace Go.Proofs.YtmmilamaahmaoaeDoor
open Go.RowKit

set_option maxHeartbeats 4000000 in
set_option maxRecDepth 100000 in
theorem fd_eq_lo_neg (z st : Int) (row : ByteArray) (ahead : ByteArray) (h3 : 0 < ahead.size) (h4 : ahead.size = row.size) (w : World) (a : Nat → Addr) (hS : Sent w a) (h1 : st < 1) (h2 : z < 0) (hr : row.size ≤ 300) (ha : ahead.size ≤ 300) :
    Calls Tryd.prog 7 #[.int .i64 z, .string row, .string ahead, .int .i64 st] w fun e w' => e = .returned (.bool true) ∧ Below w.heap.size w w' := by
  have e0 : chk 0 row ahead st = .bound := by unfold chk; rw [if_pos (.inr (by omega))]
  have e1 : chk z row ahead st = .bound := by unfold chk; rw [if_pos (.inl (by omega))]
  have HD := hide (fun w' (hb : Below w.heap.size w w') => Do_sent z st row ahead w' a (hS.below hb) (by omega))
  have HU := hide (fun w' (hb : Below w.heap.size w w') => Undo_sent z st row ahead w' a (hS.below hb) (by omega))
  have HT := hide (fun w' (hb : Below w.heap.size w w') => Best_sent st row ahead w' a (hS.below hb) (by omega))
  have HL := hide (less_any w a hS)
  rw [e1] at HD HU
  rw [e0] at HT
  unfold doV at HD HU
  unfold bestV at HT
  dsimp only at HD HU HT
  have HK0 := hide (fun w' (hb : Below w.heap.size w w') => coded_sent 1 2 w' a (hS.below hb) (by omega) (by decide))
  have HK1 := hide (fun w' (hb : Below w.heap.size w w') => coded_sent 1 2 w' a (hS.below hb) (by omega) (by decide))
  generalize sentV a 1 = x1 at *
  have g1 : decide ((row.size : Int) > 300) = false := by simp; omega
  have g1n : decide (300 < row.size) = false := by simp; omega
  have g2 : decide ((ahead.size : Int) > 300) = false := by simp; omega
  have g2n : decide (300 < ahead.size) = false := by simp; omega
  have g1i : decide ((300 : Int) < (row.size : Int)) = false := g1
  have g2i : decide ((300 : Int) < (ahead.size : Int)) = false := g2
  have t1 : decide (st < 1) = true := by simp; omega
  have u1 : decide (z < 0) = true := by simp; omega
  obtain ⟨b1, b2, b3⟩ := not_blankF ahead h3
  have q1 : ((ahead.size : Int) == (row.size : Int)) = true := by simp [h4]
  have q2 : ((ahead.size : Int) != (row.size : Int)) = false := by simp [h4]
  clear hS h1 h2 h3 hr ha e0 e1 h4
  go_enter Tryd.func7, Tryd.ntmps7
  go_wp2_with fail
  refine (unhide HL).mono ?_; rintro e w1 ⟨rfl, hb1⟩
  have HB1 := hide hb1
  clear HL hb1
  have HX := hide (unhide HD w1 (unhide HB1))
  go_wp2_with fail
  refine (unhide HX).mono ?_; rintro e w2 ⟨rfl, hb2⟩
  have HB2 := hide ((unhide HB1).trans (hb2.mono (unhide HB1).size))
  clear HX HB1 hb2
  have HX := hide (unhide HU w2 (unhide HB2))
  go_wp2_with fail
  refine (unhide HX).mono ?_; rintro e w3 ⟨rfl, hb3⟩
  have HB3 := hide ((unhide HB2).trans (hb3.mono (unhide HB2).size))
  clear HX HB2 hb3
  have HX := hide (unhide HT w3 (unhide HB3))
  go_wp2_with fail
  refine (unhide HX).mono ?_; rintro e w4 ⟨rfl, hb4⟩
  have HB4 := hide ((unhide HB3).trans (hb4.mono (unhide HB3).size))
  clear HX HB3 hb4
  have HX := hide (unhide HK0 w4 (unhide HB4))
  go_wp2_with fail
  refine (unhide HX).mono ?_; rintro e w5 ⟨rfl, hb5⟩
  have HB5 := hide ((unhide HB4).trans (hb5.mono (unhide HB4).size))
  clear HX HB4 hb5
  have HX := hide (unhide HK1 w5 (unhide HB5))
  go_wp2_with fail
  refine (unhide HX).mono ?_; rintro e w6 ⟨rfl, hb6⟩
  have HB6 := hide ((unhide HB5).trans (hb6.mono (unhide HB5).size))
  clear HX HB5 hb6
  have HX := hide (unhide HK1 w6 (unhide HB6))
  go_wp2_with fail
  refine (unhide HX).mono ?_; rintro e w7 ⟨rfl, hb7⟩
  have HB7 := hide ((unhide HB6).trans (hb7.mono (unhide HB6).size))
  clear HX HB6 hb7
  go_wp2
  go_ret
  exact ⟨rfl, unhide HB7⟩

set_option maxHeartbeats 4000000 in
set_option maxRecDepth 100000 in
theorem fd_eq_lo_big (z st : Int) (row : ByteArray) (ahead : ByteArray) (h3 : 0 < ahead.size) (h4 : ahead.size = row.size) (w : World) (a : Nat → Addr) (hS : Sent w a) (h1 : st < 1) (h2 : 4 < z) (hr : row.size ≤ 300) (ha : ahead.size ≤ 300) :
    Calls Tryd.prog 7 #[.int .i64 z, .string row, .string ahead, .int .i64 st] w fun e w' => e = .returned (.bool true) ∧ Below w.heap.size w w' := by
  have e0 : chk 0 row ahead st = .bound := by unfold chk; rw [if_pos (.inr (by omega))]
  have e1 : chk z row ahead st = .bound := by unfold chk; rw [if_pos (.inl (by omega))]
  have HD := hide (fun w' (hb : Below w.heap.size w w') => Do_sent z st row ahead w' a (hS.below hb) (by omega))
  have HU := hide (fun w' (hb : Below w.heap.size w w') => Undo_sent z st row ahead w' a (hS.below hb) (by omega))
  have HT := hide (fun w' (hb : Below w.heap.size w w') => Best_sent st row ahead w' a (hS.below hb) (by omega))
  have HL := hide (less_any w a hS)
  rw [e1] at HD HU
  rw [e0] at HT
  unfold doV at HD HU
  unfold bestV at HT
  dsimp only at HD HU HT
  have HK0 := hide (fun w' (hb : Below w.heap.size w w') => coded_sent 1 2 w' a (hS.below hb) (by omega) (by decide))
  have HK1 := hide (fun w' (hb : Below w.heap.size w w') => coded_sent 1 2 w' a (hS.below hb) (by omega) (by decide))
  generalize sentV a 1 = x1 at *
  have g1 : decide ((row.size : Int) > 300) = false := by simp; omega
  have g1n : decide (300 < row.size) = false := by simp; omega
  have g2 : decide ((ahead.size : Int) > 300) = false := by simp; omega
  have g2n : decide (300 < ahead.size) = false := by simp; omega
  have g1i : decide ((300 : Int) < (row.size : Int)) = false := g1
  have g2i : decide ((300 : Int) < (ahead.size : Int)) = false := g2
  have t1 : decide (st < 1) = true := by simp; omega
  have u1 : decide (z < 0) = false := by simp; omega
  have u2 : decide (z > 4) = true := by simp; omega
  have u2i : decide (4 < z) = true := u2
  obtain ⟨b1, b2, b3⟩ := not_blankF ahead h3
  have q1 : ((ahead.size : Int) == (row.size : Int)) = true := by simp [h4]
  have q2 : ((ahead.size : Int) != (row.size : Int)) = false := by simp [h4]
  clear hS h1 h2 h3 hr ha e0 e1 h4
  go_enter Tryd.func7, Tryd.ntmps7
  go_wp2_with fail
  refine (unhide HL).mono ?_; rintro e w1 ⟨rfl, hb1⟩
  have HB1 := hide hb1
  clear HL hb1
  have HX := hide (unhide HD w1 (unhide HB1))
  go_wp2_with fail
  refine (unhide HX).mono ?_; rintro e w2 ⟨rfl, hb2⟩
  have HB2 := hide ((unhide HB1).trans (hb2.mono (unhide HB1).size))
  clear HX HB1 hb2
  have HX := hide (unhide HU w2 (unhide HB2))
  go_wp2_with fail
  refine (unhide HX).mono ?_; rintro e w3 ⟨rfl, hb3⟩
  have HB3 := hide ((unhide HB2).trans (hb3.mono (unhide HB2).size))
  clear HX HB2 hb3
  have HX := hide (unhide HT w3 (unhide HB3))
  go_wp2_with fail
  refine (unhide HX).mono ?_; rintro e w4 ⟨rfl, hb4⟩
  have HB4 := hide ((unhide HB3).trans (hb4.mono (unhide HB3).size))
  clear HX HB3 hb4
  have HX := hide (unhide HK0 w4 (unhide HB4))
  go_wp2_with fail
  refine (unhide HX).mono ?_; rintro e w5 ⟨rfl, hb5⟩
  have HB5 := hide ((unhide HB4).trans (hb5.mono (unhide HB4).size))
  clear HX HB4 hb5
  have HX := hide (unhide HK1 w5 (unhide HB5))
  go_wp2_with fail
  refine (unhide HX).mono ?_; rintro e w6 ⟨rfl, hb6⟩
  have HB6 := hide ((unhide HB5).trans (hb6.mono (unhide HB5).size))
  clear HX HB5 hb6
  have HX := hide (unhide HK1 w6 (unhide HB6))
  go_wp2_with fail
  refine (unhide HX).mono ?_; rintro e w7 ⟨rfl, hb7⟩
  have HB7 := hide ((unhide HB6).trans (hb7.mono (unhide HB6).size))
  clear HX HB6 hb7
  go_wp2
  go_ret
  exact ⟨rfl, unhide HB7⟩

set_option maxHeartbeats 4000000 in
set_option maxRecDepth 100000 in
theorem fd_eq_lo_ok (z st : Int) (row : ByteArray) (ahead : ByteArray) (h3 : 0 < ahead.size) (h4 : ahead.size = row.size) (w : World) (a : Nat → Addr) (hS : Sent w a) (h1 : st < 1) (h2 : 0 ≤ z ∧ z < 5) (hr : row.size ≤ 300) (ha : ahead.size ≤ 300) :
    Calls Tryd.prog 7 #[.int .i64 z, .string row, .string ahead, .int .i64 st] w fun e w' => e = .returned (.bool true) ∧ Below w.heap.size w w' := by
  have e0 : chk 0 row ahead st = .bound := by unfold chk; rw [if_pos (.inr (by omega))]
  have e1 : chk z row ahead st = .bound := by unfold chk; rw [if_pos (.inr (by omega))]
  have HD := hide (fun w' (hb : Below w.heap.size w w') => Do_sent z st row ahead w' a (hS.below hb) (by omega))
  have HU := hide (fun w' (hb : Below w.heap.size w w') => Undo_sent z st row ahead w' a (hS.below hb) (by omega))
  have HT := hide (fun w' (hb : Below w.heap.size w w') => Best_sent st row ahead w' a (hS.below hb) (by omega))
  have HL := hide (less_any w a hS)
  rw [e1] at HD HU
  rw [e0] at HT
  unfold doV at HD HU
  unfold bestV at HT
  dsimp only at HD HU HT
  have HK0 := hide (fun w' (hb : Below w.heap.size w w') => coded_sent 1 2 w' a (hS.below hb) (by omega) (by decide))
  have HK1 := hide (fun w' (hb : Below w.heap.size w w') => coded_sent 1 2 w' a (hS.below hb) (by omega) (by decide))
  generalize sentV a 1 = x1 at *
  have g1 : decide ((row.size : Int) > 300) = false := by simp; omega
  have g1n : decide (300 < row.size) = false := by simp; omega
  have g2 : decide ((ahead.size : Int) > 300) = false := by simp; omega
  have g2n : decide (300 < ahead.size) = false := by simp; omega
  have g1i : decide ((300 : Int) < (row.size : Int)) = false := g1
  have g2i : decide ((300 : Int) < (ahead.size : Int)) = false := g2
  have t1 : decide (st < 1) = true := by simp; omega
  have u1 : decide (z < 0) = false := by simp; omega
  have u2 : decide (z > 4) = false := by simp; omega
  have u2i : decide (4 < z) = false := u2
  obtain ⟨b1, b2, b3⟩ := not_blankF ahead h3
  have q1 : ((ahead.size : Int) == (row.size : Int)) = true := by simp [h4]
  have q2 : ((ahead.size : Int) != (row.size : Int)) = false := by simp [h4]
  clear hS h1 h2 h3 hr ha e0 e1 h4
  go_enter Tryd.func7, Tryd.ntmps7
  go_wp2_with fail
  refine (unhide HL).mono ?_; rintro e w1 ⟨rfl, hb1⟩
  have HB1 := hide hb1
  clear HL hb1
  have HX := hide (unhide HD w1 (unhide HB1))
  go_wp2_with fail
  refine (unhide HX).mono ?_; rintro e w2 ⟨rfl, hb2⟩
  have HB2 := hide ((unhide HB1).trans (hb2.mono (unhide HB1).size))
  clear HX HB1 hb2
  have HX := hide (unhide HU w2 (unhide HB2))
  go_wp2_with fail
  refine (unhide HX).mono ?_; rintro e w3 ⟨rfl, hb3⟩
  have HB3 := hide ((unhide HB2).trans (hb3.mono (unhide HB2).size))
  clear HX HB2 hb3
  have HX := hide (unhide HT w3 (unhide HB3))
  go_wp2_with fail
  refine (unhide HX).mono ?_; rintro e w4 ⟨rfl, hb4⟩
  have HB4 := hide ((unhide HB3).trans (hb4.mono (unhide HB3).size))
  clear HX HB3 hb4
  have HX := hide (unhide HK0 w4 (unhide HB4))
  go_wp2_with fail
  refine (unhide HX).mono ?_; rintro e w5 ⟨rfl, hb5⟩
  have HB5 := hide ((unhide HB4).trans (hb5.mono (unhide HB4).size))
  clear HX HB4 hb5
  have HX := hide (unhide HK1 w5 (unhide HB5))
  go_wp2_with fail
  refine (unhide HX).mono ?_; rintro e w6 ⟨rfl, hb6⟩
  have HB6 := hide ((unhide HB5).trans (hb6.mono (unhide HB5).size))
  clear HX HB5 hb6
  have HX := hide (unhide HK1 w6 (unhide HB6))
  go_wp2_with fail
  refine (unhide HX).mono ?_; rintro e w7 ⟨rfl, hb7⟩
  have HB7 := hide ((unhide HB6).trans (hb7.mono (unhide HB6).size))
  clear HX HB6 hb7
  go_wp2
  go_ret
  exact ⟨rfl, unhide HB7⟩

set_option maxHeartbeats 4000000 in
set_option maxRecDepth 100000 in
theorem fd_eq_hi_neg (z st : Int) (row : ByteArray) (ahead : ByteArray) (h3 : 0 < ahead.size) (h4 : ahead.size = row.size) (w : World) (a : Nat → Addr) (hS : Sent w a) (h1 : 8 < st) (h2 : z < 0) (hr : row.size ≤ 300) (ha : ahead.size ≤ 300) :
    Calls Tryd.prog 7 #[.int .i64 z, .string row, .string ahead, .int .i64 st] w fun e w' => e = .returned (.bool true) ∧ Below w.heap.size w w' := by
  have e0 : chk 0 row ahead st = .bound := by unfold chk; rw [if_pos (.inr (by omega))]
  have e1 : chk z row ahead st = .bound := by unfold chk; rw [if_pos (.inl (by omega))]
  have HD := hide (fun w' (hb : Below w.heap.size w w') => Do_sent z st row ahead w' a (hS.below hb) (by omega))
  have HU := hide (fun w' (hb : Below w.heap.size w w') => Undo_sent z st row ahead w' a (hS.below hb) (by omega))
  have HT := hide (fun w' (hb : Below w.heap.size w w') => Best_sent st row ahead w' a (hS.below hb) (by omega))
  have HL := hide (less_any w a hS)
  rw [e1] at HD HU
  rw [e0] at HT
  unfold doV at HD HU
  unfold bestV at HT
  dsimp only at HD HU HT
  have HK0 := hide (fun w' (hb : Below w.heap.size w w') => coded_sent 1 2 w' a (hS.below hb) (by omega) (by decide))
  have HK1 := hide (fun w' (hb : Below w.heap.size w w') => coded_sent 1 2 w' a (hS.below hb) (by omega) (by decide))
  generalize sentV a 1 = x1 at *
  have g1 : decide ((row.size : Int) > 300) = false := by simp; omega
  have g1n : decide (300 < row.size) = false := by simp; omega
  have g2 : decide ((ahead.size : Int) > 300) = false := by simp; omega
  have g2n : decide (300 < ahead.size) = false := by simp; omega
  have g1i : decide ((300 : Int) < (row.size : Int)) = false := g1
  have g2i : decide ((300 : Int) < (ahead.size : Int)) = false := g2
  have t1 : decide (st < 1) = false := by simp; omega
  have t2 : decide (st > 8) = true := by simp; omega
  have t2i : decide (8 < st) = true := t2
  have u1 : decide (z < 0) = true := by simp; omega
  obtain ⟨b1, b2, b3⟩ := not_blankF ahead h3
  have q1 : ((ahead.size : Int) == (row.size : Int)) = true := by simp [h4]
  have q2 : ((ahead.size : Int) != (row.size : Int)) = false := by simp [h4]
  clear hS h1 h2 h3 hr ha e0 e1 h4
  go_enter Tryd.func7, Tryd.ntmps7
  go_wp2_with fail
  refine (unhide HL).mono ?_; rintro e w1 ⟨rfl, hb1⟩
  have HB1 := hide hb1
  clear HL hb1
  have HX := hide (unhide HD w1 (unhide HB1))
  go_wp2_with fail
  refine (unhide HX).mono ?_; rintro e w2 ⟨rfl, hb2⟩
  have HB2 := hide ((unhide HB1).trans (hb2.mono (unhide HB1).size))
  clear HX HB1 hb2
  have HX := hide (unhide HU w2 (unhide HB2))
  go_wp2_with fail
  refine (unhide HX).mono ?_; rintro e w3 ⟨rfl, hb3⟩
  have HB3 := hide ((unhide HB2).trans (hb3.mono (unhide HB2).size))
  clear HX HB2 hb3
  have HX := hide (unhide HT w3 (unhide HB3))
  go_wp2_with fail
  refine (unhide HX).mono ?_; rintro e w4 ⟨rfl, hb4⟩
  have HB4 := hide ((unhide HB3).trans (hb4.mono (unhide HB3).size))
  clear HX HB3 hb4
  have HX := hide (unhide HK0 w4 (unhide HB4))
  go_wp2_with fail
  refine (unhide HX).mono ?_; rintro e w5 ⟨rfl, hb5⟩
  have HB5 := hide ((unhide HB4).trans (hb5.mono (unhide HB4).size))
  clear HX HB4 hb5
  have HX := hide (unhide HK1 w5 (unhide HB5))
  go_wp2_with fail
  refine (unhide HX).mono ?_; rintro e w6 ⟨rfl, hb6⟩
  have HB6 := hide ((unhide HB5).trans (hb6.mono (unhide HB5).size))
  clear HX HB5 hb6
  have HX := hide (unhide HK1 w6 (unhide HB6))
  go_wp2_with fail
  refine (unhide HX).mono ?_; rintro e w7 ⟨rfl, hb7⟩
  have HB7 := hide ((unhide HB6).trans (hb7.mono (unhide HB6).size))
  clear HX HB6 hb7
  go_wp2
  go_ret
  exact ⟨rfl, unhide HB7⟩

set_option maxHeartbeats 4000000 in
set_option maxRecDepth 100000 in
theorem fd_eq_hi_big (z st : Int) (row : ByteArray) (ahead : ByteArray) (h3 : 0 < ahead.size) (h4 : ahead.size = row.size) (w : World) (a : Nat → Addr) (hS : Sent w a) (h1 : 8 < st) (h2 : 4 < z) (hr : row.size ≤ 300) (ha : ahead.size ≤ 300) :
    Calls Tryd.prog 7 #[.int .i64 z, .string row, .string ahead, .int .i64 st] w fun e w' => e = .returned (.bool true) ∧ Below w.heap.size w w' := by
  have e0 : chk 0 row ahead st = .bound := by unfold chk; rw [if_pos (.inr (by omega))]
  have e1 : chk z row ahead st = .bound := by unfold chk; rw [if_pos (.inl (by omega))]
  have HD := hide (fun w' (hb : Below w.heap.size w w') => Do_sent z st row ahead w' a (hS.below hb) (by omega))
  have HU := hide (fun w' (hb : Below w.heap.size w w') => Undo_sent z st row ahead w' a (hS.below hb) (by omega))
  have HT := hide (fun w' (hb : Below w.heap.size w w') => Best_sent st row ahead w' a (hS.below hb) (by omega))
  have HL := hide (less_any w a hS)
  rw [e1] at HD HU
  rw [e0] at HT
  unfold doV at HD HU
  unfold bestV at HT
  dsimp only at HD HU HT
  have HK0 := hide (fun w' (hb : Below w.heap.size w w') => coded_sent 1 2 w' a (hS.below hb) (by omega) (by decide))
  have HK1 := hide (fun w' (hb : Below w.heap.size w w') => coded_sent 1 2 w' a (hS.below hb) (by omega) (by decide))
  generalize sentV a 1 = x1 at *
  have g1 : decide ((row.size : Int) > 300) = false := by simp; omega
  have g1n : decide (300 < row.size) = false := by simp; omega
  have g2 : decide ((ahead.size : Int) > 300) = false := by simp; omega
  have g2n : decide (300 < ahead.size) = false := by simp; omega
  have g1i : decide ((300 : Int) < (row.size : Int)) = false := g1
  have g2i : decide ((300 : Int) < (ahead.size : Int)) = false := g2
  have t1 : decide (st < 1) = false := by simp; omega
  have t2 : decide (st > 8) = true := by simp; omega
  have t2i : decide (8 < st) = true := t2
  have u1 : decide (z < 0) = false := by simp; omega
  have u2 : decide (z > 4) = true := by simp; omega
  have u2i : decide (4 < z) = true := u2
  obtain ⟨b1, b2, b3⟩ := not_blankF ahead h3
  have q1 : ((ahead.size : Int) == (row.size : Int)) = true := by simp [h4]
  have q2 : ((ahead.size : Int) != (row.size : Int)) = false := by simp [h4]
  clear hS h1 h2 h3 hr ha e0 e1 h4
  go_enter Tryd.func7, Tryd.ntmps7
  go_wp2_with fail
  refine (unhide HL).mono ?_; rintro e w1 ⟨rfl, hb1⟩
  have HB1 := hide hb1
  clear HL hb1
  have HX := hide (unhide HD w1 (unhide HB1))
  go_wp2_with fail
  refine (unhide HX).mono ?_; rintro e w2 ⟨rfl, hb2⟩
  have HB2 := hide ((unhide HB1).trans (hb2.mono (unhide HB1).size))
  clear HX HB1 hb2
  have HX := hide (unhide HU w2 (unhide HB2))
  go_wp2_with fail
  refine (unhide HX).mono ?_; rintro e w3 ⟨rfl, hb3⟩
  have HB3 := hide ((unhide HB2).trans (hb3.mono (unhide HB2).size))
  clear HX HB2 hb3
  have HX := hide (unhide HT w3 (unhide HB3))
  go_wp2_with fail
  refine (unhide HX).mono ?_; rintro e w4 ⟨rfl, hb4⟩
  have HB4 := hide ((unhide HB3).trans (hb4.mono (unhide HB3).size))
  clear HX HB3 hb4
  have HX := hide (unhide HK0 w4 (unhide HB4))
  go_wp2_with fail
  refine (unhide HX).mono ?_; rintro e w5 ⟨rfl, hb5⟩
  have HB5 := hide ((unhide HB4).trans (hb5.mono (unhide HB4).size))
  clear HX HB4 hb5
  have HX := hide (unhide HK1 w5 (unhide HB5))
  go_wp2_with fail
  refine (unhide HX).mono ?_; rintro e w6 ⟨rfl, hb6⟩
  have HB6 := hide ((unhide HB5).trans (hb6.mono (unhide HB5).size))
  clear HX HB5 hb6
  have HX := hide (unhide HK1 w6 (unhide HB6))
  go_wp2_with fail
  refine (unhide HX).mono ?_; rintro e w7 ⟨rfl, hb7⟩
  have HB7 := hide ((unhide HB6).trans (hb7.mono (unhide HB6).size))
  clear HX HB6 hb7
  go_wp2
  go_ret
  exact ⟨rfl, unhide HB7⟩

set_option maxHeartbeats 4000000 in
set_option maxRecDepth 100000 in
theorem fd_eq_hi_ok (z st : Int) (row : ByteArray) (ahead : ByteArray) (h3 : 0 < ahead.size) (h4 : ahead.size = row.size) (w : World) (a : Nat → Addr) (hS : Sent w a) (h1 : 8 < st) (h2 : 0 ≤ z ∧ z < 5) (hr : row.size ≤ 300) (ha : ahead.size ≤ 300) :
    Calls Tryd.prog 7 #[.int .i64 z, .string row, .string ahead, .int .i64 st] w fun e w' => e = .returned (.bool true) ∧ Below w.heap.size w w' := by
  have e0 : chk 0 row ahead st = .bound := by unfold chk; rw [if_pos (.inr (by omega))]
  have e1 : chk z row ahead st = .bound := by unfold chk; rw [if_pos (.inr (by omega))]
  have HD := hide (fun w' (hb : Below w.heap.size w w') => Do_sent z st row ahead w' a (hS.below hb) (by omega))
  have HU := hide (fun w' (hb : Below w.heap.size w w') => Undo_sent z st row ahead w' a (hS.below hb) (by omega))
  have HT := hide (fun w' (hb : Below w.heap.size w w') => Best_sent st row ahead w' a (hS.below hb) (by omega))
  have HL := hide (less_any w a hS)
  rw [e1] at HD HU
  rw [e0] at HT
  unfold doV at HD HU
  unfold bestV at HT
  dsimp only at HD HU HT
  have HK0 := hide (fun w' (hb : Below w.heap.size w w') => coded_sent 1 2 w' a (hS.below hb) (by omega) (by decide))
  have HK1 := hide (fun w' (hb : Below w.heap.size w w') => coded_sent 1 2 w' a (hS.below hb) (by omega) (by decide))
  generalize sentV a 1 = x1 at *
  have g1 : decide ((row.size : Int) > 300) = false := by simp; omega
  have g1n : decide (300 < row.size) = false := by simp; omega
  have g2 : decide ((ahead.size : Int) > 300) = false := by simp; omega
  have g2n : decide (300 < ahead.size) = false := by simp; omega
  have g1i : decide ((300 : Int) < (row.size : Int)) = false := g1
  have g2i : decide ((300 : Int) < (ahead.size : Int)) = false := g2
  have t1 : decide (st < 1) = false := by simp; omega
  have t2 : decide (st > 8) = true := by simp; omega
  have t2i : decide (8 < st) = true := t2
  have u1 : decide (z < 0) = false := by simp; omega
  have u2 : decide (z > 4) = false := by simp; omega
  have u2i : decide (4 < z) = false := u2
  obtain ⟨b1, b2, b3⟩ := not_blankF ahead h3
  have q1 : ((ahead.size : Int) == (row.size : Int)) = true := by simp [h4]
  have q2 : ((ahead.size : Int) != (row.size : Int)) = false := by simp [h4]
  clear hS h1 h2 h3 hr ha e0 e1 h4
  go_enter Tryd.func7, Tryd.ntmps7
  go_wp2_with fail
  refine (unhide HL).mono ?_; rintro e w1 ⟨rfl, hb1⟩
  have HB1 := hide hb1
  clear HL hb1
  have HX := hide (unhide HD w1 (unhide HB1))
  go_wp2_with fail
  refine (unhide HX).mono ?_; rintro e w2 ⟨rfl, hb2⟩
  have HB2 := hide ((unhide HB1).trans (hb2.mono (unhide HB1).size))
  clear HX HB1 hb2
  have HX := hide (unhide HU w2 (unhide HB2))
  go_wp2_with fail
  refine (unhide HX).mono ?_; rintro e w3 ⟨rfl, hb3⟩
  have HB3 := hide ((unhide HB2).trans (hb3.mono (unhide HB2).size))
  clear HX HB2 hb3
  have HX := hide (unhide HT w3 (unhide HB3))
  go_wp2_with fail
  refine (unhide HX).mono ?_; rintro e w4 ⟨rfl, hb4⟩
  have HB4 := hide ((unhide HB3).trans (hb4.mono (unhide HB3).size))
  clear HX HB3 hb4
  have HX := hide (unhide HK0 w4 (unhide HB4))
  go_wp2_with fail
  refine (unhide HX).mono ?_; rintro e w5 ⟨rfl, hb5⟩
  have HB5 := hide ((unhide HB4).trans (hb5.mono (unhide HB4).size))
  clear HX HB4 hb5
  have HX := hide (unhide HK1 w5 (unhide HB5))
  go_wp2_with fail
  refine (unhide HX).mono ?_; rintro e w6 ⟨rfl, hb6⟩
  have HB6 := hide ((unhide HB5).trans (hb6.mono (unhide HB5).size))
  clear HX HB5 hb6
  have HX := hide (unhide HK1 w6 (unhide HB6))
  go_wp2_with fail
  refine (unhide HX).mono ?_; rintro e w7 ⟨rfl, hb7⟩
  have HB7 := hide ((unhide HB6).trans (hb7.mono (unhide HB6).size))
  clear HX HB6 hb7
  go_wp2
  go_ret
  exact ⟨rfl, unhide HB7⟩

set_option maxHeartbeats 4000000 in
set_option maxRecDepth 100000 in
theorem fd_eq_ok_neg (z st : Int) (row : ByteArray) (ahead : ByteArray) (h3 : 0 < ahead.size) (h4 : ahead.size = row.size) (w : World) (a : Nat → Addr) (hS : Sent w a) (h1 : 1 ≤ st ∧ st ≤ 8) (h2 : z < 0) (hr : row.size ≤ 300) (ha : ahead.size ≤ 300) :
    Calls Tryd.prog 7 #[.int .i64 z, .string row, .string ahead, .int .i64 st] w fun e w' => e = .returned (.bool true) ∧ Below w.heap.size w w' := by
  have e0 : chk 0 row ahead st = .fine := by unfold chk; rw [if_neg (by omega), if_neg (by omega)]
  have e1 : chk z row ahead st = .bound := by unfold chk; rw [if_pos (.inl (by omega))]
  have HD := hide (fun w' (hb : Below w.heap.size w w') => Do_sent z st row ahead w' a (hS.below hb) (by omega))
  have HU := hide (fun w' (hb : Below w.heap.size w w') => Undo_sent z st row ahead w' a (hS.below hb) (by omega))
  have HT := hide (fun w' (hb : Below w.heap.size w w') => Best_sent st row ahead w' a (hS.below hb) (by omega))
  have HL := hide (less_any w a hS)
  rw [e1] at HD HU
  rw [e0] at HT
  unfold doV at HD HU
  unfold bestV at HT
  dsimp only at HD HU HT
  have HK0 := hide (fun w' => coded_nil w')
  have HK1 := hide (fun w' (hb : Below w.heap.size w w') => coded_sent 1 2 w' a (hS.below hb) (by omega) (by decide))
  obtain ⟨s, rfl⟩ := Int.eq_ofNat_of_zero_le (show 0 ≤ st by omega)
  simp only [Int.toNat_natCast] at HD HU HT
  have HBO := hide (fun w' => bestOf_any s row ahead w' (by omega) (by omega))
  generalize Fil.best row.data.toList ahead.data.toList s = B at *
  generalize sentV a 1 = x1 at *
  have g1 : decide ((row.size : Int) > 300) = false := by simp; omega
  have g1n : decide (300 < row.size) = false := by simp; omega
  have g2 : decide ((ahead.size : Int) > 300) = false := by simp; omega
  have g2n : decide (300 < ahead.size) = false := by simp; omega
  have g1i : decide ((300 : Int) < (row.size : Int)) = false := g1
  have g2i : decide ((300 : Int) < (ahead.size : Int)) = false := g2
  have t1 : decide ((s : Int) < 1) = false := by simp; omega
  have t2 : decide ((s : Int) > 8) = false := by simp; omega
  have t2i : decide (8 < (s : Int)) = false := t2
  have u1 : decide (z < 0) = true := by simp; omega
  obtain ⟨b1, b2, b3⟩ := not_blankF ahead h3
  have q1 : ((ahead.size : Int) == (row.size : Int)) = true := by simp [h4]
  have q2 : ((ahead.size : Int) != (row.size : Int)) = false := by simp [h4]
  clear hS h1 h2 h3 hr ha e0 e1 h4
  go_enter Tryd.func7, Tryd.ntmps7
  go_wp2_with fail
  refine (unhide HL).mono ?_; rintro e w1 ⟨rfl, hb1⟩
  have HB1 := hide hb1
  clear HL hb1
  have HX := hide (unhide HD w1 (unhide HB1))
  go_wp2_with fail
  refine (unhide HX).mono ?_; rintro e w2 ⟨rfl, hb2⟩
  have HB2 := hide ((unhide HB1).trans (hb2.mono (unhide HB1).size))
  clear HX HB1 hb2
  have HX := hide (unhide HU w2 (unhide HB2))
  go_wp2_with fail
  refine (unhide HX).mono ?_; rintro e w3 ⟨rfl, hb3⟩
  have HB3 := hide ((unhide HB2).trans (hb3.mono (unhide HB2).size))
  clear HX HB2 hb3
  have HX := hide (unhide HT w3 (unhide HB3))
  go_wp2_with fail
  refine (unhide HX).mono ?_; rintro e w4 ⟨rfl, hb4⟩
  have HB4 := hide ((unhide HB3).trans (hb4.mono (unhide HB3).size))
  clear HX HB3 hb4
  have HX := hide (unhide HK0 w4)
  go_wp2_with fail
  refine (unhide HX).mono ?_; rintro e wz ⟨rfl, hwz⟩
  have hwz2 := hwz.symm
  clear hwz
  subst hwz2
  clear HX
  have HX := hide (unhide HBO w4)
  go_wp2_with fail
  refine (unhide HX).mono ?_; rintro e w5 ⟨rfl, hb5⟩
  have HB5 := hide ((unhide HB4).trans (hb5.mono (unhide HB4).size))
  clear HX HB4 hb5
  have HX := hide (unhide HK1 w5 (unhide HB5))
  go_wp2_with fail
  refine (unhide HX).mono ?_; rintro e w6 ⟨rfl, hb6⟩
  have HB6 := hide ((unhide HB5).trans (hb6.mono (unhide HB5).size))
  clear HX HB5 hb6
  have HX := hide (unhide HK1 w6 (unhide HB6))
  go_wp2_with fail
  refine (unhide HX).mono ?_; rintro e w7 ⟨rfl, hb7⟩
  have HB7 := hide ((unhide HB6).trans (hb7.mono (unhide HB6).size))
  clear HX HB6 hb7
  go_wp2
  go_ret
  exact ⟨rfl, unhide HB7⟩

set_option maxHeartbeats 4000000 in
set_option maxRecDepth 100000 in
theorem fd_eq_ok_big (z st : Int) (row : ByteArray) (ahead : ByteArray) (h3 : 0 < ahead.size) (h4 : ahead.size = row.size) (w : World) (a : Nat → Addr) (hS : Sent w a) (h1 : 1 ≤ st ∧ st ≤ 8) (h2 : 4 < z) (hr : row.size ≤ 300) (ha : ahead.size ≤ 300) :
    Calls Tryd.prog 7 #[.int .i64 z, .string row, .string ahead, .int .i64 st] w fun e w' => e = .returned (.bool true) ∧ Below w.heap.size w w' := by
  have e0 : chk 0 row ahead st = .fine := by unfold chk; rw [if_neg (by omega), if_neg (by omega)]
  have e1 : chk z row ahead st = .bound := by unfold chk; rw [if_pos (.inl (by omega))]
  have HD := hide (fun w' (hb : Below w.heap.size w w') => Do_sent z st row ahead w' a (hS.below hb) (by omega))
  have HU := hide (fun w' (hb : Below w.heap.size w w') => Undo_sent z st row ahead w' a (hS.below hb) (by omega))
  have HT := hide (fun w' (hb : Below w.heap.size w w') => Best_sent st row ahead w' a (hS.below hb) (by omega))
  have HL := hide (less_any w a hS)
  rw [e1] at HD HU
  rw [e0] at HT
  unfold doV at HD HU
  unfold bestV at HT
  dsimp only at HD HU HT
  have HK0 := hide (fun w' => coded_nil w')
  have HK1 := hide (fun w' (hb : Below w.heap.size w w') => coded_sent 1 2 w' a (hS.below hb) (by omega) (by decide))
  obtain ⟨s, rfl⟩ := Int.eq_ofNat_of_zero_le (show 0 ≤ st by omega)
  simp only [Int.toNat_natCast] at HD HU HT
  have HBO := hide (fun w' => bestOf_any s row ahead w' (by omega) (by omega))
  generalize Fil.best row.data.toList ahead.data.toList s = B at *
  generalize sentV a 1 = x1 at *
  have g1 : decide ((row.size : Int) > 300) = false := by simp; omega
  have g1n : decide (300 < row.size) = false := by simp; omega
  have g2 : decide ((ahead.size : Int) > 300) = false := by simp; omega
  have g2n : decide (300 < ahead.size) = false := by simp; omega
  have g1i : decide ((300 : Int) < (row.size : Int)) = false := g1
  have g2i : decide ((300 : Int) < (ahead.size : Int)) = false := g2
  have t1 : decide ((s : Int) < 1) = false := by simp; omega
  have t2 : decide ((s : Int) > 8) = false := by simp; omega
  have t2i : decide (8 < (s : Int)) = false := t2
  have u1 : decide (z < 0) = false := by simp; omega
  have u2 : decide (z > 4) = true := by simp; omega
  have u2i : decide (4 < z) = true := u2
  obtain ⟨b1, b2, b3⟩ := not_blankF ahead h3
  have q1 : ((ahead.size : Int) == (row.size : Int)) = true := by simp [h4]
  have q2 : ((ahead.size : Int) != (row.size : Int)) = false := by simp [h4]
  clear hS h1 h2 h3 hr ha e0 e1 h4
  go_enter Tryd.func7, Tryd.ntmps7
  go_wp2_with fail
  refine (unhide HL).mono ?_; rintro e w1 ⟨rfl, hb1⟩
  have HB1 := hide hb1
  clear HL hb1
  have HX := hide (unhide HD w1 (unhide HB1))
  go_wp2_with fail
  refine (unhide HX).mono ?_; rintro e w2 ⟨rfl, hb2⟩
  have HB2 := hide ((unhide HB1).trans (hb2.mono (unhide HB1).size))
  clear HX HB1 hb2
  have HX := hide (unhide HU w2 (unhide HB2))
  go_wp2_with fail
  refine (unhide HX).mono ?_; rintro e w3 ⟨rfl, hb3⟩
  have HB3 := hide ((unhide HB2).trans (hb3.mono (unhide HB2).size))
  clear HX HB2 hb3
  have HX := hide (unhide HT w3 (unhide HB3))
  go_wp2_with fail
  refine (unhide HX).mono ?_; rintro e w4 ⟨rfl, hb4⟩
  have HB4 := hide ((unhide HB3).trans (hb4.mono (unhide HB3).size))
  clear HX HB3 hb4
  have HX := hide (unhide HK0 w4)
  go_wp2_with fail
  refine (unhide HX).mono ?_; rintro e wz ⟨rfl, hwz⟩
  have hwz2 := hwz.symm
  clear hwz
  subst hwz2
  clear HX
  have HX := hide (unhide HBO w4)
  go_wp2_with fail
  refine (unhide HX).mono ?_; rintro e w5 ⟨rfl, hb5⟩
  have HB5 := hide ((unhide HB4).trans (hb5.mono (unhide HB4).size))
  clear HX HB4 hb5
  have HX := hide (unhide HK1 w5 (unhide HB5))
  go_wp2_with fail
  refine (unhide HX).mono ?_; rintro e w6 ⟨rfl, hb6⟩
  have HB6 := hide ((unhide HB5).trans (hb6.mono (unhide HB5).size))
  clear HX HB5 hb6
  have HX := hide (unhide HK1 w6 (unhide HB6))
  go_wp2_with fail
  refine (unhide HX).mono ?_; rintro e w7 ⟨rfl, hb7⟩
  have HB7 := hide ((unhide HB6).trans (hb7.mono (unhide HB6).size))
  clear HX HB6 hb7
  go_wp2
  go_ret
  exact ⟨rfl, unhide HB7⟩

set_option maxHeartbeats 4000000 in
set_option maxRecDepth 100000 in
theorem fd_eq_ok_ok (z st : Int) (row : ByteArray) (ahead : ByteArray) (h3 : 0 < ahead.size) (h4 : ahead.size = row.size) (w : World) (a : Nat → Addr) (hS : Sent w a) (h1 : 1 ≤ st ∧ st ≤ 8) (h2 : 0 ≤ z ∧ z < 5) (hr : row.size ≤ 300) (ha : ahead.size ≤ 300) :
    Calls Tryd.prog 7 #[.int .i64 z, .string row, .string ahead, .int .i64 st] w fun e w' => e = .returned (.bool true) ∧ Below w.heap.size w w' := by
  have e0 : chk 0 row ahead st = .fine := by unfold chk; rw [if_neg (by omega), if_neg (by omega)]
  have e1 : chk z row ahead st = .fine := by unfold chk; rw [if_neg (by omega), if_neg (by omega)]
  have HD := hide (fun w' (hb : Below w.heap.size w w') => Do_sent z st row ahead w' a (hS.below hb) (by omega))
  have HU := hide (fun w' (hb : Below w.heap.size w w') => Undo_sent z st row ahead w' a (hS.below hb) (by omega))
  have HT := hide (fun w' (hb : Below w.heap.size w w') => Best_sent st row ahead w' a (hS.below hb) (by omega))
  have HL := hide (less_any w a hS)
  rw [e1] at HD HU
  rw [e0] at HT
  unfold doV at HD HU
  unfold bestV at HT
  dsimp only at HD HU HT
  have HK0 := hide (fun w' => coded_nil w')
  obtain ⟨s, rfl⟩ := Int.eq_ofNat_of_zero_le (show 0 ≤ st by omega)
  simp only [Int.toNat_natCast] at HD HU HT
  have HBO := hide (fun w' => bestOf_any s row ahead w' (by omega) (by omega))
  obtain ⟨k, rfl⟩ := Int.eq_ofNat_of_zero_le h2.1
  simp only [Int.toNat_natCast] at HD HU HT
  have HRO := hide (fun w' => rowOf_any k s row ahead w' (by omega) (by omega) (by omega))
  have HUO := hide (fun w' => unrowOf_any k s row ahead w' (by omega) (by omega) (by omega))
  have r1 := refl_text (tx (Fil.row k row.data.toList ahead.data.toList s row.size))
  have r2 := refl_text (tx (Fil.un k row.data.toList ahead.data.toList s row.size))
  generalize tx (Fil.row k row.data.toList ahead.data.toList s row.size) = T1 at *
  generalize tx (Fil.un k row.data.toList ahead.data.toList s row.size) = T2 at *
  generalize Fil.best row.data.toList ahead.data.toList s = B at *
  have g1 : decide ((row.size : Int) > 300) = false := by simp; omega
  have g1n : decide (300 < row.size) = false := by simp; omega
  have g2 : decide ((ahead.size : Int) > 300) = false := by simp; omega
  have g2n : decide (300 < ahead.size) = false := by simp; omega
  have g1i : decide ((300 : Int) < (row.size : Int)) = false := g1
  have g2i : decide ((300 : Int) < (ahead.size : Int)) = false := g2
  have t1 : decide ((s : Int) < 1) = false := by simp; omega
  have t2 : decide ((s : Int) > 8) = false := by simp; omega
  have t2i : decide (8 < (s : Int)) = false := t2
  have u1 : decide ((k : Int) < 0) = false := by simp
  have u2 : decide ((k : Int) > 4) = false := by simp; omega
  have u2i : decide (4 < (k : Int)) = false := u2
  obtain ⟨b1, b2, b3⟩ := not_blankF ahead h3
  have q1 : ((ahead.size : Int) == (row.size : Int)) = true := by simp [h4]
  have q2 : ((ahead.size : Int) != (row.size : Int)) = false := by simp [h4]
  clear hS h1 h2 h3 hr ha e0 e1 h4
  go_enter Tryd.func7, Tryd.ntmps7
  go_wp2_with fail
  refine (unhide HL).mono ?_; rintro e w1 ⟨rfl, hb1⟩
  have HB1 := hide hb1
  clear HL hb1
  have HX := hide (unhide HD w1 (unhide HB1))
  go_wp2_with fail
  refine (unhide HX).mono ?_; rintro e w2 ⟨rfl, hb2⟩
  have HB2 := hide ((unhide HB1).trans (hb2.mono (unhide HB1).size))
  clear HX HB1 hb2
  have HX := hide (unhide HU w2 (unhide HB2))
  go_wp2_with fail
  refine (unhide HX).mono ?_; rintro e w3 ⟨rfl, hb3⟩
  have HB3 := hide ((unhide HB2).trans (hb3.mono (unhide HB2).size))
  clear HX HB2 hb3
  have HX := hide (unhide HT w3 (unhide HB3))
  go_wp2_with fail
  refine (unhide HX).mono ?_; rintro e w4 ⟨rfl, hb4⟩
  have HB4 := hide ((unhide HB3).trans (hb4.mono (unhide HB3).size))
  clear HX HB3 hb4
  have HX := hide (unhide HK0 w4)
  go_wp2_with fail
  refine (unhide HX).mono ?_; rintro e wz ⟨rfl, hwz⟩
  have hwz2 := hwz.symm
  clear hwz
  subst hwz2
  clear HX
  have HX := hide (unhide HBO w4)
  go_wp2_with fail
  refine (unhide HX).mono ?_; rintro e w5 ⟨rfl, hb5⟩
  have HB5 := hide ((unhide HB4).trans (hb5.mono (unhide HB4).size))
  clear HX HB4 hb5
  have HX := hide (unhide HRO w5)
  go_wp2_with fail
  refine (unhide HX).mono ?_; rintro e w6 ⟨rfl, hb6⟩
  have HB6 := hide ((unhide HB5).trans (hb6.mono (unhide HB5).size))
  clear HX HB5 hb6
  have HX := hide (unhide HUO w6)
  go_wp2_with fail
  refine (unhide HX).mono ?_; rintro e w7 ⟨rfl, hb7⟩
  have HB7 := hide ((unhide HB6).trans (hb7.mono (unhide HB6).size))
  clear HX HB6 hb7
  go_wp2
  go_ret
  exact ⟨rfl, unhide HB7⟩

end Go.Proofs.YtmmilamaahmaoaeDoor
