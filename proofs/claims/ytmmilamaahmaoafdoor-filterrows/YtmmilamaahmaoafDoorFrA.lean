/- The statement on rows one behind the other: a case a theorem. -/
import Derived.Test.YtmmilamaahmaoafDoorFn
namespace Go.Proofs.YtmmilamaahmaoafDoor
open Go.RowKit

set_option maxHeartbeats 4000000 in
set_option maxRecDepth 100000 in
theorem fr_wlo (s u : ByteArray) (z st : Int) (w : World) (a : Nat → Addr) (hS : Sent w a) (h1 : z < 1) (hr : s.size ≤ 1000) (ha : u.size ≤ 1000) :
    Calls Tryd.prog 4 #[.string s, .string u, .int .i64 z, .int .i64 st] w fun e w' => e = .returned (.bool true) ∧ Below w.heap.size w w' := by
  have e0 : chkR s z st 0 = .bound := by unfold chkR; rw [if_pos (.inl h1)]
  have e1 : chkR u z st 1 = .bound := by unfold chkR; rw [if_pos (.inl h1)]
  have HL := hide (less_any w a hS)
  have HR := hide (fun w' (hb : Below w.heap.size w w') => Rows_sent s z st w' a (hS.below hb))
  have HK := hide (fun w' (hb : Below w.heap.size w w') => Back_sent_bad u z st w' a (hS.below hb) (by rw [e1]; intro q; cases q))
  have HC := hide (fun w' (hb : Below w.heap.size w w') => coded_sent 1 2 w' a (hS.below hb) (by omega) (by decide))
  rw [e0] at HR
  rw [e1] at HK
  unfold doV at HR HK
  dsimp only at HR HK
  generalize sentV a 1 = x1 at *
  have g1 : decide ((s.size : Int) > 1000) = false := by simp; omega
  have g1i : decide ((1000 : Int) < (s.size : Int)) = false := g1
  have g1n : decide (1000 < s.size) = false := by simp; omega
  have g2 : decide ((u.size : Int) > 1000) = false := by simp; omega
  have g2i : decide ((1000 : Int) < (u.size : Int)) = false := g2
  have g2n : decide (1000 < u.size) = false := by simp; omega
  have t1 : decide (z < 1) = true := by simp; omega
  clear hS h1 hr ha e0 e1
  go_enter Tryd.func4, Tryd.ntmps4
  go_wp2_with fail
  refine (unhide HL).mono ?_; rintro e w1 ⟨rfl, hb1⟩
  have HB1 := hide hb1
  clear HL hb1
  have HX := hide (unhide HR w1 (unhide HB1))
  go_wp2_with fail
  refine (unhide HX).mono ?_; rintro e w2 ⟨rfl, hb2⟩
  have HB2 := hide ((unhide HB1).trans (hb2.mono (unhide HB1).size))
  clear HX HB1 hb2
  have HX := hide (unhide HK w2 (unhide HB2))
  go_wp2_with fail
  refine (unhide HX).mono ?_; rintro e w3 ⟨rfl, hb3⟩
  have HB3 := hide ((unhide HB2).trans (hb3.mono (unhide HB2).size))
  clear HX HB2 hb3
  have HX := hide (unhide HC w3 (unhide HB3))
  go_wp2_with fail
  refine (unhide HX).mono ?_; rintro e w4 ⟨rfl, hb4⟩
  have HB4 := hide ((unhide HB3).trans (hb4.mono (unhide HB3).size))
  clear HX HB3 hb4
  have HX := hide (unhide HC w4 (unhide HB4))
  go_wp2_with fail
  refine (unhide HX).mono ?_; rintro e w5 ⟨rfl, hb5⟩
  have HB5 := hide ((unhide HB4).trans (hb5.mono (unhide HB4).size))
  clear HX HB4 hb5
  go_wp2
  go_ret
  exact ⟨rfl, unhide HB5⟩

set_option maxHeartbeats 4000000 in
set_option maxRecDepth 100000 in
theorem fr_whi (s u : ByteArray) (z st : Int) (w : World) (a : Nat → Addr) (hS : Sent w a) (h1 : 300000 < z) (hr : s.size ≤ 1000) (ha : u.size ≤ 1000) :
    Calls Tryd.prog 4 #[.string s, .string u, .int .i64 z, .int .i64 st] w fun e w' => e = .returned (.bool true) ∧ Below w.heap.size w w' := by
  have e0 : chkR s z st 0 = .bound := by unfold chkR; rw [if_pos (.inr (.inl h1))]
  have e1 : chkR u z st 1 = .bound := by unfold chkR; rw [if_pos (.inr (.inl h1))]
  have HL := hide (less_any w a hS)
  have HR := hide (fun w' (hb : Below w.heap.size w w') => Rows_sent s z st w' a (hS.below hb))
  have HK := hide (fun w' (hb : Below w.heap.size w w') => Back_sent_bad u z st w' a (hS.below hb) (by rw [e1]; intro q; cases q))
  have HC := hide (fun w' (hb : Below w.heap.size w w') => coded_sent 1 2 w' a (hS.below hb) (by omega) (by decide))
  rw [e0] at HR
  rw [e1] at HK
  unfold doV at HR HK
  dsimp only at HR HK
  generalize sentV a 1 = x1 at *
  have g1 : decide ((s.size : Int) > 1000) = false := by simp; omega
  have g1i : decide ((1000 : Int) < (s.size : Int)) = false := g1
  have g1n : decide (1000 < s.size) = false := by simp; omega
  have g2 : decide ((u.size : Int) > 1000) = false := by simp; omega
  have g2i : decide ((1000 : Int) < (u.size : Int)) = false := g2
  have g2n : decide (1000 < u.size) = false := by simp; omega
  have t1 : decide (z < 1) = false := by simp; omega
  have t2 : decide (z > 300000) = true := by simp; omega
  have t2i : decide (300000 < z) = true := t2
  clear hS h1 hr ha e0 e1
  go_enter Tryd.func4, Tryd.ntmps4
  go_wp2_with fail
  refine (unhide HL).mono ?_; rintro e w1 ⟨rfl, hb1⟩
  have HB1 := hide hb1
  clear HL hb1
  have HX := hide (unhide HR w1 (unhide HB1))
  go_wp2_with fail
  refine (unhide HX).mono ?_; rintro e w2 ⟨rfl, hb2⟩
  have HB2 := hide ((unhide HB1).trans (hb2.mono (unhide HB1).size))
  clear HX HB1 hb2
  have HX := hide (unhide HK w2 (unhide HB2))
  go_wp2_with fail
  refine (unhide HX).mono ?_; rintro e w3 ⟨rfl, hb3⟩
  have HB3 := hide ((unhide HB2).trans (hb3.mono (unhide HB2).size))
  clear HX HB2 hb3
  have HX := hide (unhide HC w3 (unhide HB3))
  go_wp2_with fail
  refine (unhide HX).mono ?_; rintro e w4 ⟨rfl, hb4⟩
  have HB4 := hide ((unhide HB3).trans (hb4.mono (unhide HB3).size))
  clear HX HB3 hb4
  have HX := hide (unhide HC w4 (unhide HB4))
  go_wp2_with fail
  refine (unhide HX).mono ?_; rintro e w5 ⟨rfl, hb5⟩
  have HB5 := hide ((unhide HB4).trans (hb5.mono (unhide HB4).size))
  clear HX HB4 hb5
  go_wp2
  go_ret
  exact ⟨rfl, unhide HB5⟩

set_option maxHeartbeats 4000000 in
set_option maxRecDepth 100000 in
theorem fr_slo (s u : ByteArray) (z st : Int) (w : World) (a : Nat → Addr) (hS : Sent w a) (h0 : 1 ≤ z ∧ z ≤ 300000) (h1 : st < 1) (hr : s.size ≤ 1000) (ha : u.size ≤ 1000) :
    Calls Tryd.prog 4 #[.string s, .string u, .int .i64 z, .int .i64 st] w fun e w' => e = .returned (.bool true) ∧ Below w.heap.size w w' := by
  have e0 : chkR s z st 0 = .bound := by unfold chkR; rw [if_pos (.inr (.inr (.inl (by omega))))]
  have e1 : chkR u z st 1 = .bound := by unfold chkR; rw [if_pos (.inr (.inr (.inl (by omega))))]
  have HL := hide (less_any w a hS)
  have HR := hide (fun w' (hb : Below w.heap.size w w') => Rows_sent s z st w' a (hS.below hb))
  have HK := hide (fun w' (hb : Below w.heap.size w w') => Back_sent_bad u z st w' a (hS.below hb) (by rw [e1]; intro q; cases q))
  have HC := hide (fun w' (hb : Below w.heap.size w w') => coded_sent 1 2 w' a (hS.below hb) (by omega) (by decide))
  rw [e0] at HR
  rw [e1] at HK
  unfold doV at HR HK
  dsimp only at HR HK
  generalize sentV a 1 = x1 at *
  have g1 : decide ((s.size : Int) > 1000) = false := by simp; omega
  have g1i : decide ((1000 : Int) < (s.size : Int)) = false := g1
  have g1n : decide (1000 < s.size) = false := by simp; omega
  have g2 : decide ((u.size : Int) > 1000) = false := by simp; omega
  have g2i : decide ((1000 : Int) < (u.size : Int)) = false := g2
  have g2n : decide (1000 < u.size) = false := by simp; omega
  have t1 : decide (z < 1) = false := by simp; omega
  have t2 : decide (z > 300000) = false := by simp; omega
  have t2i : decide (300000 < z) = false := t2
  have t3 : decide (st < 1) = true := by simp; omega
  clear hS h1 h0 hr ha e0 e1
  go_enter Tryd.func4, Tryd.ntmps4
  go_wp2_with fail
  refine (unhide HL).mono ?_; rintro e w1 ⟨rfl, hb1⟩
  have HB1 := hide hb1
  clear HL hb1
  have HX := hide (unhide HR w1 (unhide HB1))
  go_wp2_with fail
  refine (unhide HX).mono ?_; rintro e w2 ⟨rfl, hb2⟩
  have HB2 := hide ((unhide HB1).trans (hb2.mono (unhide HB1).size))
  clear HX HB1 hb2
  have HX := hide (unhide HK w2 (unhide HB2))
  go_wp2_with fail
  refine (unhide HX).mono ?_; rintro e w3 ⟨rfl, hb3⟩
  have HB3 := hide ((unhide HB2).trans (hb3.mono (unhide HB2).size))
  clear HX HB2 hb3
  have HX := hide (unhide HC w3 (unhide HB3))
  go_wp2_with fail
  refine (unhide HX).mono ?_; rintro e w4 ⟨rfl, hb4⟩
  have HB4 := hide ((unhide HB3).trans (hb4.mono (unhide HB3).size))
  clear HX HB3 hb4
  have HX := hide (unhide HC w4 (unhide HB4))
  go_wp2_with fail
  refine (unhide HX).mono ?_; rintro e w5 ⟨rfl, hb5⟩
  have HB5 := hide ((unhide HB4).trans (hb5.mono (unhide HB4).size))
  clear HX HB4 hb5
  go_wp2
  go_ret
  exact ⟨rfl, unhide HB5⟩

set_option maxHeartbeats 4000000 in
set_option maxRecDepth 100000 in
theorem fr_shi (s u : ByteArray) (z st : Int) (w : World) (a : Nat → Addr) (hS : Sent w a) (h0 : 1 ≤ z ∧ z ≤ 300000) (h1 : 8 < st) (hr : s.size ≤ 1000) (ha : u.size ≤ 1000) :
    Calls Tryd.prog 4 #[.string s, .string u, .int .i64 z, .int .i64 st] w fun e w' => e = .returned (.bool true) ∧ Below w.heap.size w w' := by
  have e0 : chkR s z st 0 = .bound := by unfold chkR; rw [if_pos (.inr (.inr (.inl (by omega))))]
  have e1 : chkR u z st 1 = .bound := by unfold chkR; rw [if_pos (.inr (.inr (.inl (by omega))))]
  have HL := hide (less_any w a hS)
  have HR := hide (fun w' (hb : Below w.heap.size w w') => Rows_sent s z st w' a (hS.below hb))
  have HK := hide (fun w' (hb : Below w.heap.size w w') => Back_sent_bad u z st w' a (hS.below hb) (by rw [e1]; intro q; cases q))
  have HC := hide (fun w' (hb : Below w.heap.size w w') => coded_sent 1 2 w' a (hS.below hb) (by omega) (by decide))
  rw [e0] at HR
  rw [e1] at HK
  unfold doV at HR HK
  dsimp only at HR HK
  generalize sentV a 1 = x1 at *
  have g1 : decide ((s.size : Int) > 1000) = false := by simp; omega
  have g1i : decide ((1000 : Int) < (s.size : Int)) = false := g1
  have g1n : decide (1000 < s.size) = false := by simp; omega
  have g2 : decide ((u.size : Int) > 1000) = false := by simp; omega
  have g2i : decide ((1000 : Int) < (u.size : Int)) = false := g2
  have g2n : decide (1000 < u.size) = false := by simp; omega
  have t1 : decide (z < 1) = false := by simp; omega
  have t2 : decide (z > 300000) = false := by simp; omega
  have t2i : decide (300000 < z) = false := t2
  have t3 : decide (st < 1) = false := by simp; omega
  have t4 : decide (st > 8) = true := by simp; omega
  have t4i : decide (8 < st) = true := t4
  clear hS h1 h0 hr ha e0 e1
  go_enter Tryd.func4, Tryd.ntmps4
  go_wp2_with fail
  refine (unhide HL).mono ?_; rintro e w1 ⟨rfl, hb1⟩
  have HB1 := hide hb1
  clear HL hb1
  have HX := hide (unhide HR w1 (unhide HB1))
  go_wp2_with fail
  refine (unhide HX).mono ?_; rintro e w2 ⟨rfl, hb2⟩
  have HB2 := hide ((unhide HB1).trans (hb2.mono (unhide HB1).size))
  clear HX HB1 hb2
  have HX := hide (unhide HK w2 (unhide HB2))
  go_wp2_with fail
  refine (unhide HX).mono ?_; rintro e w3 ⟨rfl, hb3⟩
  have HB3 := hide ((unhide HB2).trans (hb3.mono (unhide HB2).size))
  clear HX HB2 hb3
  have HX := hide (unhide HC w3 (unhide HB3))
  go_wp2_with fail
  refine (unhide HX).mono ?_; rintro e w4 ⟨rfl, hb4⟩
  have HB4 := hide ((unhide HB3).trans (hb4.mono (unhide HB3).size))
  clear HX HB3 hb4
  have HX := hide (unhide HC w4 (unhide HB4))
  go_wp2_with fail
  refine (unhide HX).mono ?_; rintro e w5 ⟨rfl, hb5⟩
  have HB5 := hide ((unhide HB4).trans (hb5.mono (unhide HB4).size))
  clear HX HB4 hb5
  go_wp2
  go_ret
  exact ⟨rfl, unhide HB5⟩

end Go.Proofs.YtmmilamaahmaoafDoor
