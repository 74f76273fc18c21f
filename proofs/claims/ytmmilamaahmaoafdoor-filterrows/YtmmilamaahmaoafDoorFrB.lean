/- The statement on rows one behind the other: a case a theorem. -/
import Derived.Test.YtmmilamaahmaoafDoorFn
namespace Go.Proofs.YtmmilamaahmaoafDoor
open Go.RowKit

set_option maxHeartbeats 4000000 in
set_option maxRecDepth 100000 in
theorem fr_bad_shape (s u : ByteArray) (wd t : Nat) (w : World) (a : Nat → Addr) (hS : Sent w a) (h1 : 1 ≤ wd ∧ wd ≤ 300000) (h2 : 1 ≤ t ∧ t ≤ 8) (h3 : s.size % wd ≠ 0) (h4 : u.size % (wd + 1) ≠ 0) (hr : s.size ≤ 1000) (ha : u.size ≤ 1000) :
    Calls Tryd.prog 4 #[.string s, .string u, .int .i64 (wd : Int), .int .i64 (t : Int)] w fun e w' => e = .returned (.bool true) ∧ Below w.heap.size w w' := by
  have e0 : chkR s (wd : Int) (t : Int) 0 = .shape := by unfold chkR; rw [if_neg (by omega), if_pos]; rw [Int.toNat_natCast, Nat.add_zero]; exact h3
  have e1 : chkR u (wd : Int) (t : Int) 1 = .shape := by unfold chkR; rw [if_neg (by omega), if_pos]; rw [Int.toNat_natCast]; exact h4
  have HL := hide (less_any w a hS)
  have HR := hide (fun w' (hb : Below w.heap.size w w') => Rows_sent s (wd : Int) (t : Int) w' a (hS.below hb))
  rw [e0] at HR
  unfold doV at HR
  dsimp only at HR
  have HK := hide (fun w' (hb : Below w.heap.size w w') => Back_sent_bad u (wd : Int) (t : Int) w' a (hS.below hb) (by rw [e1]; intro q; cases q))
  rw [e1] at HK
  unfold doV at HK
  dsimp only at HK
  have HC := hide (fun w' (hb : Below w.heap.size w w') => coded_sent 2 3 w' a (hS.below hb) (by omega) (by decide))
  generalize sentV a 2 = x2 at *
  have g1 : decide ((s.size : Int) > 1000) = false := by simp; omega
  have g1i : decide ((1000 : Int) < (s.size : Int)) = false := g1
  have g1n : decide (1000 < s.size) = false := by simp; omega
  have g2 : decide ((u.size : Int) > 1000) = false := by simp; omega
  have g2i : decide ((1000 : Int) < (u.size : Int)) = false := g2
  have g2n : decide (1000 < u.size) = false := by simp; omega
  have t1 : decide ((wd : Int) < 1) = false := by simp; omega
  have t2 : decide ((wd : Int) > 300000) = false := by simp; omega
  have t2i : decide ((300000 : Int) < (wd : Int)) = false := t2
  have t3 : decide ((t : Int) < 1) = false := by simp; omega
  have t4 : decide ((t : Int) > 8) = false := by simp; omega
  have t4i : decide ((8 : Int) < (t : Int)) = false := t4
  have hw0 : ¬ (wd : Int) = 0 := by omega
  have hw1 : ¬ (wd : Int) + 1 = 0 := by omega
  obtain ⟨m, hm⟩ : ∃ q, q = s.size % wd := ⟨_, rfl⟩
  have zm : (s.size : Int) % (wd : Int) = (m : Int) := by rw [hm]; exact (Int.natCast_emod _ _).symm
  have ym : (s.size : Int).tmod (wd : Int) = (m : Int) := by rw [Int.tmod_eq_emod_of_nonneg (by omega)]; exact zm
  have lm : m ≤ 1000 := by rw [hm]; exact Nat.le_trans (Nat.mod_le _ _) (by omega)
  have km : m ≠ 0 := by rw [hm]; exact h3
  have bm : ((m : Int) == 0) = false := by simp; omega
  have cm : ((m : Int) != 0) = true := by simp; omega
  clear km
  clear hm
  obtain ⟨n, hn⟩ : ∃ q, q = u.size % (wd + 1) := ⟨_, rfl⟩
  have zn : (u.size : Int) % ((wd : Int) + 1) = (n : Int) := by rw [hn]; exact (Int.natCast_emod _ _).symm
  have yn : (u.size : Int).tmod ((wd : Int) + 1) = (n : Int) := by rw [Int.tmod_eq_emod_of_nonneg (by omega)]; exact zn
  have ln : n ≤ 1000 := by rw [hn]; exact Nat.le_trans (Nat.mod_le _ _) (by omega)
  have kn : n ≠ 0 := by rw [hn]; exact h4
  have bn : ((n : Int) == 0) = false := by simp; omega
  have cn : ((n : Int) != 0) = true := by simp; omega
  clear kn
  clear hn
  have hw3 : wd ≤ 300000 := h1.2
  clear hS h1 h2 h3 h4 hr ha e0 e1
  go_enter Tryd.func4, Tryd.ntmps4
  go_wp2_with fail
  refine (unhide HL).mono ?_; rintro e w1 ⟨rfl, hb1⟩
  have HB1 := hide hb1
  clear HL hb1
  have HX := hide (unhide HR w1 (unhide HB1))
  go_wp2_with fail
  refine (unhide HX).mono ?_; rintro e w2 ⟨rfl, hb2⟩
  have HB2 := hide ((unhide HB1).trans (hb2.mono (unhide HB1).size))
  clear HX HB1 hb2
  have HX := hide (unhide HK w2 (unhide HB2))
  go_wp2_with fail
  refine (unhide HX).mono ?_; rintro e w3 ⟨rfl, hb3⟩
  have HB3 := hide ((unhide HB2).trans (hb3.mono (unhide HB2).size))
  clear HX HB2 hb3
  have HX := hide (unhide HC w3 (unhide HB3))
  go_wp2_with fail
  refine (unhide HX).mono ?_; rintro e w4 ⟨rfl, hb4⟩
  have HB4 := hide ((unhide HB3).trans (hb4.mono (unhide HB3).size))
  clear HX HB3 hb4
  have HX := hide (unhide HC w4 (unhide HB4))
  go_wp2_with fail
  refine (unhide HX).mono ?_; rintro e w5 ⟨rfl, hb5⟩
  have HB5 := hide ((unhide HB4).trans (hb5.mono (unhide HB4).size))
  clear HX HB4 hb5
  go_wp2
  go_ret
  exact ⟨rfl, unhide HB5⟩

set_option maxHeartbeats 4000000 in
set_option maxRecDepth 100000 in
theorem fr_bad_all (s u : ByteArray) (wd t d : Nat) (w : World) (a : Nat → Addr) (hS : Sent w a) (h1 : 1 ≤ wd ∧ wd ≤ 300000) (h2 : 1 ≤ t ∧ t ≤ 8) (h3 : s.size % wd ≠ 0) (h4 : d * (wd + 1) = u.size) (h5 : ∀ j, j < d → Fil.kin u.data.toList wd j ≤ 4) (hr : s.size ≤ 1000) (ha : u.size ≤ 1000) :
    Calls Tryd.prog 4 #[.string s, .string u, .int .i64 (wd : Int), .int .i64 (t : Int)] w fun e w' => e = .returned (.bool true) ∧ Below w.heap.size w w' := by
  have e0 : chkR s (wd : Int) (t : Int) 0 = .shape := by unfold chkR; rw [if_neg (by omega), if_pos]; rw [Int.toNat_natCast, Nat.add_zero]; exact h3
  have fm : u.size % (wd + 1) = 0 := by rw [← h4, Nat.mul_mod_left]
  have fd : u.size / (wd + 1) = d := by rw [← h4, Nat.mul_div_left d (show 0 < wd + 1 by omega)]
  have e1 : chkR u (wd : Int) (t : Int) 1 = .fine := by unfold chkR; rw [if_neg (by omega), if_neg]; rw [Int.toNat_natCast, fm]; omega
  have HL := hide (less_any w a hS)
  have HR := hide (fun w' (hb : Below w.heap.size w w') => Rows_sent s (wd : Int) (t : Int) w' a (hS.below hb))
  rw [e0] at HR
  unfold doV at HR
  dsimp only at HR
  have HK : Hid (∀ w', Below w.heap.size w w' → Calls Tryd.prog 9 #[.string u, .int .i64 (wd : Int), .int .i64 (t : Int)] w' fun e w'' => e = .returned (.tuple #[.string (tx (Fil.back u.data.toList wd t d)), .nilIface]) ∧ Below w'.heap.size w' w'') := fun w' hb => by
    refine (Back_fine u wd t _ _ _ _ w' ((hS.below hb).cell 0 (by omega)) ((hS.below hb).cell 1 (by omega)) ((hS.below hb).cell 2 (by omega)) e1).mono ?_
    rintro e w'' ⟨h, hb2⟩
    rw [fd] at h
    exact ⟨h.all h5, hb2⟩
  have HKO : Hid (∀ w' : World, Calls Tryd.prog 12 #[.string u, .int .i64 (wd : Int), .int .i64 (t : Int)] w' fun e w'' => e = .returned (.tuple #[.string (tx (Fil.back u.data.toList wd t d)), .int .i64 (-1)]) ∧ Below w'.heap.size w' w'') := fun w' => by
    refine (backOf_any u wd t d w' (by omega) (by omega) (by omega) (by omega) h4).mono ?_
    rintro e w'' ⟨h, hb2⟩
    exact ⟨h.all h5, hb2⟩
  have r3 := refl_text (tx (Fil.back u.data.toList wd t d))
  generalize tx (Fil.back u.data.toList wd t d) = B at *
  have HC := hide (fun w' (hb : Below w.heap.size w w') => coded_sent 2 3 w' a (hS.below hb) (by omega) (by decide))
  generalize sentV a 2 = x2 at *
  have g1 : decide ((s.size : Int) > 1000) = false := by simp; omega
  have g1i : decide ((1000 : Int) < (s.size : Int)) = false := g1
  have g1n : decide (1000 < s.size) = false := by simp; omega
  have g2 : decide ((u.size : Int) > 1000) = false := by simp; omega
  have g2i : decide ((1000 : Int) < (u.size : Int)) = false := g2
  have g2n : decide (1000 < u.size) = false := by simp; omega
  have t1 : decide ((wd : Int) < 1) = false := by simp; omega
  have t2 : decide ((wd : Int) > 300000) = false := by simp; omega
  have t2i : decide ((300000 : Int) < (wd : Int)) = false := t2
  have t3 : decide ((t : Int) < 1) = false := by simp; omega
  have t4 : decide ((t : Int) > 8) = false := by simp; omega
  have t4i : decide ((8 : Int) < (t : Int)) = false := t4
  have hw0 : ¬ (wd : Int) = 0 := by omega
  have hw1 : ¬ (wd : Int) + 1 = 0 := by omega
  obtain ⟨m, hm⟩ : ∃ q, q = s.size % wd := ⟨_, rfl⟩
  have zm : (s.size : Int) % (wd : Int) = (m : Int) := by rw [hm]; exact (Int.natCast_emod _ _).symm
  have ym : (s.size : Int).tmod (wd : Int) = (m : Int) := by rw [Int.tmod_eq_emod_of_nonneg (by omega)]; exact zm
  have lm : m ≤ 1000 := by rw [hm]; exact Nat.le_trans (Nat.mod_le _ _) (by omega)
  have km : m ≠ 0 := by rw [hm]; exact h3
  have bm : ((m : Int) == 0) = false := by simp; omega
  have cm : ((m : Int) != 0) = true := by simp; omega
  clear km
  clear hm
  obtain ⟨n, hn⟩ : ∃ q, q = u.size % (wd + 1) := ⟨_, rfl⟩
  have zn : (u.size : Int) % ((wd : Int) + 1) = (n : Int) := by rw [hn]; exact (Int.natCast_emod _ _).symm
  have yn : (u.size : Int).tmod ((wd : Int) + 1) = (n : Int) := by rw [Int.tmod_eq_emod_of_nonneg (by omega)]; exact zn
  have ln : n ≤ 1000 := by rw [hn]; exact Nat.le_trans (Nat.mod_le _ _) (by omega)
  obtain rfl : n = 0 := by rw [hn]; exact fm
  clear hn
  have hw3 : wd ≤ 300000 := h1.2
  clear hS h1 h2 h3 h4 hr ha e0 e1 fm fd h5
  go_enter Tryd.func4, Tryd.ntmps4
  go_wp2_with fail
  refine (unhide HL).mono ?_; rintro e w1 ⟨rfl, hb1⟩
  have HB1 := hide hb1
  clear HL hb1
  have HX := hide (unhide HR w1 (unhide HB1))
  go_wp2_with fail
  refine (unhide HX).mono ?_; rintro e w2 ⟨rfl, hb2⟩
  have HB2 := hide ((unhide HB1).trans (hb2.mono (unhide HB1).size))
  clear HX HB1 hb2
  have HX := hide (unhide HK w2 (unhide HB2))
  go_wp2_with fail
  refine (unhide HX).mono ?_; rintro e w3 ⟨rfl, hb3⟩
  have HB3 := hide ((unhide HB2).trans (hb3.mono (unhide HB2).size))
  clear HX HB2 hb3
  have HX := hide (unhide HC w3 (unhide HB3))
  go_wp2_with fail
  refine (unhide HX).mono ?_; rintro e w4 ⟨rfl, hb4⟩
  have HB4 := hide ((unhide HB3).trans (hb4.mono (unhide HB3).size))
  clear HX HB3 hb4
  have HX := hide (unhide HKO w4)
  go_wp2_with fail
  refine (unhide HX).mono ?_; rintro e w5 ⟨rfl, hb5⟩
  have HB5 := hide ((unhide HB4).trans (hb5.mono (unhide HB4).size))
  clear HX HB4 hb5
  go_wp2
  go_ret
  exact ⟨rfl, unhide HB5⟩

set_option maxHeartbeats 4000000 in
set_option maxRecDepth 100000 in
theorem fr_bad_at (s u : ByteArray) (wd t d : Nat) (w : World) (a : Nat → Addr) (hS : Sent w a) (h1 : 1 ≤ wd ∧ wd ≤ 300000) (h2 : 1 ≤ t ∧ t ≤ 8) (h3 : s.size % wd ≠ 0) (h4 : d * (wd + 1) = u.size) (i : Nat) (hi : i < d) (h5 : ∀ j, j < i → Fil.kin u.data.toList wd j ≤ 4) (h6 : 4 < Fil.kin u.data.toList wd i) (hr : s.size ≤ 1000) (ha : u.size ≤ 1000) :
    Calls Tryd.prog 4 #[.string s, .string u, .int .i64 (wd : Int), .int .i64 (t : Int)] w fun e w' => e = .returned (.bool true) ∧ Below w.heap.size w w' := by
  have e0 : chkR s (wd : Int) (t : Int) 0 = .shape := by unfold chkR; rw [if_neg (by omega), if_pos]; rw [Int.toNat_natCast, Nat.add_zero]; exact h3
  have fm : u.size % (wd + 1) = 0 := by rw [← h4, Nat.mul_mod_left]
  have fd : u.size / (wd + 1) = d := by rw [← h4, Nat.mul_div_left d (show 0 < wd + 1 by omega)]
  have e1 : chkR u (wd : Int) (t : Int) 1 = .fine := by unfold chkR; rw [if_neg (by omega), if_neg]; rw [Int.toNat_natCast, fm]; omega
  have HL := hide (less_any w a hS)
  have HR := hide (fun w' (hb : Below w.heap.size w w') => Rows_sent s (wd : Int) (t : Int) w' a (hS.below hb))
  rw [e0] at HR
  unfold doV at HR
  dsimp only at HR
  have HK : Hid (∀ w', Below w.heap.size w w' → Calls Tryd.prog 9 #[.string u, .int .i64 (wd : Int), .int .i64 (t : Int)] w' fun e w'' => (∃ q, e = .returned (.tuple #[.string ⟨#[]⟩, .iface 44 (.pointer (some ⟨q, 0, none⟩))]) ∧ w''.cell? ⟨q, 0, none⟩ = some (.int .i64 (i : Int)) ∧ w''.cell? ⟨q, 1, none⟩ = some (sentV a 0)) ∧ Below w'.heap.size w' w'') := fun w' hb => by
    refine (Back_fine u wd t _ _ _ _ w' ((hS.below hb).cell 0 (by omega)) ((hS.below hb).cell 1 (by omega)) ((hS.below hb).cell 2 (by omega)) e1).mono ?_
    rintro e w'' ⟨h, hb2⟩
    rw [fd] at h
    exact ⟨h.at_ hi h5 h6, hb2⟩
  have HKO : Hid (∀ w' : World, Calls Tryd.prog 12 #[.string u, .int .i64 (wd : Int), .int .i64 (t : Int)] w' fun e w'' => e = .returned (.tuple #[.string ⟨#[]⟩, .int .i64 (i : Int)]) ∧ Below w'.heap.size w' w'') := fun w' => by
    refine (backOf_any u wd t d w' (by omega) (by omega) (by omega) (by omega) h4).mono ?_
    rintro e w'' ⟨h, hb2⟩
    exact ⟨h.at_ hi h5 h6, hb2⟩
  have HFL : Hid (∀ (q : Nat) (w' : World), Below w.heap.size w w' → w'.cell? ⟨q, 0, none⟩ = some (.int .i64 (i : Int)) → w'.cell? ⟨q, 1, none⟩ = some (sentV a 0) → Calls Tryd.prog 13 #[.iface 44 (.pointer (some ⟨q, 0, none⟩)), .agg #[.int .i64 1, .int .i64 (i : Int)]] w' fun e w'' => e = .returned (.bool true) ∧ Below w'.heap.size w' w'') := fun q w' hb q0 q1 => faulted_at q i 0 w' a (hS.below hb) (by omega) q0 q1
  have dk : decide ((i : Int) ≥ 0) = true := by simp
  have dki : decide ((0 : Int) ≤ (i : Int)) = true := dk
  generalize sentV a 0 = x0 at *
  have HC := hide (fun w' (hb : Below w.heap.size w w') => coded_sent 2 3 w' a (hS.below hb) (by omega) (by decide))
  generalize sentV a 2 = x2 at *
  have g1 : decide ((s.size : Int) > 1000) = false := by simp; omega
  have g1i : decide ((1000 : Int) < (s.size : Int)) = false := g1
  have g1n : decide (1000 < s.size) = false := by simp; omega
  have g2 : decide ((u.size : Int) > 1000) = false := by simp; omega
  have g2i : decide ((1000 : Int) < (u.size : Int)) = false := g2
  have g2n : decide (1000 < u.size) = false := by simp; omega
  have t1 : decide ((wd : Int) < 1) = false := by simp; omega
  have t2 : decide ((wd : Int) > 300000) = false := by simp; omega
  have t2i : decide ((300000 : Int) < (wd : Int)) = false := t2
  have t3 : decide ((t : Int) < 1) = false := by simp; omega
  have t4 : decide ((t : Int) > 8) = false := by simp; omega
  have t4i : decide ((8 : Int) < (t : Int)) = false := t4
  have hw0 : ¬ (wd : Int) = 0 := by omega
  have hw1 : ¬ (wd : Int) + 1 = 0 := by omega
  obtain ⟨m, hm⟩ : ∃ q, q = s.size % wd := ⟨_, rfl⟩
  have zm : (s.size : Int) % (wd : Int) = (m : Int) := by rw [hm]; exact (Int.natCast_emod _ _).symm
  have ym : (s.size : Int).tmod (wd : Int) = (m : Int) := by rw [Int.tmod_eq_emod_of_nonneg (by omega)]; exact zm
  have lm : m ≤ 1000 := by rw [hm]; exact Nat.le_trans (Nat.mod_le _ _) (by omega)
  have km : m ≠ 0 := by rw [hm]; exact h3
  have bm : ((m : Int) == 0) = false := by simp; omega
  have cm : ((m : Int) != 0) = true := by simp; omega
  clear km
  clear hm
  obtain ⟨n, hn⟩ : ∃ q, q = u.size % (wd + 1) := ⟨_, rfl⟩
  have zn : (u.size : Int) % ((wd : Int) + 1) = (n : Int) := by rw [hn]; exact (Int.natCast_emod _ _).symm
  have yn : (u.size : Int).tmod ((wd : Int) + 1) = (n : Int) := by rw [Int.tmod_eq_emod_of_nonneg (by omega)]; exact zn
  have ln : n ≤ 1000 := by rw [hn]; exact Nat.le_trans (Nat.mod_le _ _) (by omega)
  obtain rfl : n = 0 := by rw [hn]; exact fm
  clear hn
  have hw3 : wd ≤ 300000 := h1.2
  clear hS h1 h2 h3 h4 hr ha e0 e1 fm fd h5 h6 hi
  go_enter Tryd.func4, Tryd.ntmps4
  go_wp2_with fail
  refine (unhide HL).mono ?_; rintro e w1 ⟨rfl, hb1⟩
  have HB1 := hide hb1
  clear HL hb1
  have HX := hide (unhide HR w1 (unhide HB1))
  go_wp2_with fail
  refine (unhide HX).mono ?_; rintro e w2 ⟨rfl, hb2⟩
  have HB2 := hide ((unhide HB1).trans (hb2.mono (unhide HB1).size))
  clear HX HB1 hb2
  have HX := hide (unhide HK w2 (unhide HB2))
  go_wp2_with fail
  refine (unhide HX).mono ?_; rintro e w3 ⟨⟨q, rfl, q0, q1⟩, hb3⟩
  have HB3 := hide ((unhide HB2).trans (hb3.mono (unhide HB2).size))
  have hql := World.block_lt_of_cell? _ _ q0
  have HQ : Hid (∀ w', Below w3.heap.size w3 w' → w'.cell? ⟨q, 0, none⟩ = some (.int .i64 (i : Int)) ∧ w'.cell? ⟨q, 1, none⟩ = some x0) := fun w' hb => ⟨(hb.cell (p := ⟨q, 0, none⟩) hql).trans q0, (hb.cell (p := ⟨q, 1, none⟩) hql).trans q1⟩
  have HD3 : Hid (Below w3.heap.size w3 w3) := Below.refl _ _
  clear HX HB2 hb3 q0 q1 hql
  have HX := hide (unhide HC w3 (unhide HB3))
  go_wp2_with fail
  refine (unhide HX).mono ?_; rintro e w4 ⟨rfl, hb4⟩
  have HB4 := hide ((unhide HB3).trans (hb4.mono (unhide HB3).size))
  have HD4 := hide ((unhide HD3).trans (hb4.mono (unhide HD3).size))
  clear HD3
  clear HX HB3 hb4
  have HX := hide (unhide HKO w4)
  go_wp2_with fail
  refine (unhide HX).mono ?_; rintro e w5 ⟨rfl, hb5⟩
  have HB5 := hide ((unhide HB4).trans (hb5.mono (unhide HB4).size))
  have HD5 := hide ((unhide HD4).trans (hb5.mono (unhide HD4).size))
  clear HD4
  clear HX HB4 hb5
  have HX := hide (unhide HFL q w5 (unhide HB5) (unhide HQ w5 (unhide HD5)).1 (unhide HQ w5 (unhide HD5)).2)
  go_wp2_with fail
  refine (unhide HX).mono ?_; rintro e w6 ⟨rfl, hb6⟩
  have HB6 := hide ((unhide HB5).trans (hb6.mono (unhide HB5).size))
  clear HX HB5 hb6
  go_wp2
  go_ret
  exact ⟨rfl, unhide HB6⟩

end Go.Proofs.YtmmilamaahmaoafDoor
