/- The statement on numbers packed: the walk. -/
import Derived.Test.YtmmilamaahmaoaeDoorLkP
import Derived.Test.YtmmilamaahmaoaeDoorLk3
namespace Go.Proofs.YtmmilamaahmaoaeDoor
open Go.RowKit Lz

theorem two_at (w : World) (v0 v1 : Value) (t : TypeId) : (w.alloc (.cells #[v0, v1] t)).cell? ⟨w.heap.size, 0, none⟩ = some v0 ∧ (w.alloc (.cells #[v0, v1] t)).cell? ⟨w.heap.size, 1, none⟩ = some v1 ∧ (w.alloc (.cells #[v0, v1] t)).frozen? ⟨w.heap.size, 0, none⟩ = false ∧ (w.alloc (.cells #[v0, v1] t)).frozen? ⟨w.heap.size, 1, none⟩ = false ∧ (w.alloc (.cells #[v0, v1] t)).heap.size = w.heap.size + 1 := by simp

set_option maxHeartbeats 2000000 in
set_option maxRecDepth 100000 in
theorem lzwPacks_out (s : ByteArray) (z : Int) (w : World) (a : Nat → Addr) (hS : Sent w a) (hs : s.size ≤ 1500) (hz : z < 2 ∨ 8 < z) :
    Calls Tryd.prog 3 #[.string s, .int .i64 z] w fun e w' => e = .returned (.bool true) ∧ Below w.heap.size w w' := by
  have HE := hide (end_any w)
  have HP := hide (fun w' (hb : Below w.heap.size w w') => pack_out s z (sentV a 1) w' (by omega) hz ((hS.below hb).cell 1 (by omega)))
  have HF : Hid (∀ w', Below w.heap.size w w' → Calls Tryd.prog 12 #[sentV a 1, .agg #[.int .i64 2, .int .i64 (-1)]] w' fun e w'' => e = .returned (.bool true) ∧ Below w'.heap.size w' w'') := fun w' hb => faulted_bare 1 w' a (hS.below hb) (by omega)
  have HN := hide (fun w => fineL_any w)
  have HR := hide (fun w => bareL_any w)
  generalize sentV a 1 = x1 at *
  have g1 : decide ((s.size : Int) > 1500) = false := by simp; omega
  have g1i : decide ((1500 : Int) < (s.size : Int)) = false := g1
  have g1n : decide (1500 < s.size) = false := by simp; omega
  clear hS
  go_enter Tryd.func3, Tryd.ntmps3
  go_wp2_with fail
  refine (unhide HE).mono ?_; rintro e w1 ⟨rfl, hb1⟩
  have HB1 := hide hb1
  have HX := hide (unhide HP w1 hb1)
  clear HE HP hb1
  go_wp2_with fail
  refine (unhide HX).mono ?_; rintro e w2 ⟨rfl, hb2⟩
  have HB2 := hide ((unhide HB1).trans (hb2.mono (unhide HB1).size))
  clear HX hb2 HB1
  go_wp2_with fail
  refine (unhide HN w2).mono ?_; rintro e w3 ⟨rfl, hb3⟩
  have HB3 := hide ((unhide HB2).trans (hb3.mono (unhide HB2).size))
  clear hb3 HB2 HN
  obtain ⟨q0, q1, f0, f1, hz3⟩ := two_at w3 (.int .i64 0) (.int .i64 (-1)) 28
  have HB4 := hide ((unhide HB3).alloc (unhide HB3).size (.cells #[.int .i64 0, .int .i64 (-1)] 28))
  have HW4 : Hid (∃ w4, w4 = w3.alloc (.cells #[.int .i64 0, .int .i64 (-1)] 28)) := ⟨_, rfl⟩
  have HX := hide (unhide HR (w3.alloc (.cells #[.int .i64 0, .int .i64 (-1)] 28)))
  have hz2 : (decide (z < 2) = true) ∨ (decide (z < 2) = false ∧ decide (z > 8) = true ∧ decide (8 < z) = true) := by
    rcases hz with h | h
    · exact .inl (decide_eq_true h)
    · refine .inr ⟨decide_eq_false (by omega), decide_eq_true h, decide_eq_true h⟩
  clear hz HR HW4
  rcases hz2 with t1 | ⟨t1, t2, t3⟩
  all_goals
    go_wp2_with fail
    refine (unhide HX).mono ?_
    generalize hw4 : w3.alloc (.cells #[.int .i64 0, .int .i64 (-1)] 28) = w4 at *
    generalize hp : w3.heap.size = p at *
    rintro e w5 ⟨rfl, hb5⟩
    have hp4 : p < w4.heap.size := by omega
    have r0 := (hb5.cell (p := ⟨p, 0, none⟩) hp4).trans q0
    have r1 := (hb5.cell (p := ⟨p, 1, none⟩) hp4).trans q1
    have e0 := (hb5.frozen (p := ⟨p, 0, none⟩) hp4).trans f0
    have e1 := (hb5.frozen (p := ⟨p, 1, none⟩) hp4).trans f1
    have hwp : w.heap.size ≤ p := by rw [← hp]; exact (unhide HB3).size
    have HB5 := hide (((unhide HB4).trans (hb5.mono (unhide HB4).size)))
    have HB6 := hide (((unhide HB5).setCell (p := ⟨p, 0, none⟩) hwp (.int .i64 2)).setCell (p := ⟨p, 1, none⟩) hwp (.int .i64 (-1)))
    clear hb5 q0 q1 f0 f1 hw4 hp HX HB4 HB3 hz3
    have c0 : ((w5.setCell ⟨p, 0, none⟩ (.int .i64 2)).setCell ⟨p, 1, none⟩ (.int .i64 (-1))).cell? ⟨p, 0, none⟩ = some (.int .i64 2) := by simp [go_sem, r0]
    have c1 : ((w5.setCell ⟨p, 0, none⟩ (.int .i64 2)).setCell ⟨p, 1, none⟩ (.int .i64 (-1))).cell? ⟨p, 1, none⟩ = some (.int .i64 (-1)) := by simp [go_sem, r1]
    go_wp2
    generalize (w5.setCell ⟨p, 0, none⟩ (.int .i64 2)).setCell ⟨p, 1, none⟩ (.int .i64 (-1)) = w6 at *
    go_loopw [9] (fun iv wq => iv = .int .i64 0 ∧ wq = w6) (fun _ _ => 0)
    case atStart => exact ⟨rfl, rfl⟩
    case round =>
      obtain ⟨rfl, rfl⟩ := hrel
      have HX := hide (unhide HF wr (unhide HB6))
      by_cases h0 : 0 < s.size
      · have d0 : decide ((0 : Int) < (s.size : Int)) = true := by simp; omega
        have d0n : decide (0 < s.size) = true := by simp; omega
        go_wp2_with fail
        refine (unhide HX).mono ?_; rintro e w7 ⟨rfl, hb7⟩
        have HB7 := hide ((unhide HB6).trans (hb7.mono (unhide HB6).size))
        clear HX hb7 HB6
        go_wp2
        go_ret
        exact ⟨rfl, unhide HB7⟩
      · have d0 : decide ((0 : Int) < (s.size : Int)) = false := decide_eq_false (by omega)
        have d0n : decide (0 < s.size) = false := decide_eq_false h0
        go_wp2_with fail
        refine (unhide HX).mono ?_; rintro e w7 ⟨rfl, hb7⟩
        have HB7 := hide ((unhide HB6).trans (hb7.mono (unhide HB6).size))
        clear HX hb7 HB6
        go_wp2
        go_ret
        exact ⟨rfl, unhide HB7⟩

set_option maxHeartbeats 2000000 in
set_option maxRecDepth 100000 in
theorem lzwPacks_in (s : ByteArray) (W : Nat) (w : World) (hs : s.size ≤ 1500) (hW2 : 2 ≤ W) (hW : W ≤ 8) (hb : ∀ x ∈ s.data.toList, x.toNat < 2 ^ W) :
    Calls Tryd.prog 3 #[.string s, .int .i64 (W : Int)] w fun e w' => e = .returned (.bool true) ∧ Below w.heap.size w w' := by
  have HE := hide (end_any w)
  have HP := hide (fun w' => pack_in W s w' hW2 hW (by omega) hb)
  have HLZ := hide (fun w' => lzwOf_any W s w' hW2 hW hs hb)
  have HN := hide (fun w => fineL_any w)
  have hall : ∀ i, (h : i < s.size) → s[i].toNat < 2 ^ W := fun i h => hb _ (by
    have h' : i < s.data.toList.length := by simpa using h
    have : s.data.toList[i] = s[i] := by simp; rfl
    rw [← this]
    exact List.getElem_mem h')
  have rT := refl_textL (textP (packAll W s.data.toList))
  generalize textP (packAll W s.data.toList) = tx at *
  obtain ⟨X, hX⟩ : ∃ X, X = 2 ^ W := ⟨_, rfl⟩
  have hXw := shl_wrapK W (by omega)
  rw [← hX] at hXw hall
  have hXi : IntKind.i64.wrap ((2 : Int) ^ W) = (X : Int) := by rw [IntWalk.i64_left]; exact hXw
  have hW64 : decide ((W : Int) < 64) = true := by simp; omega
  have g1 : decide ((s.size : Int) > 1500) = false := by simp; omega
  have g1i : decide ((1500 : Int) < (s.size : Int)) = false := g1
  have g1n : decide (1500 < s.size) = false := by simp; omega
  have t1 : decide ((W : Int) < 2) = false := by simp; omega
  have t2 : decide ((W : Int) > 8) = false := by simp; omega
  have t3 : decide ((8 : Int) < (W : Int)) = false := t2
  have HALL := hide hall
  clear hb hall hX
  go_enter Tryd.func3, Tryd.ntmps3
  go_wp2_with fail
  refine (unhide HE).mono ?_; rintro e w1 ⟨rfl, hb1⟩
  have HB1 := hide hb1
  have HX := hide (unhide HP w1)
  clear HE HP hb1
  go_wp2_with fail
  refine (unhide HX).mono ?_; rintro e w2 ⟨rfl, hb2⟩
  have HB2 := hide ((unhide HB1).trans (hb2.mono (unhide HB1).size))
  clear HX hb2 HB1
  go_wp2_with fail
  refine (unhide HN w2).mono ?_; rintro e w3 ⟨rfl, hb3⟩
  have HB3 := hide ((unhide HB2).trans (hb3.mono (unhide HB2).size))
  clear hb3 HB2 HN
  obtain ⟨q0, q1, f0, f1, hz3⟩ := two_at w3 (.int .i64 0) (.int .i64 (-1)) 28
  have HB4 := hide ((unhide HB3).alloc (unhide HB3).size (.cells #[.int .i64 0, .int .i64 (-1)] 28))
  clear HB3
  go_wp2
  generalize w3.alloc (.cells #[.int .i64 0, .int .i64 (-1)] 28) = w4 at *
  generalize w3.heap.size = p at *
  clear hz3
  go_loopw [9] (fun iv wq => ∃ i n : Nat, i ≤ s.size ∧ iv = .int .i64 (i : Int) ∧ wq = w4.drewN n) (fun iv _ => s.size - (intOf iv).toNat)
  case atStart => exact ⟨0, 0, by omega, rfl, rfl⟩
  case round =>
    obtain ⟨i, n, hi, rfl, rfl⟩ := hrel
    by_cases hlt : i < s.size
    · have d0 : decide ((i : Int) < (s.size : Int)) = true := by simp; omega
      have d0n : decide (i < s.size) = true := by simp; omega
      have hii : (i : Int) < (s.size : Int) := by omega
      have hx := unhide HALL i hlt
      have hx2 := s[i].toNat_lt
      have d1 : decide ((s[i].toNat : Int) ≥ (X : Int)) = false := by simp; omega
      have d1' : decide ((X : Int) ≤ (s[i].toNat : Int)) = false := d1
      have d1n : decide (X ≤ s[i].toNat) = false := by simp; omega
      clear hx
      go_wp2
      go_quiet (fail)
      go_wp2
      go_roundw
      case rel => exact ⟨i + 1, _, by omega, by go_num, rfl⟩
      case measure => simp [intOf]; omega
    · obtain rfl : i = s.size := by omega
      have d0 : decide ((s.size : Int) < (s.size : Int)) = false := by simp
      have HX := hide (unhide HLZ (w4.drewN n))
      have HB5 := hide (below_drewN (unhide HB4) n)
      clear HB4
      go_wp2_with fail
      refine (unhide HX).mono ?_; rintro e w7 ⟨rfl, hb7⟩
      have HB7 := hide ((unhide HB5).trans (hb7.mono (unhide HB5).size))
      clear HX hb7 HB5
      go_wp2
      go_ret
      exact ⟨rfl, unhide HB7⟩

set_option maxHeartbeats 2000000 in
set_option maxRecDepth 100000 in
theorem lzwPacks_bad (s : ByteArray) (W j : Nat) (w : World) (a : Nat → Addr) (hS : Sent w a) (hs : s.size ≤ 1500) (hW2 : 2 ≤ W) (hW : W ≤ 8) (hj : j < s.size) (hok : ∀ i, (h : i < s.size) → i < j → s[i].toNat < 2 ^ W) (hbad : 2 ^ W ≤ s[j].toNat) :
    Calls Tryd.prog 3 #[.string s, .int .i64 (W : Int)] w fun e w' => e = .returned (.bool true) ∧ Below w.heap.size w w' := by
  have HE := hide (end_any w)
  have HP := hide (fun w' (hb : Below w.heap.size w w') => pack_bad W j s _ _ w' hW2 hW (by omega) hj hok hbad ((hS.below hb).cell 2 (by omega)))
  have HF : Hid (∀ (q : Nat) (w' : World), Below w.heap.size w w' → w'.cell? ⟨q, 0, none⟩ = some (.int .i64 (j : Int)) → w'.cell? ⟨q, 1, none⟩ = some (sentV a 2) → Calls Tryd.prog 12 #[.iface 53 (.pointer (some ⟨q, 0, none⟩)), .agg #[.int .i64 3, .int .i64 (j : Int)]] w' fun e w'' => e = .returned (.bool true) ∧ Below w'.heap.size w' w'') := fun q w' hb h0 h1 => faulted_at q j 2 w' a (hS.below hb) (by omega) h0 h1
  have HN := hide (fun w => fineL_any w)
  obtain ⟨X, hX⟩ : ∃ X, X = 2 ^ W := ⟨_, rfl⟩
  have hXw := shl_wrapK W (by omega)
  rw [← hX] at hXw hok hbad
  have hXi : IntKind.i64.wrap ((2 : Int) ^ W) = (X : Int) := by rw [IntWalk.i64_left]; exact hXw
  have hW64 : decide ((W : Int) < 64) = true := by simp; omega
  have g1 : decide ((s.size : Int) > 1500) = false := by simp; omega
  have g1i : decide ((1500 : Int) < (s.size : Int)) = false := g1
  have g1n : decide (1500 < s.size) = false := by simp; omega
  have t1 : decide ((W : Int) < 2) = false := by simp; omega
  have t2 : decide ((W : Int) > 8) = false := by simp; omega
  have t3 : decide ((8 : Int) < (W : Int)) = false := t2
  have HOK := hide hok
  have HBD := hide hbad
  clear hok hbad hX hS
  go_enter Tryd.func3, Tryd.ntmps3
  go_wp2_with fail
  refine (unhide HE).mono ?_; rintro e w1 ⟨rfl, hb1⟩
  have HB1 := hide hb1
  have HX := hide (unhide HP w1 hb1)
  clear HE HP hb1
  go_wp2_with fail
  refine (unhide HX).mono ?_; rintro e w2 ⟨q, rfl, z0, z1, hb2⟩
  have HB2 := hide ((unhide HB1).trans (hb2.mono (unhide HB1).size))
  have hq2 : q < w2.heap.size := World.block_lt_of_cell? _ _ z0
  have HZ : Hid (∀ w', Below w2.heap.size w2 w' → w'.cell? ⟨q, 0, none⟩ = some (.int .i64 (j : Int)) ∧ w'.cell? ⟨q, 1, none⟩ = some (sentV a 2)) := fun w' hb => ⟨(hb.cell (p := ⟨q, 0, none⟩) hq2).trans z0, (hb.cell (p := ⟨q, 1, none⟩) hq2).trans z1⟩
  clear HX hb2 HB1 z0 z1
  go_wp2_with fail
  refine (unhide HN w2).mono ?_; rintro e w3 ⟨rfl, hb3⟩
  have HB3 := hide ((unhide HB2).trans (hb3.mono (unhide HB2).size))
  obtain ⟨q0, q1, f0, f1, hz3⟩ := two_at w3 (.int .i64 0) (.int .i64 (-1)) 28
  have HB4 := hide ((unhide HB3).alloc (unhide HB3).size (.cells #[.int .i64 0, .int .i64 (-1)] 28))
  have HC4 := hide (hb3.alloc hb3.size (.cells #[.int .i64 0, .int .i64 (-1)] 28))
  have hp2 : w2.heap.size ≤ w3.heap.size := hb3.size
  have hp0 : w.heap.size ≤ w3.heap.size := (unhide HB3).size
  clear hb3 HB2 HN HB3
  go_wp2
  generalize w3.alloc (.cells #[.int .i64 0, .int .i64 (-1)] 28) = w4 at *
  generalize w3.heap.size = p at *
  clear hz3
  go_loopw [9] (fun iv wq => (∃ i n : Nat, i ≤ j ∧ iv = .int .i64 (i : Int) ∧ wq = w4.drewN n) ∨ (iv = .int .i64 ((j : Int) + 1) ∧ wq.cell? ⟨p, 0, none⟩ = some (.int .i64 3) ∧ wq.cell? ⟨p, 1, none⟩ = some (.int .i64 (j : Int)) ∧ Hid (Below w.heap.size w wq) ∧ Hid (Below w2.heap.size w2 wq))) (fun iv _ => j + 2 - (intOf iv).toNat)
  case atStart => exact .inl ⟨0, 0, by omega, rfl, rfl⟩
  case round =>
    rcases hrel with ⟨i, n, hi, rfl, rfl⟩ | ⟨rfl, c0, c1, HBq, HCq⟩
    · have d0 : decide ((i : Int) < (s.size : Int)) = true := by simp; omega
      have d0n : decide (i < s.size) = true := by simp; omega
      have hii : (i : Int) < (s.size : Int) := by omega
      have hil : i < s.size := by omega
      by_cases hlt : i < j
      · have hx := unhide HOK i hil hlt
        have hx2 := s[i].toNat_lt
        have d1 : decide ((s[i].toNat : Int) ≥ (X : Int)) = false := by simp; omega
        have d1' : decide ((X : Int) ≤ (s[i].toNat : Int)) = false := d1
        have d1n : decide (X ≤ s[i].toNat) = false := by simp; omega
        clear hx
        go_wp2
        go_quiet (fail)
        go_wp2
        go_roundw
        case rel => exact .inl ⟨i + 1, _, by omega, by go_num, rfl⟩
        case measure => simp [intOf]; omega
      · obtain rfl : i = j := by omega
        have hx := unhide HBD
        have hx2 := s[i].toNat_lt
        have d1 : decide ((s[i].toNat : Int) ≥ (X : Int)) = true := by simp; omega
        have d1' : decide ((X : Int) ≤ (s[i].toNat : Int)) = true := d1
        have d1n : decide (X ≤ s[i].toNat) = true := by simp; omega
        clear hx
        go_wp2
        go_quiet (fail)
        go_wp2
        go_roundw
        case rel =>
          refine .inr ⟨by go_num, ?_, ?_, ?_, ?_⟩
          · simp [go_sem, q0]
          · simp [go_sem, q1]
          · exact ((below_drewN (unhide HB4) _).setCell (p := ⟨p, 0, none⟩) hp0 _).setCell (p := ⟨p, 1, none⟩) hp0 _
          · exact ((below_drewN (unhide HC4) _).setCell (p := ⟨p, 0, none⟩) hp2 _).setCell (p := ⟨p, 1, none⟩) hp2 _
        case measure => simp [intOf]
    · have HX := hide (unhide HF q wr (unhide HBq) (unhide HZ wr (unhide HCq)).1 (unhide HZ wr (unhide HCq)).2)
      clear HCq HZ HF
      by_cases h1 : j + 1 < s.size
      · have d0 : decide ((j : Int) + 1 < (s.size : Int)) = true := by simp; omega
        have d0n : decide (j + 1 < s.size) = true := by simp; omega
        go_wp2_with fail
        refine (unhide HX).mono ?_; rintro e w7 ⟨rfl, hb7⟩
        have HB7 := hide ((unhide HBq).trans (hb7.mono (unhide HBq).size))
        clear HX hb7 HBq
        go_wp2
        go_ret
        exact ⟨rfl, unhide HB7⟩
      · have d0 : decide ((j : Int) + 1 < (s.size : Int)) = false := by simp; omega
        have d0n : decide (j + 1 < s.size) = false := by simp; omega
        go_wp2_with fail
        refine (unhide HX).mono ?_; rintro e w7 ⟨rfl, hb7⟩
        have HB7 := hide ((unhide HBq).trans (hb7.mono (unhide HBq).size))
        clear HX hb7 HBq
        go_wp2
        go_ret
        exact ⟨rfl, unhide HB7⟩

/-- The first number that is too wide. -/
theorem first_wide (s : ByteArray) (X : Nat) : ∀ n, n ≤ s.size → (∀ i, (h : i < s.size) → i < n → s[i].toNat < X) ∨ ∃ j, ∃ (hj : j < s.size), j < n ∧ (∀ i, (h : i < s.size) → i < j → s[i].toNat < X) ∧ X ≤ s[j].toNat := by
  intro n
  induction n with
  | zero => intro _; exact .inl (fun i _ h => by omega)
  | succ n ih =>
    intro hn
    rcases ih (by omega) with h | ⟨j, hj, h1, h2, h3⟩
    · by_cases hx : s[n].toNat < X
      · refine .inl (fun i hi h' => ?_)
        rcases Nat.lt_or_ge i n with q | q
        · exact h i hi q
        · obtain rfl : i = n := by omega
          exact hx
      · exact .inr ⟨n, by omega, by omega, h, by omega⟩
    · exact .inr ⟨j, hj, by omega, h2, h3⟩

set_option maxHeartbeats 2000000 in
theorem lzwPacks_any (s : ByteArray) (z : Int) (w : World) (a : Nat → Addr) (hS : Sent w a) (_hs : s.size ≤ maxLen) :
    Calls Tryd.prog 3 #[.string s, .int .i64 z] w fun e w' => e = .returned (.bool true) ∧ Below w.heap.size w w' := by
  by_cases h0 : s.size ≤ 1500
  rotate_left
  · have HE := hide (end_any w)
    have g1 : decide ((s.size : Int) > 1500) = true := by simp; omega
    have g1' : decide ((1500 : Int) < (s.size : Int)) = true := g1
    have g1n : decide (1500 < s.size) = true := by simp; omega
    clear hS
    go_enter Tryd.func3, Tryd.ntmps3
    go_wp2_with fail
    refine (unhide HE).mono ?_; rintro e w1 ⟨rfl, hb1⟩
    go_wp2
    go_ret
    exact ⟨rfl, hb1⟩
  rcases (by omega : (z < 2 ∨ 8 < z) ∨ (2 ≤ z ∧ z ≤ 8)) with h | h
  · exact lzwPacks_out s z w a hS h0 h
  obtain ⟨W, rfl⟩ := Int.eq_ofNat_of_zero_le (show 0 ≤ z by omega)
  rcases first_wide s (2 ^ W) s.size (Nat.le_refl _) with h1 | ⟨j, hj, _, h2, h3⟩
  · refine lzwPacks_in s W w h0 (by omega) (by omega) (fun x hx => ?_)
    obtain ⟨i, hi, rfl⟩ := List.getElem_of_mem hx
    have hi' : i < s.size := by simpa using hi
    have : s.data.toList[i] = s[i] := by simp; rfl
    rw [this]
    exact h1 i hi' hi'
  · exact lzwPacks_bad s W j w a hS h0 (by omega) (by omega) hj h2 h3
end Go.Proofs.YtmmilamaahmaoaeDoor
