/- Documents of which something is said; faults told: the statements' own. -/
import Derived.Test.YtkdckcengmkhhajDoorLy5
import Derived.Test.YtkdckcengmkhhajDoorMg10
namespace Go.Proofs.YtkdckcengmkhhajDoor
open Go.RowKit

/-- What tame answers. -/
def TameR (n : Nat) (L : Nat → Ly) (e : Ending) : Prop := ∃ r : Bool, e = .returned (.bool r) ∧ (r = true → n ≤ 12 ∧ ∀ i, i < n → (L i).n ≤ 4000)

set_option maxHeartbeats 2000000 in
set_option maxRecDepth 100000 in
theorem tame_any (W H : Int) (s : Option Addr) (n c : Nat) (L : Nat → Ly) (a : Nat → Option Addr) (cp : Nat → Nat) (w : World) (hL : IsLy w s n L a cp) (hZ : ∀ i, i < n → (L i).n ≤ 140737488355328) :
    Calls Tryd.prog 8 #[.agg #[.int .i64 W, .int .i64 H, .slice s n c]] w fun e w' => TameR n L e ∧ Below w.heap.size w w' := by
  have hM := hL.le
  unfold maxLen at hM
  have hHA := hide (al1 w (.cells #[.int .i64 W, .int .i64 H, .slice s n c] 24))
  have HL := hide (fun wr (hb : Below w.heap.size w wr) => hL.below hb)
  have HZ := hide hZ
  have HSW := hide (side_any W)
  have HSH := hide (side_any H)
  clear hL hZ
  obtain ⟨B, hB⟩ : ∃ B, B = w.heap.size := ⟨_, rfl⟩
  go_enter Tryd.func8, Tryd.ntmps8
  go_wp2_with fail
  generalize w.alloc (.cells #[.int .i64 W, .int .i64 H, .slice s n c] 24) = w1 at *
  rw [← hB] at HL hHA ⊢
  obtain ⟨hs1, k0, hb1⟩ := unhide hHA
  have HB := hide hb1
  have HBE := hide hB
  have hlB : B < w1.heap.size := by omega
  have c0 : w1.cell? ⟨B, 0, none⟩ = some (.int .i64 W) := by rw [blk_cell k0]; rfl
  have c1 : w1.cell? ⟨B, 1, none⟩ = some (.int .i64 H) := by rw [blk_cell k0]; rfl
  have c2 : w1.cell? ⟨B, 2, none⟩ = some (.slice s n c) := by rw [blk_cell k0]; rfl
  clear hHA hb1 hs1 hB k0
  have hj : (¬ (1 ≤ W ∧ W ≤ 256) ∨ ((1 ≤ W ∧ W ≤ 256) ∧ ¬ (1 ≤ H ∧ H ≤ 256))) ∨ ((1 ≤ W ∧ W ≤ 256) ∧ (1 ≤ H ∧ H ≤ 256)) := by omega
  obtain ⟨M, hM0, hM1⟩ : ∃ M : Nat, M ≤ 65536 ∧ (((1 ≤ W ∧ W ≤ 256) ∧ (1 ≤ H ∧ H ≤ 256)) → IntKind.i64.wrap (W * H) = (M : Int)) := by
    by_cases h : (1 ≤ W ∧ W ≤ 256) ∧ (1 ≤ H ∧ H ≤ 256)
    · obtain ⟨x, rfl⟩ := Int.eq_ofNat_of_zero_le (show 0 ≤ W by omega)
      obtain ⟨y, rfl⟩ := Int.eq_ofNat_of_zero_le (show 0 ≤ H by omega)
      have hm : x * y ≤ 65536 := Nat.mul_le_mul (show x ≤ 256 by omega) (show y ≤ 256 by omega)
      refine ⟨x * y, hm, fun _ => ?_⟩
      have e : (x : Int) * (y : Int) = ((x * y : Nat) : Int) := by simp
      rw [e, IntKind.wrap_i64]
      omega
    · exact ⟨0, by omega, fun q => absurd q h⟩
  have HL := hide (unhide HL w1 (unhide HB))
  refine (unhide HSW w1).mono ?_
  rintro e w2 ⟨rfl, rfl⟩
  rcases hj with (h1 | ⟨h1, h2⟩) | ⟨h1, h2⟩
  · rw [decide_eq_false h1]
    clear HSW HSH h1 hM1
    go_wp2
    go_loop [3, 4] (fun v iv => ∃ (i : Nat) (z : Int), i ≤ n ∧ iv = .int .i64 (i : Int) ∧ v = .int .i64 z ∧ Hid (n ≤ 12 → 0 ≤ z ∧ z ≤ 65536 + (i : Int) * 140737488355328 ∧ ∀ j, j < i → ((L j).n : Int) ≤ z)) (fun _ iv => n - (intOf iv).toNat)
    case atStart => exact ⟨0, 0, by omega, rfl, rfl, fun _ => ⟨by omega, by omega, fun j hj => by omega⟩⟩
    case round =>
      obtain ⟨i, z, hi, rfl, rfl, HK⟩ := hrel
      by_cases hlt : i < n
      · have g1 : decide ((i : Int) < (n : Int)) = true := decide_eq_true (by omega)
        have g1n : decide (i < n) = true := decide_eq_true hlt
        obtain ⟨b, off, rfl, hm, hc⟩ := (unhide HL).row.resolve_left (by omega)
        have l8 := (hc i hlt).c8
        have ha1 : (i : Int) < (n : Int) := by omega
        have HK2 : Hid (n ≤ 12 → 0 ≤ wrap64 (z + ((L i).n : Int)) ∧ wrap64 (z + ((L i).n : Int)) ≤ 65536 + ((i + 1 : Nat) : Int) * 140737488355328 ∧ ∀ j, j < i + 1 → ((L j).n : Int) ≤ wrap64 (z + ((L i).n : Int))) := fun h12 => by
          obtain ⟨z0, z1, z2⟩ := unhide HK h12
          have hz := unhide HZ i hlt
          have e : wrap64 (z + ((L i).n : Int)) = z + ((L i).n : Int) := by unfold wrap64; omega
          rw [e]
          refine ⟨by omega, by omega, fun j hj => ?_⟩
          rcases Nat.lt_succ_iff_lt_or_eq.1 hj with q | rfl
          · have := z2 j q; omega
          · omega
        clear hc hm HK
        go_wp2
        go_round
        case rel => exact ⟨i + 1, _, by omega, by go_num, rfl, HK2⟩
        case measure => simp [intOf]; omega
      · obtain rfl : i = n := by omega
        have g1 : decide ((i : Int) < (i : Int)) = false := by simp
        by_cases h4 : z ≤ 4000
        · have g4 : decide (z ≤ 4000) = true := decide_eq_true h4
          by_cases h12 : i ≤ 12
          · have g5 : decide ((i : Int) ≤ 12) = true := decide_eq_true (by omega)
            have g5n : decide (i ≤ 12) = true := decide_eq_true h12
            go_wp2
            go_ret
            exact ⟨⟨true, rfl, fun _ => ⟨h12, fun j hj => by have := (unhide HK h12).2.2 j hj; omega⟩⟩, bel_at (unhide HBE) (unhide HB)⟩
          · have g5 : decide ((i : Int) ≤ 12) = false := decide_eq_false (by omega)
            have g5n : decide (i ≤ 12) = false := decide_eq_false h12
            go_wp2
            go_ret
            exact ⟨⟨false, rfl, fun q => by cases q⟩, bel_at (unhide HBE) (unhide HB)⟩
        · have g4 : decide (z ≤ 4000) = false := decide_eq_false h4
          go_wp2
          go_ret
          exact ⟨⟨false, rfl, fun q => by cases q⟩, bel_at (unhide HBE) (unhide HB)⟩
  · rw [decide_eq_true h1]
    go_wp2_with fail
    refine (unhide HSH w2).mono ?_
    rintro e w3 ⟨rfl, rfl⟩
    rw [decide_eq_false h2]
    clear HSW HSH h1 h2 hM1
    go_wp2
    go_loop [3, 4] (fun v iv => ∃ (i : Nat) (z : Int), i ≤ n ∧ iv = .int .i64 (i : Int) ∧ v = .int .i64 z ∧ Hid (n ≤ 12 → 0 ≤ z ∧ z ≤ 65536 + (i : Int) * 140737488355328 ∧ ∀ j, j < i → ((L j).n : Int) ≤ z)) (fun _ iv => n - (intOf iv).toNat)
    case atStart => exact ⟨0, 0, by omega, rfl, rfl, fun _ => ⟨by omega, by omega, fun j hj => by omega⟩⟩
    case round =>
      obtain ⟨i, z, hi, rfl, rfl, HK⟩ := hrel
      by_cases hlt : i < n
      · have g1 : decide ((i : Int) < (n : Int)) = true := decide_eq_true (by omega)
        have g1n : decide (i < n) = true := decide_eq_true hlt
        obtain ⟨b, off, rfl, hm, hc⟩ := (unhide HL).row.resolve_left (by omega)
        have l8 := (hc i hlt).c8
        have ha1 : (i : Int) < (n : Int) := by omega
        have HK2 : Hid (n ≤ 12 → 0 ≤ wrap64 (z + ((L i).n : Int)) ∧ wrap64 (z + ((L i).n : Int)) ≤ 65536 + ((i + 1 : Nat) : Int) * 140737488355328 ∧ ∀ j, j < i + 1 → ((L j).n : Int) ≤ wrap64 (z + ((L i).n : Int))) := fun h12 => by
          obtain ⟨z0, z1, z2⟩ := unhide HK h12
          have hz := unhide HZ i hlt
          have e : wrap64 (z + ((L i).n : Int)) = z + ((L i).n : Int) := by unfold wrap64; omega
          rw [e]
          refine ⟨by omega, by omega, fun j hj => ?_⟩
          rcases Nat.lt_succ_iff_lt_or_eq.1 hj with q | rfl
          · have := z2 j q; omega
          · omega
        clear hc hm HK
        go_wp2
        go_round
        case rel => exact ⟨i + 1, _, by omega, by go_num, rfl, HK2⟩
        case measure => simp [intOf]; omega
      · obtain rfl : i = n := by omega
        have g1 : decide ((i : Int) < (i : Int)) = false := by simp
        by_cases h4 : z ≤ 4000
        · have g4 : decide (z ≤ 4000) = true := decide_eq_true h4
          by_cases h12 : i ≤ 12
          · have g5 : decide ((i : Int) ≤ 12) = true := decide_eq_true (by omega)
            have g5n : decide (i ≤ 12) = true := decide_eq_true h12
            go_wp2
            go_ret
            exact ⟨⟨true, rfl, fun _ => ⟨h12, fun j hj => by have := (unhide HK h12).2.2 j hj; omega⟩⟩, bel_at (unhide HBE) (unhide HB)⟩
          · have g5 : decide ((i : Int) ≤ 12) = false := decide_eq_false (by omega)
            have g5n : decide (i ≤ 12) = false := decide_eq_false h12
            go_wp2
            go_ret
            exact ⟨⟨false, rfl, fun q => by cases q⟩, bel_at (unhide HBE) (unhide HB)⟩
        · have g4 : decide (z ≤ 4000) = false := decide_eq_false h4
          go_wp2
          go_ret
          exact ⟨⟨false, rfl, fun q => by cases q⟩, bel_at (unhide HBE) (unhide HB)⟩
  · have hw := hM1 ⟨h1, h2⟩
    rw [decide_eq_true h1]
    go_wp2_with fail
    refine (unhide HSH w2).mono ?_
    rintro e w3 ⟨rfl, rfl⟩
    rw [decide_eq_true h2]
    clear HSW HSH h1 h2 hM1
    go_wp2
    go_loop [3, 4] (fun v iv => ∃ (i : Nat) (z : Int), i ≤ n ∧ iv = .int .i64 (i : Int) ∧ v = .int .i64 z ∧ Hid (n ≤ 12 → 0 ≤ z ∧ z ≤ 65536 + (i : Int) * 140737488355328 ∧ ∀ j, j < i → ((L j).n : Int) ≤ z)) (fun _ iv => n - (intOf iv).toNat)
    case atStart => exact ⟨0, (M : Int), by omega, rfl, rfl, fun _ => ⟨by omega, by omega, fun j hj => by omega⟩⟩
    case round =>
      obtain ⟨i, z, hi, rfl, rfl, HK⟩ := hrel
      by_cases hlt : i < n
      · have g1 : decide ((i : Int) < (n : Int)) = true := decide_eq_true (by omega)
        have g1n : decide (i < n) = true := decide_eq_true hlt
        obtain ⟨b, off, rfl, hm, hc⟩ := (unhide HL).row.resolve_left (by omega)
        have l8 := (hc i hlt).c8
        have ha1 : (i : Int) < (n : Int) := by omega
        have HK2 : Hid (n ≤ 12 → 0 ≤ wrap64 (z + ((L i).n : Int)) ∧ wrap64 (z + ((L i).n : Int)) ≤ 65536 + ((i + 1 : Nat) : Int) * 140737488355328 ∧ ∀ j, j < i + 1 → ((L j).n : Int) ≤ wrap64 (z + ((L i).n : Int))) := fun h12 => by
          obtain ⟨z0, z1, z2⟩ := unhide HK h12
          have hz := unhide HZ i hlt
          have e : wrap64 (z + ((L i).n : Int)) = z + ((L i).n : Int) := by unfold wrap64; omega
          rw [e]
          refine ⟨by omega, by omega, fun j hj => ?_⟩
          rcases Nat.lt_succ_iff_lt_or_eq.1 hj with q | rfl
          · have := z2 j q; omega
          · omega
        clear hc hm HK
        go_wp2
        go_round
        case rel => exact ⟨i + 1, _, by omega, by go_num, rfl, HK2⟩
        case measure => simp [intOf]; omega
      · obtain rfl : i = n := by omega
        have g1 : decide ((i : Int) < (i : Int)) = false := by simp
        by_cases h4 : z ≤ 4000
        · have g4 : decide (z ≤ 4000) = true := decide_eq_true h4
          by_cases h12 : i ≤ 12
          · have g5 : decide ((i : Int) ≤ 12) = true := decide_eq_true (by omega)
            have g5n : decide (i ≤ 12) = true := decide_eq_true h12
            go_wp2
            go_ret
            exact ⟨⟨true, rfl, fun _ => ⟨h12, fun j hj => by have := (unhide HK h12).2.2 j hj; omega⟩⟩, bel_at (unhide HBE) (unhide HB)⟩
          · have g5 : decide ((i : Int) ≤ 12) = false := decide_eq_false (by omega)
            have g5n : decide (i ≤ 12) = false := decide_eq_false h12
            go_wp2
            go_ret
            exact ⟨⟨false, rfl, fun q => by cases q⟩, bel_at (unhide HBE) (unhide HB)⟩
        · have g4 : decide (z ≤ 4000) = false := decide_eq_false h4
          go_wp2
          go_ret
          exact ⟨⟨false, rfl, fun q => by cases q⟩, bel_at (unhide HBE) (unhide HB)⟩
/-- layercakelaw3.faulted, of a pointer to api.Fault. -/
theorem faulted3_at (q i c : Nat) (w : World) (a : Nat → Addr) (hS : Sent w a) (hi : c < 9) (h0 : w.cell? ⟨q, 0, none⟩ = some (.int .i64 (i : Int))) (h1 : w.cell? ⟨q, 1, none⟩ = some (sentV a c)) :
    Calls Tryd.prog 13 #[.iface 82 (.pointer (some ⟨q, 0, none⟩)), .agg #[.int .i64 ((c : Int) + 1), .int .i64 (i : Int)]] w fun e w' => e = .returned (.bool true) ∧ Below w.heap.size w w' := by
  have hb0 : Below w.heap.size w (w.alloc (.cells #[.int .i64 ((c : Int) + 1), .int .i64 (i : Int)] 28)) := (Below.refl _ _).alloc (Nat.le_refl _) _
  have hq : q < w.heap.size := World.block_lt_of_cell? _ _ h0
  have HC := hide (code_fault q 0 (i : Int) c (w.alloc (.cells #[.int .i64 ((c : Int) + 1), .int .i64 (i : Int)] 28)) a (hS.below hb0) hi ((hb0.cell (p := ⟨q, 0, none⟩) hq).trans h0) ((hb0.cell (p := ⟨q, 0 + 1, none⟩) hq).trans h1))
  have f0 : (w.alloc (.cells #[.int .i64 ((c : Int) + 1), .int .i64 (i : Int)] 28)).cell? ⟨w.heap.size, 0, none⟩ = some (.int .i64 ((c : Int) + 1)) := by simp
  have f1 : (w.alloc (.cells #[.int .i64 ((c : Int) + 1), .int .i64 (i : Int)] 28)).cell? ⟨w.heap.size, 1, none⟩ = some (.int .i64 (i : Int)) := by simp
  have hz : w.heap.size < (w.alloc (.cells #[.int .i64 ((c : Int) + 1), .int .i64 (i : Int)] 28)).heap.size := by simp
  have c0 : (((c : Int) + 1) == 0) = false := by simp; omega
  clear hS h0 h1
  go_enter Tryd.func13, Tryd.ntmps13
  go_wp2_with fail
  refine (unhide HC).mono ?_
  generalize w.alloc (.cells #[.int .i64 ((c : Int) + 1), .int .i64 (i : Int)] 28) = w0 at *
  rintro e w1 ⟨rfl, hb1⟩
  have k0 := (hb1.cell (p := ⟨w.heap.size, 0, none⟩) hz).trans f0
  have k1 := (hb1.cell (p := ⟨w.heap.size, 1, none⟩) hz).trans f1
  have hbw : Below w.heap.size w w1 := hb0.trans (hb1.mono hb0.size)
  clear HC hb1 hb0 f0 f1 hz
  go_wp2
  go_ret
  exact ⟨rfl, hbw⟩

/-- .. of one of the errors, bare. -/
theorem faulted3_bare (c : Nat) (w : World) (a : Nat → Addr) (hS : Sent w a) (hi : c < 9) :
    Calls Tryd.prog 13 #[sentV a c, .agg #[.int .i64 ((c : Int) + 1), .int .i64 (-1)]] w fun e w' => e = .returned (.bool true) ∧ Below w.heap.size w w' := by
  have hb0 : Below w.heap.size w (w.alloc (.cells #[.int .i64 ((c : Int) + 1), .int .i64 (-1)] 28)) := (Below.refl _ _).alloc (Nat.le_refl _) _
  have HC := hide (code_sent c (w.alloc (.cells #[.int .i64 ((c : Int) + 1), .int .i64 (-1)] 28)) a (hS.below hb0) hi)
  have f0 : (w.alloc (.cells #[.int .i64 ((c : Int) + 1), .int .i64 (-1)] 28)).cell? ⟨w.heap.size, 0, none⟩ = some (.int .i64 ((c : Int) + 1)) := by simp
  have f1 : (w.alloc (.cells #[.int .i64 ((c : Int) + 1), .int .i64 (-1)] 28)).cell? ⟨w.heap.size, 1, none⟩ = some (.int .i64 (-1)) := by simp
  have hz : w.heap.size < (w.alloc (.cells #[.int .i64 ((c : Int) + 1), .int .i64 (-1)] 28)).heap.size := by simp
  have c0 : (((c : Int) + 1) == 0) = false := by simp; omega
  clear hS
  generalize sentV a c = v at *
  go_enter Tryd.func13, Tryd.ntmps13
  go_wp2_with fail
  refine (unhide HC).mono ?_
  generalize w.alloc (.cells #[.int .i64 ((c : Int) + 1), .int .i64 (-1)] 28) = w0 at *
  rintro e w1 ⟨rfl, hb1⟩
  have k0 := (hb1.cell (p := ⟨w.heap.size, 0, none⟩) hz).trans f0
  have k1 := (hb1.cell (p := ⟨w.heap.size, 1, none⟩) hz).trans f1
  have hbw : Below w.heap.size w w1 := hb0.trans (hb1.mono hb0.size)
  clear HC hb1 hb0 f0 f1 hz
  go_wp2
  go_ret
  exact ⟨rfl, hbw⟩

/-- .. of no error. -/
theorem faulted3_nil (z : Int) (w : World) :
    Calls Tryd.prog 13 #[.nilIface, .agg #[.int .i64 0, .int .i64 z]] w fun e w' => e = .returned (.bool true) ∧ Below w.heap.size w w' := by
  have hb0 : Below w.heap.size w (w.alloc (.cells #[.int .i64 0, .int .i64 z] 28)) := (Below.refl _ _).alloc (Nat.le_refl _) _
  have HC := hide (code_nil (w.alloc (.cells #[.int .i64 0, .int .i64 z] 28)))
  have f0 : (w.alloc (.cells #[.int .i64 0, .int .i64 z] 28)).cell? ⟨w.heap.size, 0, none⟩ = some (.int .i64 0) := by simp
  have hz : w.heap.size < (w.alloc (.cells #[.int .i64 0, .int .i64 z] 28)).heap.size := by simp
  go_enter Tryd.func13, Tryd.ntmps13
  go_wp2_with fail
  refine (unhide HC).mono ?_
  generalize w.alloc (.cells #[.int .i64 0, .int .i64 z] 28) = w0 at *
  rintro e w1 ⟨rfl, rfl⟩
  clear HC
  go_wp2
  go_ret
  exact ⟨rfl, hb0⟩

/-- .. of an error that says so. -/
theorem faulted3_is (v : Value) (cc : Nat) (zz : Int) (w : World) (a : Nat → Addr) (hS : Sent w a) (h : ErrIs w a cc zz v) :
    Calls Tryd.prog 13 #[v, .agg #[.int .i64 (cc : Int), .int .i64 zz]] w fun e w' => e = .returned (.bool true) ∧ Below w.heap.size w w' := by
  rcases h with ⟨rfl, rfl, rfl⟩ | ⟨rfl, rfl, rfl⟩ | ⟨q, i, h1, h2, rfl, rfl, h5, h6⟩
  · exact faulted3_nil _ w
  · exact faulted3_bare 1 w a hS (by omega)
  · obtain ⟨d, rfl⟩ : ∃ d, cc = d + 1 := ⟨cc - 1, by omega⟩
    have := faulted3_at q i d w a hS (by omega) h5 h6
    simpa using this
end Go.Proofs.YtkdckcengmkhhajDoor
