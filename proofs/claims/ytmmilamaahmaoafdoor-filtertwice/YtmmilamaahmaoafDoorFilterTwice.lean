/- The statement that what is done is undone: the walk. -/
import Derived.Test.YtmmilamaahmaoafDoorFf
import Derived.Test.YtmmilamaahmaoafDoorTold0
namespace Go.Proofs.YtmmilamaahmaoafDoor
open Go.RowKit

theorem refl_text2 (u : ByteArray) : (u.toList == u.toList) = true := by simp

theorem Do_told (z st : Int) (row ahead : ByteArray) (w : World) (a : Nat → Addr) (hS : Told w [1, 2] a) (hr : row.size ≤ 300000) :
    Calls Tryd.prog 6 #[.int .i64 z, .string row, .string ahead, .int .i64 st] w fun e w' => e = .returned (doV (sentV a 1) (sentV a 2) (Fil.row z.toNat row.data.toList ahead.data.toList st.toNat row.size) (chk z row ahead st)) ∧ Below w.heap.size w w' :=
  Do_any z st row ahead _ _ _ _ w (hS 1 (by simp)) (hS 2 (by simp)) hr
theorem Undo_told (z st : Int) (row ahead : ByteArray) (w : World) (a : Nat → Addr) (hS : Told w [1, 2] a) (hr : row.size ≤ 300000) :
    Calls Tryd.prog 7 #[.int .i64 z, .string row, .string ahead, .int .i64 st] w fun e w' => e = .returned (doV (sentV a 1) (sentV a 2) (Fil.un z.toNat row.data.toList ahead.data.toList st.toNat row.size) (chk z row ahead st)) ∧ Below w.heap.size w w' :=
  Undo_any z st row ahead _ _ _ _ w (hS 1 (by simp)) (hS 2 (by simp)) hr

theorem less_told (w : World) (a : Nat → Addr) (hS : Told w [1, 2] a) :
    Calls Tryd.prog 5 #[] w fun e w' => e = .returned (.bool true) ∧ Below w.heap.size w w' := by
  have HD := hide (Do_told 1 1 ⟨#[3, 5]⟩ ⟨#[]⟩ w a hS (by decide))
  have e1 : chk 1 ⟨#[3, 5]⟩ ⟨#[]⟩ 1 = .fine := rfl
  have e2 : tx (Fil.row (1 : Int).toNat (⟨#[3, 5]⟩ : ByteArray).data.toList (⟨#[]⟩ : ByteArray).data.toList (1 : Int).toNat (⟨#[3, 5]⟩ : ByteArray).size) = ⟨#[3, 2]⟩ := by rfl
  rw [e1] at HD
  unfold doV at HD
  dsimp only at HD
  rw [e2] at HD
  have r1 := refl_text2 ⟨#[3, 2]⟩
  clear e1 e2 hS
  go_enter Tryd.func5, Tryd.ntmps5
  go_wp2_with fail
  refine (unhide HD).mono ?_; rintro e w1 ⟨rfl, hb1⟩
  go_wp2
  go_ret
  exact ⟨rfl, hb1⟩

theorem doV_err (a : Nat → Addr) (r : List UInt8) (c : ChkS) (h : c ≠ .fine) : ∃ p : Addr, doV (sentV a 1) (sentV a 2) r c = .tuple #[.string ⟨#[]⟩, .iface 93 (.pointer (some p))] := by
  cases c with
  | fine => exact absurd rfl h
  | bound => exact ⟨a 1, rfl⟩
  | shape => exact ⟨a 2, rfl⟩
theorem chk_of {z st : Int} {row row' ahead : ByteArray} (h : row'.size = row.size) : chk z row' ahead st = chk z row ahead st := by unfold chk; rw [h]

set_option maxHeartbeats 4000000 in
set_option maxRecDepth 100000 in
theorem filterTwice_any (z : Int) (row ahead : ByteArray) (st : Int) (w : World) (a : Nat → Addr) (hS : Told w [1, 2] a) (_hr : row.size ≤ maxLen) (_ha : ahead.size ≤ maxLen) :
    Calls Tryd.prog 3 #[.int .i64 z, .string row, .string ahead, .int .i64 st] w fun e w' => e = .returned (.bool true) ∧ Below w.heap.size w w' := by
  have HL := hide (less_told w a hS)
  by_cases h0 : row.size ≤ 300
  rotate_left
  · have g1 : decide ((row.size : Int) > 300) = true := by simp; omega
    have g1' : decide ((300 : Int) < (row.size : Int)) = true := g1
    have g1n : decide (300 < row.size) = true := by simp; omega
    clear hS
    go_enter Tryd.func3, Tryd.ntmps3
    go_wp2_with fail
    refine (unhide HL).mono ?_; rintro e w1 ⟨rfl, hb1⟩
    go_wp2
    go_ret
    exact ⟨rfl, hb1⟩
  have g1 : decide ((row.size : Int) > 300) = false := by simp; omega
  have g1' : decide ((300 : Int) < (row.size : Int)) = false := g1
  have g1n : decide (300 < row.size) = false := by simp; omega
  by_cases h00 : ahead.size ≤ 300
  rotate_left
  · have g2 : decide ((ahead.size : Int) > 300) = true := by simp; omega
    have g2' : decide ((300 : Int) < (ahead.size : Int)) = true := g2
    have g2n : decide (300 < ahead.size) = true := by simp; omega
    clear hS
    go_enter Tryd.func3, Tryd.ntmps3
    go_wp2_with fail
    refine (unhide HL).mono ?_; rintro e w1 ⟨rfl, hb1⟩
    go_wp2
    go_ret
    exact ⟨rfl, hb1⟩
  have g2 : decide ((ahead.size : Int) > 300) = false := by simp; omega
  have g2' : decide ((300 : Int) < (ahead.size : Int)) = false := g2
  have g2n : decide (300 < ahead.size) = false := by simp; omega
  have HD := hide (fun w' (hb : Below w.heap.size w w') => Do_told z st row ahead w' a (hS.below hb) (by omega))
  have HU := hide (fun w' (hb : Below w.heap.size w w') => Undo_told z st row ahead w' a (hS.below hb) (by omega))
  cases hk : chk z row ahead st with
  | fine =>
    obtain ⟨⟨hz0, hz5⟩, ⟨hs1, hs8⟩, hl⟩ := chk_fine hk
    obtain ⟨k, rfl⟩ := Int.eq_ofNat_of_zero_le hz0
    obtain ⟨s, rfl⟩ := Int.eq_ofNat_of_zero_le (show 0 ≤ st by omega)
    rw [hk] at HD HU
    unfold doV at HD HU
    simp only [Int.toNat_natCast] at HD HU
    have hrs : row.data.toList.length = row.size := by simp
    obtain ⟨R, hR⟩ : ∃ R, R = Fil.row k row.data.toList ahead.data.toList s row.size := ⟨_, rfl⟩
    obtain ⟨U, hU⟩ : ∃ U, U = Fil.un k row.data.toList ahead.data.toList s row.size := ⟨_, rfl⟩
    rw [← hR] at HD
    rw [← hU] at HU
    have hRl : R.length = row.size := by rw [hR, Fil.row_length]
    have hUl : U.length = row.size := by rw [hU, Fil.un_length]
    have eR : Fil.un k R ahead.data.toList s row.size = row.data.toList := by
      rw [hR, Fil.un_row k row.data.toList ahead.data.toList s row.size (by omega) (by omega) row.size (Nat.le_refl _), List.take_of_length_le (by omega)]
    have eU : Fil.row k U ahead.data.toList s row.size = row.data.toList := by
      rw [hU, Fil.row_un k row.data.toList ahead.data.toList s row.size (by omega) (by omega) row.size (Nat.le_refl _), List.take_of_length_le (by omega)]
    have HX : Hid (∀ w', Below w.heap.size w w' → Calls Tryd.prog 7 #[.int .i64 (k : Int), .string (tx R), .string ahead, .int .i64 (s : Int)] w' fun e w'' => e = .returned (.tuple #[.string row, .nilIface]) ∧ Below w'.heap.size w' w'') := fun w' hb => by
      have := Undo_told (k : Int) (s : Int) (tx R) ahead w' a (hS.below hb) (by rw [tx_size]; omega)
      rw [chk_of (row := row) (by rw [tx_size, hRl]), hk, tx_list, tx_size, hRl] at this
      unfold doV at this
      simp only [Int.toNat_natCast] at this
      rw [eR, tx_of] at this
      exact this
    have HY : Hid (∀ w', Below w.heap.size w w' → Calls Tryd.prog 6 #[.int .i64 (k : Int), .string (tx U), .string ahead, .int .i64 (s : Int)] w' fun e w'' => e = .returned (.tuple #[.string row, .nilIface]) ∧ Below w'.heap.size w' w'') := fun w' hb => by
      have := Do_told (k : Int) (s : Int) (tx U) ahead w' a (hS.below hb) (by rw [tx_size]; omega)
      rw [chk_of (row := row) (by rw [tx_size, hUl]), hk, tx_list, tx_size, hUl] at this
      unfold doV at this
      simp only [Int.toNat_natCast] at this
      rw [eU, tx_of] at this
      exact this
    have r1 := refl_text2 row
    clear hS hk hz0 hz5 hs1 hs8 hl hrs hR hU hRl hUl eR eU
    go_enter Tryd.func3, Tryd.ntmps3
    go_wp2_with fail
    refine (unhide HL).mono ?_; rintro e w1 ⟨rfl, hb1⟩
    have HB1 := hide hb1
    clear HL hb1
    have HC := hide (unhide HD w1 (unhide HB1))
    go_wp2_with fail
    refine (unhide HC).mono ?_; rintro e w2 ⟨rfl, hb2⟩
    have HB2 := hide ((unhide HB1).trans (hb2.mono (unhide HB1).size))
    clear HC HB1 hb2
    have HC := hide (unhide HU w2 (unhide HB2))
    go_wp2_with fail
    refine (unhide HC).mono ?_; rintro e w3 ⟨rfl, hb3⟩
    have HB3 := hide ((unhide HB2).trans (hb3.mono (unhide HB2).size))
    clear HC HB2 hb3
    have HC := hide (unhide HX w3 (unhide HB3))
    go_wp2_with fail
    refine (unhide HC).mono ?_; rintro e w4 ⟨rfl, hb4⟩
    have HB4 := hide ((unhide HB3).trans (hb4.mono (unhide HB3).size))
    clear HC HB3 hb4
    have HC := hide (unhide HY w4 (unhide HB4))
    go_wp2_with fail
    refine (unhide HC).mono ?_; rintro e w5 ⟨rfl, hb5⟩
    have HB5 := hide ((unhide HB4).trans (hb5.mono (unhide HB4).size))
    clear HC HB4 hb5
    go_wp2
    go_ret
    exact ⟨rfl, unhide HB5⟩
  | bound =>
    obtain ⟨p, hp⟩ := doV_err a (Fil.row z.toNat row.data.toList ahead.data.toList st.toNat row.size) (chk z row ahead st) (by rw [hk]; intro e; cases e)
    obtain ⟨q, hq⟩ := doV_err a (Fil.un z.toNat row.data.toList ahead.data.toList st.toNat row.size) (chk z row ahead st) (by rw [hk]; intro e; cases e)
    rw [hp] at HD
    rw [hq] at HU
    clear hS hk hp hq
    go_enter Tryd.func3, Tryd.ntmps3
    go_wp2_with fail
    refine (unhide HL).mono ?_; rintro e w1 ⟨rfl, hb1⟩
    have HB1 := hide hb1
    clear HL hb1
    have HC := hide (unhide HD w1 (unhide HB1))
    go_wp2_with fail
    refine (unhide HC).mono ?_; rintro e w2 ⟨rfl, hb2⟩
    have HB2 := hide ((unhide HB1).trans (hb2.mono (unhide HB1).size))
    clear HC HB1 hb2
    have HC := hide (unhide HU w2 (unhide HB2))
    go_wp2_with fail
    refine (unhide HC).mono ?_; rintro e w3 ⟨rfl, hb3⟩
    have HB3 := hide ((unhide HB2).trans (hb3.mono (unhide HB2).size))
    clear HC HB2 hb3
    go_wp2
    go_ret
    exact ⟨rfl, unhide HB3⟩
  | shape =>
    obtain ⟨p, hp⟩ := doV_err a (Fil.row z.toNat row.data.toList ahead.data.toList st.toNat row.size) (chk z row ahead st) (by rw [hk]; intro e; cases e)
    obtain ⟨q, hq⟩ := doV_err a (Fil.un z.toNat row.data.toList ahead.data.toList st.toNat row.size) (chk z row ahead st) (by rw [hk]; intro e; cases e)
    rw [hp] at HD
    rw [hq] at HU
    clear hS hk hp hq
    go_enter Tryd.func3, Tryd.ntmps3
    go_wp2_with fail
    refine (unhide HL).mono ?_; rintro e w1 ⟨rfl, hb1⟩
    have HB1 := hide hb1
    clear HL hb1
    have HC := hide (unhide HD w1 (unhide HB1))
    go_wp2_with fail
    refine (unhide HC).mono ?_; rintro e w2 ⟨rfl, hb2⟩
    have HB2 := hide ((unhide HB1).trans (hb2.mono (unhide HB1).size))
    clear HC HB1 hb2
    have HC := hide (unhide HU w2 (unhide HB2))
    go_wp2_with fail
    refine (unhide HC).mono ?_; rintro e w3 ⟨rfl, hb3⟩
    have HB3 := hide ((unhide HB2).trans (hb3.mono (unhide HB2).size))
    clear HC HB2 hb3
    go_wp2
    go_ret
    exact ⟨rfl, unhide HB3⟩
end Go.Proofs.YtmmilamaahmaoafDoor
