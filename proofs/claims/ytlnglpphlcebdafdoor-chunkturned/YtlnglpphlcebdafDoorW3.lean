/- Walks of CRC of a text, of the document's CRC, and of ADLER's functions. -/
import Derived.Test.YtlnglpphlcebdafDoorW2
namespace Go.Proofs.YtlnglpphlcebdafDoor
open Go.RowKit

def crcOf (l : List UInt8) : Nat := 4294967295 ^^^ Crc.run 4294967295 l

theorem crc_any (s : ByteArray) (w : World) (hs : s.size ≤ maxLen) :
    Calls Tryd.prog 59 #[.string s] w fun e w' => e = .returned (.int .u32 (crcOf s.data.toList : Nat)) ∧ Below w.heap.size w w' := by
  go_enter Tryd.func59, Tryd.ntmps59
  go_wp2_with (go_at_call 72; refine (moreCRC_any 0 s _ (by omega) hs).mono ?_; rintro e w' ⟨rfl, hb⟩)
  go_ret
  exact ⟨rfl, hb⟩

theorem step_even (c : Nat) (h1 : ¬ c % 2 = 1) : Crc.step c = c / 2 := by unfold Crc.step; rw [if_neg h1]

set_option maxHeartbeats 400000 in
set_option maxRecDepth 100000 in
theorem refCRC_any (s : ByteArray) (w : World) (hs : s.size ≤ maxLen) :
    Calls Tryd.prog 43 #[.string s] w fun e w' => e = .returned (.int .u32 (crcOf s.data.toList : Nat)) ∧ w' = w := by
  unfold maxLen at hs
  unfold crcOf
  have hxl : 4294967295 < 4294967296 := by omega
  go_enter Tryd.func43, Tryd.ntmps43
  go_wp2
  go_loop [3, 4] (fun c i => ∃ k : Nat, k ≤ s.size ∧ i = .int .i64 k ∧ c = .int .u32 (Crc.run 4294967295 (s.data.toList.take k) : Nat)) (fun _ i => s.size - (intOf i).toNat)
  case atStart => exact ⟨0, by omega, rfl, rfl⟩
  case round =>
    obtain ⟨k, hk, rfl, rfl⟩ := hrel
    have hrl := Crc.run_lt 4294967295 (s.data.toList.take k) hxl
    by_cases hlt : k < s.size
    · have hsn := hide (Crc.run_snoc 4294967295 (s.data.toList.take k) s[k])
      have hd : decide ((k : Int) < (s.size : Int)) = true := by simp; omega
      have hts := hide (take_snoc s k hlt)
      generalize Crc.run 4294967295 (s.data.toList.take k) = r at *
      have hb := s[k].toNat_lt
      have hx := u32_xor_nat r s[k].toNat hrl (by omega)
      have hxl2 := xor_lt32 hrl (show s[k].toNat < 4294967296 by omega)
      generalize r ^^^ s[k].toNat = x at *
      go_wp2
      go_loop [3, 5] (fun c i => ∃ j : Nat, j ≤ 8 ∧ i = .int .i64 j ∧ c = .int .u32 (Crc.steps j x : Nat)) (fun _ i => 8 - (intOf i).toNat)
      case atStart => exact ⟨0, by omega, rfl, rfl⟩
      case round =>
        obtain ⟨j, hj, rfl, rfl⟩ := hrel
        by_cases hlt8 : j < 8
        · have hs := Crc.steps_lt j (c := x) (by omega)
          have he := hide (Crc.steps_succ' j x)
          have hd8 : decide ((j : Int) < 8) = true := by simp; omega
          generalize Crc.steps j x = y at *
          by_cases h1 : y % 2 = 1
          · have hb1 : ((y : Int) % 2 == 1) = true := by simp; omega
            have hso := step_odd y hs h1
            go_wp2
            go_round
            case rel => exact ⟨j + 1, by omega, by go_num, by rw [unhide he]⟩
            case measure => simp [intOf]; omega
          · have hb1 : ((y : Int) % 2 == 1) = false := by simp; omega
            have hse := hide (step_even y h1)
            go_wp2
            go_round
            case rel => exact ⟨j + 1, by omega, by go_num, by rw [unhide he, unhide hse]; go_num⟩
            case measure => simp [intOf]; omega
        · have : j = 8 := by omega
          subst this
          go_wp2
          go_round
          case rel => exact ⟨k + 1, by omega, by go_num, by rw [unhide hts, unhide hsn]⟩
          case measure => simp [intOf]; omega
    · have : k = s.size := by omega
      subst this
      have hd : decide ((s.size : Int) < (s.size : Int)) = false := by simp
      have he := hide (show s.data.toList.take s.size = s.data.toList from List.take_of_length_le (by simp))
      have hf := u32_xor_nat _ 4294967295 hrl (by omega)
      go_wp2
      go_ret
      exact ⟨ret_int (by rw [Nat.xor_comm, unhide he] at hf; rw [unhide he]; exact hf), rfl⟩

end Go.Proofs.YtlnglpphlcebdafDoor
