/- Walks of CRC of a text, of the document's CRC, and of ADLER's functions. -/
import Derived.Test.YtclkfjbkffcgcaaDoorW2
import Derived.Test.YtclkfjbkffcgcaaDoorAd
namespace Go.Proofs.YtclkfjbkffcgcaaDoor
open Go.RowKit

def crcOf (l : List UInt8) : Nat := 4294967295 ^^^ Crc.run 4294967295 l

theorem crc_any (s : ByteArray) (w : World) (hs : s.size ≤ maxLen) :
    Calls Tryd.prog 12 #[.string s] w fun e w' => e = .returned (.int .u32 (crcOf s.data.toList : Nat)) ∧ Below w.heap.size w w' := by
  go_enter Tryd.func12, Tryd.ntmps12
  go_wp2_with (go_at_call 24; refine (moreCRC_any 0 s _ (by omega) hs).mono ?_; rintro e w' ⟨rfl, hb⟩)
  go_ret
  exact ⟨rfl, hb⟩

theorem step_even (c : Nat) (h1 : ¬ c % 2 = 1) : Crc.step c = c / 2 := by unfold Crc.step; rw [if_neg h1]

set_option maxHeartbeats 400000 in
set_option maxRecDepth 100000 in
theorem refCRC_any (s : ByteArray) (w : World) (hs : s.size ≤ maxLen) :
    Calls Tryd.prog 15 #[.string s] w fun e w' => e = .returned (.int .u32 (crcOf s.data.toList : Nat)) ∧ w' = w := by
  unfold maxLen at hs
  unfold crcOf
  have hxl : 4294967295 < 4294967296 := by omega
  go_enter Tryd.func15, Tryd.ntmps15
  go_wp2
  go_loop [3, 4] (fun c i => ∃ k : Nat, k ≤ s.size ∧ i = .int .i64 k ∧ c = .int .u32 (Crc.run 4294967295 (s.data.toList.take k) : Nat)) (fun _ i => s.size - (intOf i).toNat)
  case atStart => exact ⟨0, by omega, rfl, rfl⟩
  case round =>
    obtain ⟨k, hk, rfl, rfl⟩ := hrel
    have hrl := Crc.run_lt 4294967295 (s.data.toList.take k) hxl
    by_cases hlt : k < s.size
    · have hsn := hide (Crc.run_snoc 4294967295 (s.data.toList.take k) s[k])
      have hd : decide ((k : Int) < (s.size : Int)) = true := by simp; omega
      have hts := hide (take_snoc s k hlt)
      generalize Crc.run 4294967295 (s.data.toList.take k) = r at *
      have hb := s[k].toNat_lt
      have hx := u32_xor_nat r s[k].toNat hrl (by omega)
      have hxl2 := xor_lt32 hrl (show s[k].toNat < 4294967296 by omega)
      generalize r ^^^ s[k].toNat = x at *
      go_wp2
      go_loop [3, 5] (fun c i => ∃ j : Nat, j ≤ 8 ∧ i = .int .i64 j ∧ c = .int .u32 (Crc.steps j x : Nat)) (fun _ i => 8 - (intOf i).toNat)
      case atStart => exact ⟨0, by omega, rfl, rfl⟩
      case round =>
        obtain ⟨j, hj, rfl, rfl⟩ := hrel
        by_cases hlt8 : j < 8
        · have hs := Crc.steps_lt j (c := x) (by omega)
          have he := hide (Crc.steps_succ' j x)
          have hd8 : decide ((j : Int) < 8) = true := by simp; omega
          generalize Crc.steps j x = y at *
          by_cases h1 : y % 2 = 1
          · have hb1 : ((y : Int) % 2 == 1) = true := by simp; omega
            have hso := step_odd y hs h1
            go_wp2
            go_round
            case rel => exact ⟨j + 1, by omega, by go_num, by rw [unhide he]⟩
            case measure => simp [intOf]; omega
          · have hb1 : ((y : Int) % 2 == 1) = false := by simp; omega
            have hse := hide (step_even y h1)
            go_wp2
            go_round
            case rel => exact ⟨j + 1, by omega, by go_num, by rw [unhide he, unhide hse]; go_num⟩
            case measure => simp [intOf]; omega
        · have : j = 8 := by omega
          subst this
          go_wp2
          go_round
          case rel => exact ⟨k + 1, by omega, by go_num, by rw [unhide hts, unhide hsn]⟩
          case measure => simp [intOf]; omega
    · have : k = s.size := by omega
      subst this
      have hd : decide ((s.size : Int) < (s.size : Int)) = false := by simp
      have he := hide (show s.data.toList.take s.size = s.data.toList from List.take_of_length_le (by simp))
      have hf := u32_xor_nat _ 4294967295 hrl (by omega)
      go_wp2
      go_ret
      exact ⟨ret_int (by rw [Nat.xor_comm, unhide he] at hf; rw [unhide he]; exact hf), rfl⟩

theorem and_low (n : Nat) (h : n < 4294967296) : bits .and .u32 (n : Int) 65535 = ((n % 65536 : Nat) : Int) := by
  have := u32_and_nat n 65535 h (by omega)
  rw [show n &&& 65535 = n % 65536 from Nat.and_two_pow_sub_one_eq_mod n 16] at this
  exact this

theorem halves_any (n : Nat) (w : World) (h : n < 4294967296) :
    Calls Tryd.prog 25 #[.int .u32 (n : Int)] w fun e w' => e = .returned (.tuple #[.int .u64 ((Ad.part n).1 : Nat), .int .u64 ((Ad.part n).2 : Nat)]) ∧ w' = w := by
  have ha := and_low n h
  go_enter Tryd.func25, Tryd.ntmps25
  go_wp2
  go_ret2
  exact ⟨rfl, rfl⟩

theorem or_join (r : Nat × Nat) (h1 : r.1 < 65521) (h2 : r.2 < 65521) : bits .or .u64 ((r.2 : Int) * 65536) (r.1 : Int) % 4294967296 = (Ad.join r : Nat) := by
  have := u64_or_nat (r.2 * 65536) r.1 (by omega) (by omega)
  rw [nat_join 16 (r.2 * 65536) r.1 (by omega) (by omega)] at this
  rw [show ((r.2 : Int) * 65536) = ((r.2 * 65536 : Nat) : Int) from by omega, this]
  unfold Ad.join
  omega

set_option maxHeartbeats 400000 in
set_option maxRecDepth 100000 in
theorem moreAdler_any (n : Nat) (s : ByteArray) (w : World) (h : n < 4294967296) (hs : s.size ≤ maxLen) :
    Calls Tryd.prog 26 #[.int .u32 (n : Int), .string s] w fun e w' => e = .returned (.int .u32 (Ad.more n s.data.toList : Nat)) ∧ w' = w := by
  unfold maxLen at hs
  unfold Ad.more
  obtain ⟨hp1, hp2⟩ := Ad.part_lt n
  go_enter Tryd.func26, Tryd.ntmps26
  go_wp2_with (go_at_call 25; refine (halves_any n _ h).mono ?_; rintro e w' ⟨rfl, rfl⟩)
  go_loop [5, 6, 15] (fun a b i => ∃ k : Nat, k ≤ s.size ∧ i = .int .i64 k ∧ a = .int .u64 ((Ad.run (Ad.part n) (s.data.toList.take k)).1 : Nat) ∧ b = .int .u64 ((Ad.run (Ad.part n) (s.data.toList.take k)).2 : Nat)) (fun _ _ i => s.size - (intOf i).toNat)
  case atStart => exact ⟨0, by omega, rfl, rfl, rfl⟩
  case round =>
    obtain ⟨k, hk, rfl, rfl, rfl⟩ := hrel
    obtain ⟨hr1, hr2⟩ := Ad.run_lt (Ad.part n) (s.data.toList.take k) hp1 hp2
    by_cases hlt : k < s.size
    · have hsn := hide (Ad.run_snoc (Ad.part n) (s.data.toList.take k) s[k])
      have hts := hide (take_snoc s k hlt)
      have hb := s[k].toNat_lt
      have hd : decide ((k : Int) < (s.size : Int)) = true := by simp; omega
      generalize Ad.run (Ad.part n) (s.data.toList.take k) = r at *
      go_wp2
      go_round
      case rel => exact ⟨k + 1, by omega, by go_num, by rw [unhide hts, unhide hsn]; simp only [Ad.one]; go_num, by rw [unhide hts, unhide hsn]; simp only [Ad.one]; go_num⟩
      case measure => simp [intOf]; omega
    · have : k = s.size := by omega
      subst this
      have hd : decide ((s.size : Int) < (s.size : Int)) = false := by simp
      have he := hide (show s.data.toList.take s.size = s.data.toList from List.take_of_length_le (by simp))
      go_wp2
      go_ret
      exact ⟨ret_int (by rw [or_join _ hr1 hr2, unhide he]), rfl⟩

theorem adler_any (s : ByteArray) (w : World) (hs : s.size ≤ maxLen) :
    Calls Tryd.prog 14 #[.string s] w fun e w' => e = .returned (.int .u32 (Ad.more 1 s.data.toList : Nat)) ∧ w' = w := by
  go_enter Tryd.func14, Tryd.ntmps14
  go_wp2_with (go_at_call 26; refine (moreAdler_any 1 s _ (by omega) hs).mono ?_; rintro e w' ⟨rfl, rfl⟩)
  go_ret
  exact ⟨rfl, rfl⟩

theorem join_u32 (r : Nat × Nat) : (r.2 : Int) * 65536 + (r.1 : Int) = (Ad.join r : Nat) := by
  unfold Ad.join; omega

set_option maxHeartbeats 400000 in
set_option maxRecDepth 100000 in
theorem refAdler_any (s : ByteArray) (w : World) (hs : s.size ≤ maxLen) :
    Calls Tryd.prog 16 #[.string s] w fun e w' => e = .returned (.int .u32 (Ad.more 1 s.data.toList : Nat)) ∧ w' = w := by
  unfold maxLen at hs
  unfold Ad.more
  rw [Ad.part_one]
  go_enter Tryd.func16, Tryd.ntmps16
  go_wp2
  go_loop [3, 4, 5] (fun a b i => ∃ k : Nat, k ≤ s.size ∧ i = .int .i64 k ∧ a = .int .i64 ((Ad.run (1, 0) (s.data.toList.take k)).1 : Nat) ∧ b = .int .i64 ((Ad.run (1, 0) (s.data.toList.take k)).2 : Nat)) (fun _ _ i => s.size - (intOf i).toNat)
  case atStart => exact ⟨0, by omega, rfl, rfl, rfl⟩
  case round =>
    obtain ⟨k, hk, rfl, rfl, rfl⟩ := hrel
    obtain ⟨hr1, hr2⟩ := Ad.run_lt (1, 0) (s.data.toList.take k) (by decide) (by decide)
    by_cases hlt : k < s.size
    · have hsn := hide (Ad.run_snoc (1, 0) (s.data.toList.take k) s[k])
      have hts := hide (take_snoc s k hlt)
      have hb := s[k].toNat_lt
      have hd : decide ((k : Int) < (s.size : Int)) = true := by simp; omega
      generalize Ad.run (1, 0) (s.data.toList.take k) = r at *
      go_wp2
      go_round
      case rel => exact ⟨k + 1, by omega, by go_num, by rw [unhide hts, unhide hsn]; simp only [Ad.one]; go_num, by rw [unhide hts, unhide hsn]; simp only [Ad.one]; go_num⟩
      case measure => simp [intOf]; omega
    · have : k = s.size := by omega
      subst this
      have hd : decide ((s.size : Int) < (s.size : Int)) = false := by simp
      have he := hide (show s.data.toList.take s.size = s.data.toList from List.take_of_length_le (by simp))
      go_wp2
      go_ret
      refine ⟨ret_int ?_, rfl⟩
      rw [unhide he]; exact join_u32 _

end Go.Proofs.YtclkfjbkffcgcaaDoor
