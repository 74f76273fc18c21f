/- Walks of CRC's functions. -/
import Derived.Test.YtlnglpphlcebdafDoorW1
import Derived.Test.YtlnglpphlcebdafDoorTs
namespace Go.Proofs.YtlnglpphlcebdafDoor
open Go.RowKit

theorem not_u32 (c : Nat) (h : c < 4294967296) : bits .xor .u32 IntKind.u32.max (c : Int) = ((4294967295 ^^^ c : Nat) : Int) := by
  have := u32_xor_nat 4294967295 c (by omega) h
  exact this
theorem xor_lt32 {a b : Nat} (ha : a < 4294967296) (hb : b < 4294967296) : a ^^^ b < 4294967296 := Nat.xor_lt_two_pow (n := 32) ha hb

theorem low_lt (r : Nat) (b : UInt8) : r % 256 ^^^ b.toNat < 256 := Nat.xor_lt_two_pow (n := 8) (by omega) b.toNat_lt
theorem xor_low (r : Nat) (b : UInt8) : bits .xor .u8 ((r : Int) % 256) (b.toNat : Int) = ((r % 256 ^^^ b.toNat : Nat) : Int) := by
  have := u8_xor_nat (r % 256) b.toNat (by omega) b.toNat_lt
  rw [← this]
  congr 1
theorem xor_high (r t : Nat) (h : r < 4294967296) (ht : t < 4294967296) : bits .xor .u32 ((r : Int) / 256) (t : Int) = ((r / 256 ^^^ t : Nat) : Int) := by
  have := u32_xor_nat (r / 256) t (by omega) ht
  rw [← this]
  congr 1

set_option maxHeartbeats 400000 in
set_option maxRecDepth 100000 in
theorem moreCRC_any (c : Nat) (s : ByteArray) (w : World) (h : c < 4294967296) (hs : s.size ≤ maxLen) :
    Calls Tryd.prog 72 #[.int .u32 (c : Int), .string s] w fun e w' => e = .returned (.int .u32 ((4294967295 ^^^ Crc.run (4294967295 ^^^ c) s.data.toList : Nat) : Int)) ∧ Below w.heap.size w w' := by
  unfold maxLen at hs
  have hz := zero29
  have hx := not_u32 c h
  have hxl : 4294967295 ^^^ c < 4294967296 := xor_lt32 (by omega) h
  generalize 4294967295 ^^^ c = x at *
  go_enter Tryd.func72, Tryd.ntmps72
  go_wp2_with (first | (go_at_call 77; refine (byteSums_any _).mono ?_; rintro e w1 ⟨rfl, hb1⟩) | (refine wpList_store_row rfl 127 _ _ rfl w1.heap.size (tab 256) rfl rfl 127 (tab 0) (heap_alloc_last _ _) (info29 _) (by rw [tab_size, tab_size]) (tab_one _) ?_; rw [World.setRow_alloc_new]))
  clear hz
  go_loop [0, 12] (fun c i => ∃ k : Nat, k ≤ s.size ∧ i = .int .i64 k ∧ c = .int .u32 (Crc.run x (s.data.toList.take k) : Nat)) (fun _ i => s.size - (intOf i).toNat)
  case atStart => exact ⟨0, by omega, rfl, rfl⟩
  case round =>
    obtain ⟨k, hk, rfl, rfl⟩ := hrel
    have hrl := Crc.run_lt x (s.data.toList.take k) hxl
    by_cases hlt : k < s.size
    · have hsn := hide (Crc.run_snoc x (s.data.toList.take k) s[k])
      have hd : decide ((k : Int) < (s.size : Int)) = true := by simp; omega
      have hts := hide (take_snoc s k hlt)
      generalize Crc.run x (s.data.toList.take k) = r at *
      have h8 := xor_low r s[k]
      have hbs := hide (Crc.byte_step r s[k].toNat)
      have hj := low_lt r s[k]
      generalize r % 256 ^^^ s[k].toNat = j at *
      have ht := tab_at 256 j hj
      rw [if_pos hj] at ht
      have h32 := xor_high r (Crc.steps 8 j) hrl (Crc.steps_lt 8 (by omega))
      generalize Crc.steps 8 j = t at *
      go_wp2
      go_round
      case rel => exact ⟨k + 1, by omega, by go_num, by rw [unhide hts, unhide hsn, unhide hbs]⟩
      case measure => simp [intOf]; omega
    · have : k = s.size := by omega
      subst this
      have hd : decide ((s.size : Int) < (s.size : Int)) = false := by simp
      have hf := not_u32 _ hrl
      have he := hide (show s.data.toList.take s.size = s.data.toList from List.take_of_length_le (by simp))
      go_wp2
      go_ret
      exact ⟨ret_int (by rw [unhide he]), hb1.alloc hb1.size _⟩
end Go.Proofs.YtlnglpphlcebdafDoor
