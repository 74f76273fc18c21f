/- Walks of the document's own texts of bits: a byte; the highest first. -/
import Derived.Test.YtebkinbkbololabDoorTx
namespace Go.Proofs.YtebkinbkbololabDoor
open Go.RowKit

theorem byte_any (n : Nat) (w : World) (hn : n < 256) :
    Calls Tryd.prog 40 #[.int .i64 (n : Int)] w fun e w' => e = .returned (.string ⟨#[UInt8.ofNat n]⟩) ∧ Below w.heap.size w w' := by
  have hcv := own_text (w.alloc (.cells #[.int .u8 (n : Int)] 5)) w.heap.size (.slice (some ⟨w.heap.size, 0, none⟩) 1 1) 1 [UInt8.ofNat n] (by
    have := World.ownsRow_lit (base := w.heap.size) (e := 5) (size := 1) w #[.int .u8 (n : Int)] 1 (Nat.le_refl _) (by decide) rfl
    have e : (UInt8.ofNat n).toNat = n := by rw [UInt8.toNat_ofNat']; omega
    simpa [byteVals, e] using this)
  go_enter Tryd.func40, Tryd.ntmps40
  go_wp2
  go_ret
  exact ⟨rfl, (Below.refl _ _).alloc (Nat.le_refl _) _⟩

set_option maxHeartbeats 400000 in
theorem high_any (n d : Nat) (w : World) (hn : n < 4294967296) (hd : d ≤ 32) :
    Calls Tryd.prog 28 #[.int .u32 (n : Int), .int .i64 (d : Int)] w fun e w' => e = .returned (.string (bt d (Bt.rev n d))) ∧ Below w.heap.size w w' := by
  go_enter Tryd.func28, Tryd.ntmps28
  go_wp2
  go_loopw [0, 5, 6] (fun m o i wr => ∃ k : Nat, k ≤ d ∧ i = .int .i64 k ∧ m = .int .u32 ((n / 2 ^ k : Nat) : Int) ∧ o = .string (bt k (Bt.rev n k)) ∧ Below w.heap.size w wr) (fun _ _ i _ => d - (intOf i).toNat)
  case atStart => exact ⟨0, by omega, rfl, by simp, rfl, Below.refl _ _⟩
  case round =>
    obtain ⟨k, hk, rfl, rfl, rfl, hb⟩ := hrel
    by_cases hlt : k < d
    · have hdk : decide ((k : Int) < (d : Int)) = true := by simp; omega
      have ht := shr_lt n k hn
      have Hbit := hide (show Bt.bit n k = n / 2 ^ k % 2 from rfl)
      have Hnext := hide (show n / 2 ^ (k + 1) = n / 2 ^ k / 2 by rw [Nat.pow_succ, Nat.div_div_eq_div_mul])
      have Hs := hide (bt_rev n k)
      have hsz := bt_size k (Bt.rev n k)
      generalize n / 2 ^ k = t at *
      obtain ⟨y, hy⟩ : ∃ y, y = 48 + t % 2 := ⟨_, rfl⟩
      have ha : (48 : Int) + (t : Int) % 2 = (y : Int) := by omega
      have hyl : y < 256 := by omega
      have Hy := hide hy
      clear hy
      generalize bt k (Bt.rev n k) = s at *
      go_wp2_with fail
      refine (byte_any y _ hyl).mono ?_; rintro e w2 ⟨rfl, hb2⟩
      go_wp2
      go_roundw
      case rel => exact ⟨k + 1, by omega, by go_num, by rw [unhide Hnext]; go_num, by rw [← unhide Hs, unhide Hbit, unhide Hy], hb.trans (hb2.mono hb.size)⟩
      case measure => simp [intOf]; omega
    · have : k = d := by omega
      subst this
      have hdk : decide ((k : Int) < (k : Int)) = false := by simp
      go_wp2
      go_ret
      exact ⟨rfl, hb⟩
end Go.Proofs.YtebkinbkbololabDoor
