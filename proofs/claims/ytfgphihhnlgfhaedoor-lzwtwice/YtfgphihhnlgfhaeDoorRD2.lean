/- Walks of the getting of bits. -/
import Derived.Test.YtfgphihhnlgfhaeDoorRD
namespace Go.Proofs.YtfgphihhnlgfhaeDoor
open Go.RowKit

theorem got_in (x b k : Nat) (hk : k < 32) (hb : b < 2) (hx : x < 2 ^ k) : bits .or .u32 (x : Int) ((b : Int) * 2 ^ k % 4294967296) = ((x + 2 ^ k * b : Nat) : Int) := by
  have hp : 2 ^ k ≤ 2147483648 := Nat.pow_le_pow_right (n := 2) (j := 31) (by omega) (by omega)
  have hor := Bt.or_above x b k hx
  rw [show ((2 : Int) ^ k) = ((2 ^ k : Nat) : Int) from by simp]
  generalize 2 ^ k = P at *
  have hpb : P * b ≤ 2147483648 := by
    have := Nat.mul_le_mul hp (show b ≤ 1 by omega)
    omega
  have hc : (b : Int) * (P : Int) % 4294967296 = ((P * b : Nat) : Int) := by
    rw [← Int.natCast_mul, Nat.mul_comm b P]
    omega
  rw [hc, ← hor]
  exact u32_or_nat x (P * b) (by omega) (by omega)

theorem got_lt (V a k : Nat) (h : k ≤ 32) : V / 2 ^ a % 2 ^ k < 4294967296 :=
  Nat.lt_of_lt_of_le (Nat.mod_lt _ (Nat.two_pow_pos k)) (Nat.pow_le_pow_right (n := 2) (j := 32) (by omega) h)

set_option maxHeartbeats 400000 in
theorem get_yes (p k d : Nat) (s : ByteArray) (w : World) (h : RAt w p s k) (hd : d ≤ 32) (hfit : k + d ≤ 8 * s.size) :
    Calls Tryd.prog 46 #[.pointer (some ⟨p, 0, none⟩), .int .i64 (d : Int)] w fun e w' => e = .returned (.tuple #[.int .u32 (tv s / 2 ^ k % 2 ^ d : Nat), .nilIface]) ∧ RAt w' p s (k + d) ∧ Below p w w' := by
  have hpl := h.lt
  have Hr := hide h
  have hsm := h.small
  obtain ⟨lf, hlf⟩ : ∃ lf, lf + k = 8 * s.size := ⟨8 * s.size - k, by have := h.within; omega⟩
  have Hlf := hide hlf
  have hdl : decide (lf < d) = false := by simp; omega
  clear h hlf
  go_enter Tryd.func46, Tryd.ntmps46
  go_wp2_with fail
  refine (readable_yes d _ hd).mono ?_; rintro e w1 ⟨rfl, rfl⟩
  go_wp2_with fail
  refine (left_any p k lf s _ (unhide Hr) (unhide Hlf)).mono ?_; rintro e w2 ⟨rfl, hb2⟩
  have Hr2 := hide ((unhide Hr).below hb2)
  replace hb2 := hb2.mono (Nat.le_of_lt hpl)
  go_wp2
  go_loopw [6, 18] (fun m i wr => ∃ j : Nat, j ≤ d ∧ i = .int .i64 j ∧ m = .int .u32 (tv s / 2 ^ k % 2 ^ j : Nat) ∧ RAt wr p s (k + j) ∧ Below p w1 wr) (fun _ i _ => d - (intOf i).toNat)
  case atStart => exact ⟨0, by omega, rfl, by simp [Nat.mod_one], unhide Hr2, hb2⟩
  case round =>
    obtain ⟨j, hj, rfl, rfl, hR, hb⟩ := hrel
    by_cases hlt : j < d
    · have hdk : decide ((j : Int) < (d : Int)) = true := by simp; omega
      have hxl : tv s / 2 ^ k % 2 ^ j < 2 ^ j := Nat.mod_lt _ (Nat.two_pow_pos j)
      have hin := got_in (tv s / 2 ^ k % 2 ^ j) (Bt.bit (tv s) (k + j)) j (by omega) (Bt.bit_lt _ _) hxl
      rw [← Bt.got_succ] at hin
      have hgl := got_lt (tv s) k (j + 1) (by omega)
      have hgl0 := got_lt (tv s) k j (by omega)
      have hbl := Bt.bit_lt (tv s) (k + j)
      have HR := hide hR
      have hjb : j < 32 := by omega
      clear hR hxl
      generalize hB : tv s / 2 ^ k % 2 ^ (j + 1) = y at *
      generalize hA : tv s / 2 ^ k % 2 ^ j = x at *
      have HB := hide hB
      clear hB hA
      go_wp2_with fail
      refine (rone_any p (k + j) s _ (unhide HR) (by omega)).mono ?_; rintro e w3 ⟨rfl, hR3, hb3⟩
      have HR3 := hide hR3
      clear hR3
      generalize Bt.bit (tv s) (k + j) = b at *
      go_wp2
      go_roundw
      case rel => exact ⟨j + 1, by omega, by go_num, by rw [unhide HB], unhide HR3, hb.trans hb3⟩
      case measure => simp [intOf]; omega
    · have : j = d := by omega
      subst this
      have hdk : decide ((j : Int) < (j : Int)) = false := by simp
      have HR := hide hR
      clear hR
      go_wp2
      go_ret2
      exact ⟨rfl, unhide HR, hb⟩

theorem get_bound (p k : Nat) (d : Int) (s : ByteArray) (v : Value) (w : World) (h : RAt w p s k) (hd : d < 0 ∨ 32 < d) (hc : w.cell? ⟨0, 0, none⟩ = some v) :
    Calls Tryd.prog 46 #[.pointer (some ⟨p, 0, none⟩), .int .i64 d] w fun e w' => e = .returned (.tuple #[.int .u32 0, v]) ∧ RAt w' p s k ∧ Below w.heap.size w w' := by
  have Hr := hide h
  clear h
  go_enter Tryd.func46, Tryd.ntmps46
  go_wp2_with fail
  refine (readable_no d _ hd).mono ?_; rintro e w1 ⟨rfl, rfl⟩
  go_wp2
  go_region
  go_wp2
  go_ret2
  exact ⟨rfl, (unhide Hr).drew, (Below.refl _ _).drew⟩

theorem get_text (p k d : Nat) (s : ByteArray) (v : Value) (w : World) (h : RAt w p s k) (hd : d ≤ 32) (hno : 8 * s.size < k + d) (hc : w.cell? ⟨2, 0, none⟩ = some v) :
    Calls Tryd.prog 46 #[.pointer (some ⟨p, 0, none⟩), .int .i64 (d : Int)] w fun e w' => e = .returned (.tuple #[.int .u32 0, v]) ∧ RAt w' p s k ∧ Below w.heap.size w w' := by
  have Hr := hide h
  have hw := h.within
  have hgl : 2 < w.heap.size := World.block_lt_of_cell? _ _ hc
  obtain ⟨lf, hlf⟩ : ∃ lf, lf + k = 8 * s.size := ⟨8 * s.size - k, by have := h.within; omega⟩
  have Hlf := hide hlf
  have hdl : decide (lf < d) = true := by simp; omega
  clear h hlf
  go_enter Tryd.func46, Tryd.ntmps46
  go_wp2_with fail
  refine (readable_yes d _ hd).mono ?_; rintro e w1 ⟨rfl, rfl⟩
  go_wp2_with fail
  refine (left_any p k lf s _ (unhide Hr) (unhide Hlf)).mono ?_; rintro e w2 ⟨rfl, hb2⟩
  have Hr2 := hide ((unhide Hr).below hb2)
  have hc2 := (hb2.cell (p := ⟨2, 0, none⟩) hgl).trans hc

  go_wp2
  go_region
  go_wp2
  go_ret2
  exact ⟨rfl, (unhide Hr2).drew, hb2.drew⟩
end Go.Proofs.YtfgphihhnlgfhaeDoor
