/- Walks of the reader of bits: nothing else is turned. -/
import Derived.Test.YtfgphihhnlgfhaeDoorRD2
import Derived.Test.YtfgphihhnlgfhaeDoorBu
namespace Go.Proofs.YtfgphihhnlgfhaeDoor
open Go.RowKit

theorem RAt.but {w w' : World} {p k : Nat} {s : ByteArray} {S : Nat → Prop} (h : RAt w p s k) (hb : But S w w') (hs : ¬ S p) : RAt w' p s k :=
  ⟨(hb.cell h.lt hs).trans h.text, (hb.cell h.lt hs).trans h.count, (hb.frozen h.lt hs).trans h.free1, h.within, h.small⟩

theorem rone_but (p k : Nat) (s : ByteArray) (w : World) (h : RAt w p s k) (hk : k < 8 * s.size) :
    Calls Tryd.prog 60 #[.pointer (some ⟨p, 0, none⟩)] w fun e w' => e = .returned (.int .u32 (Bt.bit (tv s) k : Nat)) ∧ RAt w' p s (k + 1) ∧ But (· = p) w w' := by
  have h0 := h.text
  have h1 := h.count
  have h2 := h.within
  have h3 := h.small
  have h4 := h.free1
  have hm := hide (h.moved (k + 1) (by omega))
  clear h
  obtain ⟨q, hq⟩ : ∃ q, q = k / 8 := ⟨_, rfl⟩
  have hq1 : (k : Int) / 8 = (q : Int) := by omega
  obtain ⟨r, hr⟩ : ∃ r, r = k % 8 := ⟨_, rfl⟩
  have hr1 : (k : Int) % 8 = (r : Int) := by omega
  have hqs : q < s.size := by omega
  have hqi : (q : Int) < (s.size : Int) := by omega
  have hrl : r < 8 := by omega
  have Hbit := hide (one_bit s q r hqs hrl)
  rw [show 8 * q + r = k from by omega] at Hbit
  have hx := s[q].toNat_lt
  have hsh : (s[q].toNat : Int) / 2 ^ r = ((s[q].toNat / 2 ^ r : Nat) : Int) := by simp
  have hyl : s[q].toNat / 2 ^ r < 256 := Nat.lt_of_le_of_lt (Nat.div_le_self _ _) hx
  generalize s[q].toNat / 2 ^ r = y at *
  have hand : bits .and .u8 (y : Int) 1 = ((y % 2 : Nat) : Int) := by
    have := u8_and_nat y 1 hyl (by omega)
    rw [nat_mask1] at this
    exact this
  obtain ⟨z, hz⟩ : ∃ z, z = y % 2 := ⟨_, rfl⟩
  rw [← hz] at hand Hbit
  have hzl : z < 2 := by omega
  clear hq hr hz
  go_enter Tryd.func60, Tryd.ntmps60
  go_wp2
  go_region
  go_wp2
  go_ret
  rw [← unhide Hbit]
  exact ⟨rfl, (unhide hm).1.drew, ((But.refl (· = p) w).setCell (p := ⟨p, 1, none⟩) rfl _).drew⟩

set_option maxHeartbeats 400000 in
theorem get_but (p k d : Nat) (s : ByteArray) (w : World) (h : RAt w p s k) (hd : d ≤ 32) (hfit : k + d ≤ 8 * s.size) :
    Calls Tryd.prog 46 #[.pointer (some ⟨p, 0, none⟩), .int .i64 (d : Int)] w fun e w' => e = .returned (.tuple #[.int .u32 (tv s / 2 ^ k % 2 ^ d : Nat), .nilIface]) ∧ RAt w' p s (k + d) ∧ But (· = p) w w' := by
  have Hr := hide h
  have hsm := h.small
  obtain ⟨lf, hlf⟩ : ∃ lf, lf + k = 8 * s.size := ⟨8 * s.size - k, by have := h.within; omega⟩
  have Hlf := hide hlf
  have hdl : decide (lf < d) = false := by simp; omega
  clear h hlf
  go_enter Tryd.func46, Tryd.ntmps46
  go_wp2_with fail
  refine (readable_yes d _ hd).mono ?_; rintro e w1 ⟨rfl, rfl⟩
  go_wp2_with fail
  refine (left_any p k lf s _ (unhide Hr) (unhide Hlf)).mono ?_; rintro e w2 ⟨rfl, hb2⟩
  have Hr2 := hide ((unhide Hr).below hb2)
  replace hb2 := (But.refl (· = p) w1).of_below hb2 (fun k h1 h2 => by omega)
  go_wp2
  go_loopw [6, 18] (fun m i wr => ∃ j : Nat, j ≤ d ∧ i = .int .i64 j ∧ m = .int .u32 (tv s / 2 ^ k % 2 ^ j : Nat) ∧ RAt wr p s (k + j) ∧ But (· = p) w1 wr) (fun _ i _ => d - (intOf i).toNat)
  case atStart => exact ⟨0, by omega, rfl, by simp [Nat.mod_one], unhide Hr2, hb2⟩
  case round =>
    obtain ⟨j, hj, rfl, rfl, hR, hb⟩ := hrel
    by_cases hlt : j < d
    · have hdk : decide ((j : Int) < (d : Int)) = true := by simp; omega
      have hxl : tv s / 2 ^ k % 2 ^ j < 2 ^ j := Nat.mod_lt _ (Nat.two_pow_pos j)
      have hin := got_in (tv s / 2 ^ k % 2 ^ j) (Bt.bit (tv s) (k + j)) j (by omega) (Bt.bit_lt _ _) hxl
      rw [← Bt.got_succ] at hin
      have hgl := got_lt (tv s) k (j + 1) (by omega)
      have hgl0 := got_lt (tv s) k j (by omega)
      have hbl := Bt.bit_lt (tv s) (k + j)
      have HR := hide hR
      have hjb : j < 32 := by omega
      clear hR hxl
      generalize hB : tv s / 2 ^ k % 2 ^ (j + 1) = y at *
      generalize hA : tv s / 2 ^ k % 2 ^ j = x at *
      have HB := hide hB
      clear hB hA
      go_wp2_with fail
      refine (rone_but p (k + j) s _ (unhide HR) (by omega)).mono ?_; rintro e w3 ⟨rfl, hR3, hb3⟩
      have HR3 := hide hR3
      clear hR3
      generalize Bt.bit (tv s) (k + j) = b at *
      go_wp2
      go_roundw
      case rel => exact ⟨j + 1, by omega, by go_num, by rw [unhide HB], unhide HR3, hb.trans hb3⟩
      case measure => simp [intOf]; omega
    · have : j = d := by omega
      subst this
      have hdk : decide ((j : Int) < (j : Int)) = false := by simp
      have HR := hide hR
      clear hR
      go_wp2
      go_ret2
      exact ⟨rfl, unhide HR, hb⟩

end Go.Proofs.YtfgphihhnlgfhaeDoor
