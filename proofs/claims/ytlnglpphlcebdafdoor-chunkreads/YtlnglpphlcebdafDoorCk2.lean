/- Walks of the small parts of chunks: numbers out of four bytes, the eight bytes of a file. -/
import Derived.Test.YtlnglpphlcebdafDoorCk1
namespace Go.Proofs.YtlnglpphlcebdafDoor
open Go.RowKit

theorem n4_s (s : ByteArray) (hs : 4 ≤ s.size) : Ck.n4 s.data.toList = s[0].toNat * 16777216 + s[1].toNat * 65536 + s[2].toNat * 256 + s[3].toNat := by
  have h : ∀ i (hi : i < s.size), s.data.toList.getD i 0 = s[i] := fun i hi => by
    have hz : s.data.toList.length = s.size := Array.length_toList
    rw [List.getD_eq_getElem?_getD, List.getElem?_eq_getElem (by omega)]
    rfl
  unfold Ck.n4
  rw [h 0 (by omega), h 1 (by omega), h 2 (by omega), h 3 (by omega)]

theorem or_top (a b : Nat) (ha : a < 256) (hb : b < 256) : bits .or .u32 ((a : Int) * 16777216) ((b : Int) * 65536) = ((a * 16777216 + b * 65536 : Nat) : Int) := by
  have := u32_or_nat (a * 16777216) (b * 65536) (by omega) (by omega)
  rw [nat_join 24 (a * 16777216) (b * 65536) (by omega) (by omega)] at this
  rw [show ((a : Int) * 16777216) = ((a * 16777216 : Nat) : Int) from by omega, show ((b : Int) * 65536) = ((b * 65536 : Nat) : Int) from by omega, this]

theorem or_four (a b c d : Nat) (ha : a < 256) (hb : b < 256) (hc : c < 256) (hd : d < 256) : bits .or .u32 (bits .or .u32 (bits .or .u32 ((a : Int) * 16777216) ((b : Int) * 65536)) ((c : Int) * 256)) (d : Int) = ((a * 16777216 + b * 65536 + c * 256 + d : Nat) : Int) := by
  rw [or_top a b ha hb]
  have h2 := u32_or_nat (a * 16777216 + b * 65536) (c * 256) (by omega) (by omega)
  rw [nat_join 16 (a * 16777216 + b * 65536) (c * 256) (by omega) (by omega)] at h2
  rw [show ((c : Int) * 256) = ((c * 256 : Nat) : Int) from by omega, h2]
  have h3 := u32_or_nat (a * 16777216 + b * 65536 + c * 256) d (by omega) (by omega)
  rw [nat_join 8 (a * 16777216 + b * 65536 + c * 256) d (by omega) (by omega)] at h3
  exact h3

set_option maxHeartbeats 1000000 in
theorem number_any (s : ByteArray) (w : World) (hs : 4 ≤ s.size) :
    Calls Tryd.prog 61 #[.string s] w fun e w' => e = .returned (.int .u32 (Ck.n4 s.data.toList : Nat)) ∧ ∃ nn, w' = w.drewN nn := by
  rw [n4_s s hs]
  have h0 := s[0].toNat_lt
  have h1 := s[1].toNat_lt
  have h2 := s[2].toNat_lt
  have h3 := s[3].toNat_lt
  have j0 : 0 < s.size := by omega
  have j1 : 1 < s.size := by omega
  have j2 : 2 < s.size := by omega
  have j3 : 3 < s.size := by omega
  have i0 : (0 : Int) < (s.size : Int) := by omega
  have i1 : (1 : Int) < (s.size : Int) := by omega
  have i2 : (2 : Int) < (s.size : Int) := by omega
  have i3 : (3 : Int) < (s.size : Int) := by omega
  go_enter Tryd.func61, Tryd.ntmps61
  go_wp2
  go_quiet (fail)
  go_wp2
  go_ret
  exact ⟨ret_int (or_four _ _ _ _ h0 h1 h2 h3), _, rfl⟩

set_option maxHeartbeats 400000 in
theorem bigOf4_any (s : ByteArray) (w : World) (hs : 4 ≤ s.size) :
    Calls Tryd.prog 49 #[.string s] w fun e w' => e = .returned (.int .u32 (Ck.n4 s.data.toList : Nat)) ∧ w' = w := by
  have hn := n4_s s hs
  have h0 := s[0].toNat_lt
  have h1 := s[1].toNat_lt
  have h2 := s[2].toNat_lt
  have h3 := s[3].toNat_lt
  obtain ⟨f, hf⟩ : ∃ f : Nat → Nat, f = fun i => if i = 0 then 0 else if i = 1 then s[0].toNat else if i = 2 then s[0].toNat * 256 + s[1].toNat else if i = 3 then s[0].toNat * 65536 + s[1].toNat * 256 + s[2].toNat else s[0].toNat * 16777216 + s[1].toNat * 65536 + s[2].toNat * 256 + s[3].toNat := ⟨_, rfl⟩
  have hnx : ∀ k (hk : k < 4), f (k + 1) = f k * 256 + (s[k]'(by omega)).toNat ∧ f k < 16777216 := fun k hk => by
    rcases (show k = 0 ∨ k = 1 ∨ k = 2 ∨ k = 3 by omega) with rfl | rfl | rfl | rfl <;> simp [hf] <;> omega
  have hf4 : f 4 = Ck.n4 s.data.toList := by rw [hn]; simp [hf]
  have hf0 : f 0 = 0 := by simp [hf]
  have HN := hide hnx
  have H4 := hide hf4
  clear hnx hf4 hn h0 h1 h2 h3 hf
  go_enter Tryd.func49, Tryd.ntmps49
  go_wp2
  go_loop [3, 4] (fun n i => ∃ k : Nat, k ≤ 4 ∧ i = .int .i64 (k : Int) ∧ n = .int .u32 (f k : Nat)) (fun _ i => 4 - (intOf i).toNat)
  case atStart => exact ⟨0, by omega, rfl, by rw [hf0]; rfl⟩
  case round =>
    obtain ⟨k, hk, rfl, rfl⟩ := hrel
    by_cases hlt : k < 4
    · have hd : decide ((k : Int) < 4) = true := by simp; omega
      have hks : k < s.size := by omega
      obtain ⟨e1, e2⟩ := unhide HN k hlt
      have E1 := hide e1
      have hbb := s[k].toNat_lt
      have hki : (k : Int) < (s.size : Int) := by omega
      clear e1 hf0
      generalize f k = r at *
      go_wp2
      go_round
      case rel => exact ⟨k + 1, by omega, by go_num, by rw [unhide E1]; go_num⟩
      case measure => simp [intOf]; omega
    · have : k = 4 := by omega
      subst this
      rw [unhide H4]
      go_wp2
      go_ret
      exact ⟨rfl, rfl⟩

theorem u8s (n : Nat) : (⟨#[UInt8.ofNat (n % 256)]⟩ : ByteArray) = ⟨#[UInt8.ofNat n]⟩ := by
  have : UInt8.ofNat (n % 256) = UInt8.ofNat n := Ck.u8_of _ _ (by rw [UInt8.toNat_ofNat']; omega)
  rw [this]

set_option maxHeartbeats 1000000 in
theorem refBig_any (n : Nat) (w : World) (hn : n < 4294967296) :
    Calls Tryd.prog 42 #[.int .u32 (n : Int)] w fun e w' => e = .returned (.string ⟨(Ck.be n).toArray⟩) ∧ Below w.heap.size w w' := by
  obtain ⟨a, ha⟩ : ∃ a, a = n / 16777216 := ⟨_, rfl⟩
  obtain ⟨qb, hqb⟩ : ∃ b, b = n / 65536 := ⟨_, rfl⟩
  obtain ⟨qc, hqc⟩ : ∃ c, c = n / 256 := ⟨_, rfl⟩
  obtain ⟨b, hb⟩ : ∃ b, b = qb % 256 := ⟨_, rfl⟩
  obtain ⟨c, hc⟩ : ∃ c, c = qc % 256 := ⟨_, rfl⟩
  obtain ⟨d, hd⟩ : ∃ d, d = n % 256 := ⟨_, rfl⟩
  have e1 : (n : Int) / 16777216 = (a : Int) := by omega
  have e2 : (n : Int) / 65536 = (qb : Int) := by omega
  have e3 : (n : Int) / 256 = (qc : Int) := by omega
  have e4 : (qb : Int) % 256 = (b : Int) := by omega
  have e5 : (qc : Int) % 256 = (c : Int) := by omega
  have e6 : (n : Int) % 256 = (d : Int) := by omega
  have l1 : a < 256 := by omega
  have l2 : b < 256 := by omega
  have l3 : c < 256 := by omega
  have l4 : d < 256 := by omega
  have hbe : (⟨#[UInt8.ofNat a]⟩ ++ ⟨#[UInt8.ofNat b]⟩ ++ ⟨#[UInt8.ofNat c]⟩ ++ ⟨#[UInt8.ofNat d]⟩ : ByteArray) = ⟨(Ck.be n).toArray⟩ := by
    rw [hb, hc, hd, u8s, u8s, u8s, ha, hqb, hqc]
    rfl
  have HBE := hide hbe
  have HB := hide byte_any
  clear ha hb hc hd hqb hqc hbe
  go_enter Tryd.func42, Tryd.ntmps42
  go_wp2_with fail
  refine (unhide HB a w l1).mono ?_; rintro e w1 ⟨rfl, hb1⟩
  go_wp2_with fail
  refine (unhide HB b w1 l2).mono ?_; rintro e w2 ⟨rfl, hb2⟩
  have hb2 := hb1.trans (hb2.mono hb1.size)
  clear hb1
  go_wp2_with fail
  refine (unhide HB c w2 l3).mono ?_; rintro e w3 ⟨rfl, hb3⟩
  have hb3 := hb2.trans (hb3.mono hb2.size)
  clear hb2
  go_wp2_with fail
  refine (unhide HB d w3 l4).mono ?_; rintro e w4 ⟨rfl, hb4⟩
  have hb4 := hb3.trans (hb4.mono hb3.size)
  clear hb3
  go_wp2
  go_ret
  exact ⟨by rw [← unhide HBE]; rfl, hb4⟩

set_option maxHeartbeats 1000000 in
theorem signature_any (w : World) :
    Calls Tryd.prog 37 #[] w fun e w' => e = .returned (.string ⟨Ck.sig.toArray⟩) ∧ Below w.heap.size w w' := by
  have HB := hide byte_any
  go_enter Tryd.func37, Tryd.ntmps37
  go_wp2_with fail
  refine (unhide HB 137 w (by omega)).mono ?_; rintro e w1 ⟨rfl, hb1⟩
  go_wp2_with fail
  refine (unhide HB 13 w1 (by omega)).mono ?_; rintro e w2 ⟨rfl, hb2⟩
  have hb2 := hb1.trans (hb2.mono hb1.size)
  clear hb1
  go_wp2_with fail
  refine (unhide HB 10 w2 (by omega)).mono ?_; rintro e w3 ⟨rfl, hb3⟩
  have hb3 := hb2.trans (hb3.mono hb2.size)
  clear hb2
  go_wp2_with fail
  refine (unhide HB 26 w3 (by omega)).mono ?_; rintro e w4 ⟨rfl, hb4⟩
  have hb4 := hb3.trans (hb4.mono hb3.size)
  clear hb3
  go_wp2_with fail
  refine (unhide HB 10 w4 (by omega)).mono ?_; rintro e w5 ⟨rfl, hb5⟩
  have hb5 := hb4.trans (hb5.mono hb4.size)
  clear hb4
  go_wp2
  go_ret
  exact ⟨rfl, hb5⟩
end Go.Proofs.YtlnglpphlcebdafDoor
