/- The document's reading of a packed text, at any bound. Walk of the document's reading of a packed text with a head and a sum, by what its reader tells. Walks of packed texts with no head, or outside the bounds: the document's reading. Walk of the document's reading of a text with no head. The document's reading of bytes with a head and a sum. Walk of the document's stored blocks. -/
import Derived.Test.YtfeljhikeddodadGreatDoorRf12
import Derived.Test.YtfeljhikeddodadGreatDoorMg27
import Derived.Test.YtfeljhikeddodadGreatDoorMg22
namespace Go.Proofs.YtfeljhikeddodadGreatDoor
open Go.RowKit Pm Cn Cd Nf

theorem inflateOf_any (s : ByteArray) (most : Int) (w : World) (hs : s.size ≤ 20000) :
    Calls Tryz.prog 15 #[.string s, .int .i64 most] w fun e w' => ∃ r v, inflS s most = some r ∧ e = .returned (toldV r v) ∧ Below w.heap.size w w' := by
  by_cases hm : 0 ≤ most ∧ most ≤ 300000
  · obtain ⟨m, rfl⟩ := Int.eq_ofNat_of_zero_le hm.1
    refine (inflateOf_in s m w (by omega) hs).mono ?_
    rintro e w' ⟨r, v, hr, rfl, hb⟩
    refine ⟨r, v, ?_, rfl, hb⟩
    unfold inflS
    rw [if_pos ⟨hm.1, hm.2, by omega⟩]
    exact run_of hr
  · refine (inflateOf_out s most w hm).mono ?_
    rintro e w' ⟨v, rfl, hb⟩
    refine ⟨.err .bound, v, ?_, rfl, hb⟩
    unfold inflS
    rw [if_neg (fun h => hm ⟨h.1, h.2.1⟩)]
end Go.Proofs.YtfeljhikeddodadGreatDoor
namespace Go.Proofs.YtfeljhikeddodadGreatDoor
open Go.RowKit

/-- What the document tells: a text, and an error's number. -/
def zW : Zr → Value
  | .ok t => .tuple #[.string t, .int .i64 0]
  | .err i => .tuple #[.string ⟨#[]⟩, .int .i64 ((i + 1 : Nat) : Int)]
set_option maxHeartbeats 2000000 in
set_option maxRecDepth 100000 in
theorem unzipOf_head (s : ByteArray) (most : Int) (w : World) (hs : s.size ≤ 20000) (h2 : 2 ≤ s.size) (hd : Hd2 s[0].toNat s[1].toNat) (hm : 0 ≤ most ∧ most ≤ 300000) (F : Fr)
    (hI : ∀ n, Calls Tryz.prog 15 #[.string (s.extract 2 s.size), .int .i64 most] (w.drewN n) fun e w' => Below w.heap.size w w' ∧ ∃ a3 n3 c3 a4 n4 c4 a5 n5 c5 a6 n6 c6 a9 n9 c9 i7 i8, ((∃ t us, F = .ok t us ∧ 2 + us ≤ s.size ∧ t.size ≤ 300000 ∧ e = .returned (.agg #[.string t, .int .i64 (us : Nat), .int .i64 0, .slice a3 n3 c3, .slice a4 n4 c4, .slice a5 n5 c5, .slice a6 n6 c6, .int .i64 i7, .int .i64 i8, .slice a9 n9 c9])) ∨ (∃ i, F = .err i ∧ i ≤ 8 ∧ e = .returned (.agg #[.string ⟨#[]⟩, .int .i64 0, .int .i64 ((i + 1 : Nat) : Int), .slice a3 n3 c3, .slice a4 n4 c4, .slice a5 n5 c5, .slice a6 n6 c6, .int .i64 i7, .int .i64 i8, .slice a9 n9 c9])))) :
    Calls Tryz.prog 20 #[.string s, .int .i64 most] w fun e w' => Below w.heap.size w w' ∧ e = .returned (zW (tailZ s F)) := by
  obtain ⟨Z, hZ⟩ : ∃ Z, Z = tailZ s F := ⟨_, rfl⟩
  rw [← hZ]
  have HZ := hide hZ
  have HI := hide hI
  have d1 : decide (most < 0) = false := decide_eq_false (by omega)
  have d2 : decide (most > 300000) = false := decide_eq_false (by omega)
  have d2' : decide (300000 < most) = false := d2
  have d3 : decide ((s.size : Int) > 300000) = false := decide_eq_false (by omega)
  have d3' : decide ((300000 : Int) < (s.size : Int)) = false := d3
  have d3n : decide (300000 < s.size) = false := decide_eq_false (by omega)
  have d4 : decide ((s.size : Int) < 2) = false := decide_eq_false (by omega)
  have d4n : decide (s.size < 2) = false := decide_eq_false (by omega)
  have hx := s[0].toNat_lt
  have hy := s[1].toNat_lt
  have h0i : (0 : Int) < (s.size : Int) := by omega
  have h1i : (1 : Int) < (s.size : Int) := by omega
  obtain ⟨c1, c2, c3, c4⟩ := hd
  obtain ⟨x, hxe⟩ : ∃ x, x = s[0].toNat := ⟨_, rfl⟩
  obtain ⟨y, hye⟩ : ∃ y, y = s[1].toNat := ⟨_, rfl⟩
  have hx' : s[0].toNat = x := hxe.symm
  have hy' : s[1].toNat = y := hye.symm
  rw [hx'] at hx c1 c2 c3
  rw [hy'] at hy c3 c4
  have e1 : (x : Int) % 16 = 8 := by omega
  have e2 : decide ((x : Int) / 16 > 7) = false := decide_eq_false (by omega)
  have e2' : decide ((7 : Int) < (x : Int) / 16) = false := e2
  have e3 : ((x : Int) * 256 + (y : Int)) % 31 = 0 := by omega
  have e4 : (y : Int) / 32 % 2 = 0 := by omega
  clear hxe hye hI hZ c1 c2 c3 c4
  go_enter Tryz.func20, Tryz.ntmps20
  go_wp2
  go_quiet (fail)
  go_wp2_with fail
  refine (unhide HI _).mono ?_
  rintro e w3 ⟨hb3, a3, n3, c3, a4, n4, c4, a5, n5, c5, a6, n6, c6, a9, n9, c9, i7, i8, ⟨t, us, rfl, hus, htl, rfl⟩ | ⟨i, rfl, hi8, rfl⟩⟩
  rotate_left
  · have HX : Hid (Z = .err i) := unhide HZ
    have g1 : decide (((i + 1 : Nat) : Int) > 0) = true := decide_eq_true (by omega)
    have g1' : decide ((0 : Int) < ((i + 1 : Nat) : Int)) = true := g1
    obtain ⟨j, hj⟩ : ∃ j, j = i + 1 := ⟨_, rfl⟩
    rw [← hj] at g1 g1' ⊢
    have g1n : decide (0 < j) = true := decide_eq_true (by omega)
    have hjp : 0 < j := by omega
    have HJ := hide hj
    have HB := hide (hb3.alloc hb3.size (.cells #[.string ⟨#[]⟩, .int .i64 0, .int .i64 (j : Int), .slice a3 n3 c3, .slice a4 n4 c4, .slice a5 n5 c5, .slice a6 n6 c6, .int .i64 i7, .int .i64 i8, .slice a9 n9 c9] 40))
    clear HI hj hb3
    go_wp2
    go_quiet (fail)
    go_wp2
    go_ret2
    exact ⟨below_drewN (unhide HB) _, by rw [unhide HX, unhide HJ]; rfl⟩
  have HB := hide (hb3.alloc hb3.size (.cells #[.string t, .int .i64 (us : Nat), .int .i64 0, .slice a3 n3 c3, .slice a4 n4 c4, .slice a5 n5 c5, .slice a6 n6 c6, .int .i64 i7, .int .i64 i8, .slice a9 n9 c9] 40))
  obtain ⟨tl, htle⟩ : ∃ q, q = s.extract (2 + us) s.size := ⟨_, rfl⟩
  have hts : tl.size = s.size - (2 + us) := by rw [htle]; simp
  have htl' : s.extract (2 + us) s.size = tl := htle.symm
  obtain ⟨k2, hk2⟩ : ∃ q, q = 2 + us := ⟨_, rfl⟩
  have zk : (2 : Int) + (us : Int) = (k2 : Int) := by omega
  have hkl : k2 ≤ s.size := by omega
  have hki : (k2 : Int) ≤ (s.size : Int) := by omega
  rw [← hk2] at htl'
  have HK2 := hide hk2
  have HTE := hide htle
  clear hk2 htle HI hb3
  by_cases h4 : s.size = k2 + 4
  · have g4 : ((s.size : Int) == (k2 : Int) + 4) = true := beq_iff_eq.2 (by omega)
    have HBI := hide (fun w' => bigOf_any tl w' (by have := unhide HK2; omega))
    have HAD := hide (fun w' => refAdler_any t w' (by unfold maxLen; omega))
    have HH4 := hide h4
    clear h4
    by_cases hq : big tl.data.toList = Ad.more 1 t.data.toList
    · have HX : Hid (Z = .ok t) := by
        show _ = _
        rw [unhide HZ]
        dsimp only [tailZ]
        have := unhide HK2
        have := unhide HH4
        rw [if_neg (by omega), if_neg (by rw [← unhide HTE]; simpa using hq)]
      have gq : ((big tl.data.toList : Int) == (Ad.more 1 t.data.toList : Int)) = true := beq_iff_eq.2 (by omega)
      clear hq
      generalize big tl.data.toList = b1 at *
      generalize Ad.more 1 t.data.toList = b2 at *
      go_wp2
      go_quiet (first | (go_at_call 58; exact Calls.quiet_of_same (unhide HBI _)) | (go_at_call 59; exact Calls.quiet_of_same (unhide HAD _)))
      go_wp2
      go_ret2
      exact ⟨below_drewN (unhide HB) _, by rw [unhide HX]; rfl⟩
    · have HX : Hid (Z = .err 3) := by
        show _ = _
        rw [unhide HZ]
        dsimp only [tailZ]
        have := unhide HK2
        have := unhide HH4
        rw [if_neg (by omega), if_pos (by rw [← unhide HTE]; exact hq)]
      have gq : ((big tl.data.toList : Int) == (Ad.more 1 t.data.toList : Int)) = false := beq_eq_false_iff_ne.2 (by omega)
      clear hq
      generalize big tl.data.toList = b1 at *
      generalize Ad.more 1 t.data.toList = b2 at *
      go_wp2
      go_quiet (first | (go_at_call 58; exact Calls.quiet_of_same (unhide HBI _)) | (go_at_call 59; exact Calls.quiet_of_same (unhide HAD _)))
      go_wp2
      go_ret2
      exact ⟨below_drewN (unhide HB) _, by rw [unhide HX]; rfl⟩
  · have g4 : ((s.size : Int) == (k2 : Int) + 4) = false := beq_eq_false_iff_ne.2 (by omega)
    have HX : Hid (Z = .err 0) := by
      show _ = _
      rw [unhide HZ]
      dsimp only [tailZ]
      have := unhide HK2
      rw [if_pos (by omega)]
    go_wp2
    go_ret2
    exact ⟨unhide HB, by rw [unhide HX]; rfl⟩
end Go.Proofs.YtfeljhikeddodadGreatDoor
namespace Go.Proofs.YtfeljhikeddodadGreatDoor
open Go.RowKit

theorem unzipOf_out (s : ByteArray) (most : Int) (w : World) (hm : ¬ (0 ≤ most ∧ most ≤ 300000)) :
    Calls Tryz.prog 20 #[.string s, .int .i64 most] w fun e w' => Below w.heap.size w w' ∧ e = .returned (zW (.err 1)) := by
  by_cases h0 : most < 0
  · have d1 : decide (most < 0) = true := decide_eq_true h0
    clear hm h0
    go_enter Tryz.func20, Tryz.ntmps20
    go_wp2
    go_ret2
    exact ⟨Below.refl _ _, rfl⟩
  · have d1 : decide (most < 0) = false := decide_eq_false h0
    have d2 : decide (most > 300000) = true := decide_eq_true (by omega)
    have d2' : decide (300000 < most) = true := d2
    clear hm h0
    go_enter Tryz.func20, Tryz.ntmps20
    go_wp2
    go_ret2
    exact ⟨Below.refl _ _, rfl⟩
set_option maxHeartbeats 1000000 in
set_option maxRecDepth 100000 in
theorem unzipOf_short (s : ByteArray) (most : Int) (w : World) (hs : s.size < 2) (hm : 0 ≤ most ∧ most ≤ 300000) :
    Calls Tryz.prog 20 #[.string s, .int .i64 most] w fun e w' => Below w.heap.size w w' ∧ e = .returned (zW (.err 0)) := by
  have d1 : decide (most < 0) = false := decide_eq_false (by omega)
  have d2 : decide (most > 300000) = false := decide_eq_false (by omega)
  have d2' : decide (300000 < most) = false := d2
  have d3 : decide ((s.size : Int) > 300000) = false := decide_eq_false (by omega)
  have d3' : decide ((300000 : Int) < (s.size : Int)) = false := d3
  have d3n : decide (300000 < s.size) = false := decide_eq_false (by omega)
  have d4 : decide ((s.size : Int) < 2) = true := decide_eq_true (by omega)
  have d4n : decide (s.size < 2) = true := decide_eq_true hs
  go_enter Tryz.func20, Tryz.ntmps20
  go_wp2
  go_quiet (fail)
  go_wp2
  go_ret2
  exact ⟨below_drewN (Below.refl _ _) _, rfl⟩
end Go.Proofs.YtfeljhikeddodadGreatDoor
namespace Go.Proofs.YtfeljhikeddodadGreatDoor
open Go.RowKit

set_option maxHeartbeats 2000000 in
set_option maxRecDepth 100000 in
theorem unzipOf_no (s : ByteArray) (most : Int) (w : World) (hs : s.size ≤ 20000) (h2 : 2 ≤ s.size) (hd : ¬ Hd2 s[0].toNat s[1].toNat) (hm : 0 ≤ most ∧ most ≤ 300000) :
    Calls Tryz.prog 20 #[.string s, .int .i64 most] w fun e w' => Below w.heap.size w w' ∧ e = .returned (zW (.err 0)) := by
  have d1 : decide (most < 0) = false := decide_eq_false (by omega)
  have d2 : decide (most > 300000) = false := decide_eq_false (by omega)
  have d2' : decide (300000 < most) = false := d2
  have d3 : decide ((s.size : Int) > 300000) = false := decide_eq_false (by omega)
  have d3' : decide ((300000 : Int) < (s.size : Int)) = false := d3
  have d3n : decide (300000 < s.size) = false := decide_eq_false (by omega)
  have d4 : decide ((s.size : Int) < 2) = false := decide_eq_false (by omega)
  have d4n : decide (s.size < 2) = false := decide_eq_false (by omega)
  have hx := s[0].toNat_lt
  have hy := s[1].toNat_lt
  have h0i : (0 : Int) < (s.size : Int) := by omega
  have h1i : (1 : Int) < (s.size : Int) := by omega
  obtain ⟨x, hxe⟩ : ∃ x, x = s[0].toNat := ⟨_, rfl⟩
  obtain ⟨y, hye⟩ : ∃ y, y = s[1].toNat := ⟨_, rfl⟩
  have hx' : s[0].toNat = x := hxe.symm
  have hy' : s[1].toNat = y := hye.symm
  rw [hx'] at hx hd
  rw [hy'] at hy hd
  clear hxe hye
  by_cases c1 : x % 16 = 8
  · have e1 : (x : Int) % 16 = 8 := by omega
    by_cases c2 : x / 16 ≤ 7
    · have e2 : decide ((x : Int) / 16 > 7) = false := decide_eq_false (by omega)
      have e2' : decide ((7 : Int) < (x : Int) / 16) = false := e2
      by_cases c3 : (x * 256 + y) % 31 = 0
      · have e3 : ((x : Int) * 256 + (y : Int)) % 31 = 0 := by omega
        have e4q : ¬ ((y : Int) / 32 % 2 = 0) := fun q => hd ⟨c1, c2, c3, by omega⟩
        have e4 : (y : Int) / 32 % 2 = 1 := by omega
        clear hd c1 c2 c3 e4q
        go_enter Tryz.func20, Tryz.ntmps20
        go_wp2
        go_quiet (fail)
        go_wp2
        go_ret2
        exact ⟨below_drewN (Below.refl _ _) _, rfl⟩
      · have e3 : (((x : Int) * 256 + (y : Int)) % 31 == 0) = false := beq_eq_false_iff_ne.2 (by omega)
        have e3b : (((x : Int) * 256 + (y : Int)) % 31 != 0) = true := by simp only [bne, e3]; rfl
        have e3c : ¬ (((x : Int) * 256 + (y : Int)) % 31 = 0) := by omega
        clear hd c1 c2 c3
        go_enter Tryz.func20, Tryz.ntmps20
        go_wp2
        go_quiet (fail)
        go_wp2
        go_ret2
        exact ⟨below_drewN (Below.refl _ _) _, rfl⟩
    · have e2 : decide ((x : Int) / 16 > 7) = true := decide_eq_true (by omega)
      have e2' : decide ((7 : Int) < (x : Int) / 16) = true := e2
      clear hd c1 c2
      go_enter Tryz.func20, Tryz.ntmps20
      go_wp2
      go_quiet (fail)
      go_wp2
      go_ret2
      exact ⟨below_drewN (Below.refl _ _) _, rfl⟩
  · have e1 : ((x : Int) % 16 == 8) = false := beq_eq_false_iff_ne.2 (by omega)
    have e1b : ((x : Int) % 16 != 8) = true := by simp only [bne, e1]; rfl
    have e1c : ¬ ((x : Int) % 16 = 8) := by omega
    clear hd c1
    go_enter Tryz.func20, Tryz.ntmps20
    go_wp2
    go_quiet (fail)
    go_wp2
    go_ret2
    exact ⟨below_drewN (Below.refl _ _) _, rfl⟩
end Go.Proofs.YtfeljhikeddodadGreatDoor
namespace Go.Proofs.YtfeljhikeddodadGreatDoor
open Go.RowKit Pm Cn Cd Nf

theorem unzipOf_any (s : ByteArray) (most : Int) (w : World) (h0 : s.size ≤ 20000) :
    Calls Tryz.prog 20 #[.string s, .int .i64 most] w fun e w' => Below w.heap.size w w' ∧ e = .returned (zW (zr s most)) := by
  by_cases hm : 0 ≤ most ∧ most ≤ 300000
  · by_cases h2 : 2 ≤ s.size
    · by_cases hd : Hd2 s[0].toNat s[1].toNat
      · have ez : zr s most = tailZ s (frOf ((inflS (s.extract 2 s.size) most).getD (.err .text))) := by unfold zr; rw [if_pos hm, dif_pos h2, if_pos hd]
        rw [ez]
        refine unzipOf_head s most w h0 h2 hd hm _ (fun n => ?_)
        have hbd : Below w.heap.size w (w.drewN n) := below_drewN (Below.refl _ _) n
        refine (inflateOf_any (s.extract 2 s.size) most (w.drewN n) (by rw [cut_size]; omega)).mono ?_
        rintro e w' ⟨r, v, hr, rfl, hbw⟩
        refine ⟨hbd.trans hbw, ?_⟩
        rcases v with ⟨⟨_, a3, n3, c3, rfl⟩, ⟨_, a4, n4, c4, rfl⟩, ⟨_, a5, n5, c5, rfl⟩, ⟨_, a6, n6, c6, rfl⟩, ⟨_, a9, n9, c9, rfl⟩, i7, i8⟩
        refine ⟨a3, n3, c3, a4, n4, c4, a5, n5, c5, a6, n6, c6, a9, n9, c9, i7, i8, ?_⟩
        rw [hr, Option.getD_some]
        rcases r with ⟨k, out⟩ | er
        · obtain ⟨i1, i2, _⟩ := inflS_most hr
          rw [cut_size] at i2
          exact .inl ⟨⟨out.toArray⟩, (k + 7) / 8, rfl, by omega, by show out.toArray.size ≤ _; simp; omega, rfl⟩
        · cases er
          · exact .inr ⟨0, rfl, by omega, rfl⟩
          · exact .inr ⟨1, rfl, by omega, rfl⟩
      · have ez : zr s most = .err 0 := by unfold zr; rw [if_pos hm, dif_pos h2, if_neg hd]
        rw [ez]
        exact unzipOf_no s most w h0 h2 hd hm
    · have ez : zr s most = .err 0 := by unfold zr; rw [if_pos hm, dif_neg h2]
      rw [ez]
      exact unzipOf_short s most w (by omega) hm
  · have ez : zr s most = .err 1 := by unfold zr; rw [if_neg hm]
    rw [ez]
    exact unzipOf_out s most w hm
end Go.Proofs.YtfeljhikeddodadGreatDoor
namespace Go.Proofs.YtfeljhikeddodadGreatDoor
open Go.RowKit Pm Cn Nf Ps

theorem five_text (o t : ByteArray) (a b c d e : Nat) : (o ++ ⟨#[UInt8.ofNat a]⟩ ++ ⟨#[UInt8.ofNat b]⟩ ++ ⟨#[UInt8.ofNat c]⟩ ++ ⟨#[UInt8.ofNat d]⟩ ++ ⟨#[UInt8.ofNat e]⟩ ++ t).data.toList = o.data.toList ++ ([UInt8.ofNat a, UInt8.ofNat b, UInt8.ofNat c, UInt8.ofNat d, UInt8.ofNat e] ++ t.data.toList) := by
  simp [ByteArray.data_append]
set_option maxHeartbeats 4000000 in
set_option maxRecDepth 100000 in
theorem storedOf_any (s : ByteArray) (F : Nat) (w : World) (hs : s.size ≤ 300000) (hF : s.size ≤ 65535 * F) (hF0 : 0 < F) (hF5 : F ≤ 5) :
    Calls Tryz.prog 21 #[.string s] w fun e w' => e = .returned (.string ⟨(stoB s.data.toList F).toArray⟩) ∧ Below w.heap.size w w' := by
  have HBY : Hid (∀ (m : Nat) (w : World), m < 256 → Calls Tryz.prog 60 #[.int .i64 (m : Int)] w fun e w' => e = .returned (.string ⟨#[UInt8.ofNat m]⟩) ∧ Below w.heap.size w w') := fun m w h => byte_any m w h
  obtain ⟨G, hG⟩ : ∃ G, G = stoB s.data.toList F := ⟨_, rfl⟩
  rw [← hG]
  have HG := hide hG
  clear hG
  go_enter Tryz.func21, Tryz.ntmps21
  go_wp2
  go_loopw [0, 3] (fun sv ov wr => ∃ (t o : ByteArray) (f : Nat), sv = .string t ∧ ov = .string o ∧ t.size ≤ 300000 ∧ o.size + t.size + 5 * f ≤ 400000 ∧ Hid (G = o.data.toList ++ stoB t.data.toList f) ∧ t.size ≤ 65535 * f ∧ 0 < f ∧ Below w.heap.size w wr) (fun sv _ _ => (match sv with | .string t => t.size | _ => 0))
  case atStart => exact ⟨s, ⟨#[]⟩, F, rfl, rfl, hs, by show 0 + _ + _ ≤ _; omega, unhide HG, hF, hF0, Below.refl _ _⟩
  case round =>
    obtain ⟨t, o, f, rfl, rfl, ht3, hot, HGr, htf, hf0, hbr⟩ := hrel
    by_cases hlt : 65535 < t.size
    · have g1 : decide ((t.size : Int) > 65535) = true := by simp; omega
      have g1' : decide ((65535 : Int) < (t.size : Int)) = true := g1
      have g1n : decide (65535 < t.size) = true := by simp; omega
      have g2 : ((65535 : Int) == (t.size : Int)) = false := by simp; omega
      have g2' : ((t.size : Int) == 65535) = false := by simp; omega
      have hti : (65535 : Int) ≤ (t.size : Int) := by omega
      have htn : 65535 ≤ t.size := by omega
      obtain ⟨f', hf'⟩ : ∃ f', f = f' + 1 := ⟨f - 1, by omega⟩
      have hcs : (t.extract 0 65535).size = 65535 := by simp; omega
      have hbs : (t.extract 65535 t.size).size = t.size - 65535 := by simp
      obtain ⟨o2, ho2⟩ : ∃ o2, o2 = o ++ ⟨#[UInt8.ofNat 0]⟩ ++ ⟨#[UInt8.ofNat 255]⟩ ++ ⟨#[UInt8.ofNat 255]⟩ ++ ⟨#[UInt8.ofNat 0]⟩ ++ ⟨#[UInt8.ofNat 0]⟩ ++ t.extract 0 65535 := ⟨_, rfl⟩
      have hos : o2.size = o.size + 65540 := by rw [ho2]; simp only [ByteArray.size_append, hcs]; rfl
      have HGN : Hid (G = o2.data.toList ++ stoB (t.extract 65535 t.size).data.toList f') := by
        show _ = _
        rw [unhide HGr, hf', ho2, five_text, List.append_assoc, cut_front, cut_back]
        show o.data.toList ++ (if 65535 < t.data.toList.length then _ else _) = _
        rw [if_pos (by rw [list_size]; exact hlt)]
        have hl : (t.data.toList.take 65535).length = 65535 := by rw [List.length_take, list_size]; omega
        unfold blk
        rw [hl]
        simp
      obtain ⟨u, hu⟩ : ∃ u, u = t.extract 65535 t.size := ⟨_, rfl⟩
      have hu' : t.extract 65535 t.size = u := hu.symm
      rw [hu'] at hbs HGN
      have hq : u.toList ≠ [] := fun q => by
        rw [ByteArray.toList_eq] at q
        have h1 : u.data.toList.length = u.size := list_size u
        rw [q] at h1
        simp only [List.length_nil] at h1
        omega
      have hq1 : (u.toList == []) = false := beq_eq_false_iff_ne.2 hq
      have hq2 : u.toList.isEmpty = false := by simpa using hq
      have hq3 : (u.toList == (⟨#[]⟩ : ByteArray).toList) = false := by rw [ByteArray.toList_eq ⟨#[]⟩]; exact hq1
      have HO2 := hide ho2
      have H0 : Hid (∀ w, Calls Tryz.prog 60 #[.int .i64 0] w fun e w' => e = .returned (.string ⟨#[UInt8.ofNat 0]⟩) ∧ Below w.heap.size w w') := fun w => unhide HBY 0 w (by omega)
      have H255 : Hid (∀ w, Calls Tryz.prog 60 #[.int .i64 255] w fun e w' => e = .returned (.string ⟨#[UInt8.ofNat 255]⟩) ∧ Below w.heap.size w w') := fun w => unhide HBY 255 w (by omega)
      have n1 : ¬ (9223372036854775807 < o.size + 1) := by omega
      have n2 : ¬ (9223372036854775807 < o.size + 1 + 1) := by omega
      have n3 : ¬ (9223372036854775807 < o.size + 1 + 1 + 1) := by omega
      have n4 : ¬ (9223372036854775807 < o.size + 1 + 1 + 1 + 1) := by omega
      have n5 : ¬ (9223372036854775807 < o.size + 1 + 1 + 1 + 1 + 1) := by omega
      have n6 : ¬ (9223372036854775807 < o.size + 1 + 1 + 1 + 1 + 1 + t.size) := by omega
      have n7 : ¬ (9223372036854775807 < o.size + 1 + 1 + 1 + 1 + 1 + 65535) := by omega
      have n8 : ¬ (9223372036854775807 < o.size + 1 + 1 + 1 + 1 + 1 + min 65535 t.size) := by omega
      have HF1 := hide hf'
      clear hu hq HGr hf' ho2
      go_wp2_with fail
      haveI : Nonempty (BelowOf w.heap.size w) := ⟨⟨w, Below.refl _ _⟩⟩
      refine region_below w.heap.size w hbr (by kernel_rfl) ?_
      repeat (quiet_step (first | (go_at_call 60; first | exact Calls.below_of (Nat.le_refl _) (unhide H0 _) | exact Calls.below_of (Nat.le_refl _) (unhide H255 _))))
      refine wpQuiet_nil ?_
      intro _ hw'
      obtain ⟨⟨wq, hwq⟩, rfl⟩ := hw'
      clear H0 H255
      go_wp2
      go_roundw
      case rel => exact ⟨u, o2, f', rfl, by rw [unhide HO2]; rfl, by omega, by have := unhide HF1; omega, HGN, by have := unhide HF1; omega, by have := unhide HF1; omega, hwq⟩
      case measure => simp; omega
    · have g1 : decide ((t.size : Int) > 65535) = false := by simp; omega
      have g1' : decide ((65535 : Int) < (t.size : Int)) = false := g1
      have g1n : decide (65535 < t.size) = false := by simp; omega
      obtain ⟨f', hf'⟩ : ∃ f', f = f' + 1 := ⟨f - 1, by omega⟩
      obtain ⟨n, hn⟩ : ∃ n, n = t.size := ⟨_, rfl⟩
      obtain ⟨a0, ha0⟩ : ∃ a, a = n % 256 := ⟨_, rfl⟩
      obtain ⟨a1, ha1⟩ : ∃ a, a = n / 256 := ⟨_, rfl⟩
      obtain ⟨b0, hb0⟩ : ∃ a, a = 255 - a0 := ⟨_, rfl⟩
      obtain ⟨b1, hb1⟩ : ∃ a, a = 255 - a1 := ⟨_, rfl⟩
      have z0 : (t.size : Int) % 256 = (a0 : Int) := by omega
      have z1 : (t.size : Int) / 256 = (a1 : Int) := by omega
      have z0t : (t.size : Int).tmod 256 = (a0 : Int) := by rw [Int.tmod_eq_emod_of_nonneg (by omega)]; exact z0
      have z1t : (t.size : Int).tdiv 256 = (a1 : Int) := by rw [Int.tdiv_eq_ediv_of_nonneg (by omega)]; exact z1
      have z2 : (255 : Int) - (a0 : Int) = (b0 : Int) := by omega
      have z3 : (255 : Int) - (a1 : Int) = (b1 : Int) := by omega
      have l0 : a0 < 256 := by omega
      have l1 : a1 < 256 := by omega
      have l2 : b0 < 256 := by omega
      have l3 : b1 < 256 := by omega
      have hf1 : t.extract 0 t.size = t := by simp
      have hf2 : t.extract t.size t.size = ⟨#[]⟩ := by
        apply text_ext
        rw [cut_back]
        simp
      obtain ⟨o2, ho2⟩ : ∃ o2, o2 = o ++ ⟨#[UInt8.ofNat 1]⟩ ++ ⟨#[UInt8.ofNat a0]⟩ ++ ⟨#[UInt8.ofNat a1]⟩ ++ ⟨#[UInt8.ofNat b0]⟩ ++ ⟨#[UInt8.ofNat b1]⟩ ++ t := ⟨_, rfl⟩
      have HGN : Hid (o2 = ⟨G.toArray⟩) := by
        show _ = _
        apply text_ext
        rw [unhide HGr, hf', ho2, five_text]
        show _ = o.data.toList ++ (if 65535 < t.data.toList.length then _ else _)
        rw [if_neg (by rw [list_size]; exact hlt)]
        unfold blk
        rw [list_size, hb0, hb1, ha0, ha1, hn]
        rfl
      have HO2 := hide ho2
      have H1 : Hid (∀ w, Calls Tryz.prog 60 #[.int .i64 1] w fun e w' => e = .returned (.string ⟨#[UInt8.ofNat 1]⟩) ∧ Below w.heap.size w w') := fun w => unhide HBY 1 w (by omega)
      have wa0 : IntKind.i64.wrap (a0 : Int) = (a0 : Int) := by rw [IntKind.wrap_i64]; omega
      have wa1 : IntKind.i64.wrap (a1 : Int) = (a1 : Int) := by rw [IntKind.wrap_i64]; omega
      have wb0 : IntKind.i64.wrap (b0 : Int) = (b0 : Int) := by rw [IntKind.wrap_i64]; omega
      have wb1 : IntKind.i64.wrap (b1 : Int) = (b1 : Int) := by rw [IntKind.wrap_i64]; omega
      have HA0 := hide (fun w => unhide HBY a0 w l0)
      have HA1 := hide (fun w => unhide HBY a1 w l1)
      have HB0 := hide (fun w => unhide HBY b0 w l2)
      have HB1 := hide (fun w => unhide HBY b1 w l3)
      have hos : o.size ≤ 400000 := by omega
      have n1 : ¬ (9223372036854775807 < o.size + 1) := by omega
      have n2 : ¬ (9223372036854775807 < o.size + 1 + 1) := by omega
      have n3 : ¬ (9223372036854775807 < o.size + 1 + 1 + 1) := by omega
      have n4 : ¬ (9223372036854775807 < o.size + 1 + 1 + 1 + 1) := by omega
      have n5 : ¬ (9223372036854775807 < o.size + 1 + 1 + 1 + 1 + 1) := by omega
      have n6 : ¬ (9223372036854775807 < o.size + 1 + 1 + 1 + 1 + 1 + t.size) := by omega
      have n7 : ¬ (9223372036854775807 < o.size + 1 + 1 + 1 + 1 + 1 + 65535) := by omega
      have n8 : ¬ (9223372036854775807 < o.size + 1 + 1 + 1 + 1 + 1 + min 65535 t.size) := by omega
      clear ha0 ha1 hb0 hb1 hn HGr hf' ho2
      go_wp2_with fail
      haveI : Nonempty (BelowOf w.heap.size w) := ⟨⟨w, Below.refl _ _⟩⟩
      refine region_below w.heap.size w hbr (by kernel_rfl) ?_
      quiet_step (fail)
      quiet_step (fail)
      quiet_step ((go_at_call 60; exact Calls.below_of (Nat.le_refl _) (unhide H1 _)))
      quiet_step (fail)
      quiet_step (fail)
      quiet_step (fail)
      quiet_step ((go_at_call 60; exact Calls.below_of (Nat.le_refl _) (unhide HA0 _)))
      quiet_step (fail)
      quiet_step (fail)
      quiet_step (fail)
      quiet_step ((go_at_call 60; exact Calls.below_of (Nat.le_refl _) (unhide HA1 _)))
      quiet_step (fail)
      quiet_step (fail)
      quiet_step (fail)
      quiet_step (fail)
      quiet_step ((go_at_call 60; exact Calls.below_of (Nat.le_refl _) (unhide HB0 _)))
      quiet_step (fail)
      quiet_step (fail)
      quiet_step (fail)
      quiet_step (fail)
      quiet_step ((go_at_call 60; exact Calls.below_of (Nat.le_refl _) (unhide HB1 _)))
      quiet_step (fail)
      quiet_step (fail)
      quiet_step (fail)
      quiet_step (fail)
      quiet_step (fail)
      quiet_step (fail)
      refine wpQuiet_nil ?_
      intro _ hw'
      obtain ⟨⟨wq, hwq⟩, rfl⟩ := hw'
      go_wp2
      go_ret
      exact ⟨by rw [← unhide HGN, unhide HO2]; rfl, hwq⟩
end Go.Proofs.YtfeljhikeddodadGreatDoor
