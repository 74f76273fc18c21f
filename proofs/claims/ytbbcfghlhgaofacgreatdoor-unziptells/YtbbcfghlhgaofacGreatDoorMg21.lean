/- Walk of the program's reading of a packed text with a head and a sum, by what its reader tells. Walk of the document's reading of a packed text with a head and a sum, by what its reader tells. Walks of packed texts with no head, or outside the bounds: the program's reading and the document's. Walk of the document's reading of a text with no head. -/
import Derived.Test.YtbbcfghlhgaofacGreatDoorMg20
namespace Go.Proofs.YtbbcfghlhgaofacGreatDoor
open Go.RowKit

/-- What is told: a text, or an error's number. -/
inductive Zr where
  | ok (t : ByteArray)
  | err (i : Nat)

/-- What a reader tells of the bytes behind the head: a text and the bytes used, or an error (0: text, 1: bound). -/
inductive Fr where
  | ok (t : ByteArray) (used : Nat)
  | err (i : Nat)

/-- Behind the head. -/
def tailZ (s : ByteArray) : Fr → Zr
  | .err i => .err i
  | .ok t used => if s.size ≠ 2 + used + 4 then .err 0 else if big (s.extract (2 + used) s.size).data.toList ≠ Ad.more 1 t.data.toList then .err 3 else .ok t

def zV (tE : TypeId) (xs : Nat → Value) : Zr → Value
  | .ok t => .tuple #[.string t, .nilIface]
  | .err i => .tuple #[.string ⟨#[]⟩, .iface tE (xs i)]

section
variable {tE : TypeId} {xs : Nat → Value}

set_option maxHeartbeats 2000000 in
set_option maxRecDepth 100000 in
theorem unzip_head (s : ByteArray) (most : Int) (w : World) (hs : s.size ≤ 3000) (h2 : 2 ≤ s.size) (hd : Hd2 s[0].toNat s[1].toNat)
    (hB : ∀ w', Calls Tryz.prog 11 #[.string s, .int .i64 most] w' fun e w'' => e = .returned (.bool true) ∧ w'' = w')
    (hT : w.cell? ⟨1, 0, none⟩ = some (.iface tE (xs 0))) (hS : w.cell? ⟨2, 0, none⟩ = some (.iface tE (xs 3))) (F : Fr)
    (hI : ∀ n, Calls Tryz.prog 6 #[.string (s.extract 2 s.size), .int .i64 most] (w.drewN n) fun e w' => Below w.heap.size w w' ∧ ((∃ t us, F = .ok t us ∧ 2 + us ≤ s.size ∧ t.size ≤ 300000 ∧ e = .returned (.tuple #[.string t, .int .i64 (us : Nat), .nilIface])) ∨ (∃ i, F = .err i ∧ e = .returned (.tuple #[.string ⟨#[]⟩, .int .i64 0, .iface tE (xs i)])))) :
    Calls Tryz.prog 9 #[.string s, .int .i64 most] w fun e w' => Below w.heap.size w w' ∧ e = .returned (zV tE xs (tailZ s F)) := by
  obtain ⟨Z, hZ⟩ : ∃ Z, Z = tailZ s F := ⟨_, rfl⟩
  rw [← hZ]
  have HZ := hide hZ
  clear hZ
  have HB := hide hB
  have HI := hide hI
  have HH := hide (headed_any s w h2 (by omega))
  rw [decide_eq_true hd] at HH
  clear hB hI
  go_enter Tryz.func9, Tryz.ntmps9
  go_wp2_with fail
  refine (unhide HB _).mono ?_; rintro e w1 ⟨rfl, hw1⟩
  replace hw1 := hw1.symm
  subst hw1
  go_wp2_with fail
  refine (unhide HH).mono ?_; rintro e w2 ⟨rfl, nn, rfl⟩
  clear HH HB
  go_wp2_with fail
  refine (unhide HI nn).mono ?_
  rintro e w3 ⟨hb3, ⟨t, us, rfl, hus, htl, rfl⟩ | ⟨i, rfl, rfl⟩⟩
  rotate_left
  · have HX : Hid (Z = .err i) := unhide HZ
    clear HI
    go_wp2
    go_ret2
    exact ⟨hb3, by rw [unhide HX]; rfl⟩
  have cT := (hb3.cell (p := ⟨1, 0, none⟩) (World.block_lt_of_cell? _ _ hT)).trans hT
  have cS := (hb3.cell (p := ⟨2, 0, none⟩) (World.block_lt_of_cell? _ _ hS)).trans hS
  clear HI hT hS
  obtain ⟨tl, htle⟩ : ∃ q, q = s.extract (2 + us) s.size := ⟨_, rfl⟩
  have hts : tl.size = s.size - (2 + us) := by rw [htle]; simp
  have htl' : s.extract (2 + us) s.size = tl := htle.symm
  obtain ⟨k2, hk2⟩ : ∃ q, q = 2 + us := ⟨_, rfl⟩
  have zk : (2 : Int) + (us : Int) = (k2 : Int) := by omega
  have hkl : k2 ≤ s.size := by omega
  have hki : (k2 : Int) ≤ (s.size : Int) := by omega
  rw [← hk2] at htl'
  have HK2 := hide hk2
  have HTE := hide htle
  clear hk2 htle
  by_cases h4 : tl.size = 4
  · have g4 : ((tl.size : Int) == 4) = true := beq_iff_eq.2 (by omega)
    have g4' : ((tl.size : Int) != 4) = false := by simp; omega
    have HHF := hide (highestFirst_any tl w3 h4)
    have HAD := hide (adler_any t w3 (by unfold maxLen; omega))
    by_cases hq : big tl.data.toList = Ad.more 1 t.data.toList
    · have HX : Hid (Z = .ok t) := by
        show _ = _
        rw [unhide HZ]
        dsimp only [tailZ]
        have := unhide HK2
        rw [if_neg (by omega), if_neg (by rw [← unhide HTE]; simpa using hq)]
      have gq : ((big tl.data.toList : Int) == (Ad.more 1 t.data.toList : Int)) = true := beq_iff_eq.2 (by omega)
      go_wp2_with fail
      refine (unhide HHF).mono ?_; rintro e w4 ⟨rfl, hw4⟩
      replace hw4 := hw4.symm
      subst hw4
      go_wp2_with fail
      refine (unhide HAD).mono ?_; rintro e w5 ⟨rfl, hw5⟩
      replace hw5 := hw5.symm
      subst hw5
      clear HHF HAD hq
      generalize big tl.data.toList = b1 at *
      generalize Ad.more 1 t.data.toList = b2 at *
      go_wp2
      go_ret2
      exact ⟨hb3, by rw [unhide HX]; rfl⟩
    · have HX : Hid (Z = .err 3) := by
        show _ = _
        rw [unhide HZ]
        dsimp only [tailZ]
        have := unhide HK2
        rw [if_neg (by omega), if_pos (by rw [← unhide HTE]; exact hq)]
      have gq : ((big tl.data.toList : Int) == (Ad.more 1 t.data.toList : Int)) = false := beq_eq_false_iff_ne.2 (by omega)
      go_wp2_with fail
      refine (unhide HHF).mono ?_; rintro e w4 ⟨rfl, hw4⟩
      replace hw4 := hw4.symm
      subst hw4
      go_wp2_with fail
      refine (unhide HAD).mono ?_; rintro e w5 ⟨rfl, hw5⟩
      replace hw5 := hw5.symm
      subst hw5
      clear HHF HAD hq
      generalize big tl.data.toList = b1 at *
      generalize Ad.more 1 t.data.toList = b2 at *
      go_wp2
      go_quiet (fail)
      go_wp2
      go_ret2
      exact ⟨below_drewN hb3 _, by rw [unhide HX]; rfl⟩
  · have g4 : ((tl.size : Int) == 4) = false := beq_eq_false_iff_ne.2 (by omega)
    have g4' : ((tl.size : Int) != 4) = true := by simp; omega
    have HX : Hid (Z = .err 0) := by
      show _ = _
      rw [unhide HZ]
      dsimp only [tailZ]
      have := unhide HK2
      rw [if_pos (by omega)]
    go_wp2
    go_quiet (fail)
    go_wp2
    go_ret2
    exact ⟨below_drewN hb3 _, by rw [unhide HX]; rfl⟩
end
end Go.Proofs.YtbbcfghlhgaofacGreatDoor
namespace Go.Proofs.YtbbcfghlhgaofacGreatDoor
open Go.RowKit

/-- What the document tells: a text, and an error's number. -/
def zW : Zr → Value
  | .ok t => .tuple #[.string t, .int .i64 0]
  | .err i => .tuple #[.string ⟨#[]⟩, .int .i64 ((i + 1 : Nat) : Int)]

set_option maxHeartbeats 2000000 in
set_option maxRecDepth 100000 in
theorem unzipOf_head (s : ByteArray) (most : Int) (w : World) (hs : s.size ≤ 3000) (h2 : 2 ≤ s.size) (hd : Hd2 s[0].toNat s[1].toNat) (hm : 0 ≤ most ∧ most ≤ 300000) (F : Fr)
    (hI : ∀ n, Calls Tryz.prog 7 #[.string (s.extract 2 s.size), .int .i64 most] (w.drewN n) fun e w' => Below w.heap.size w w' ∧ ∃ a3 n3 c3 a4 n4 c4 a5 n5 c5 a6 n6 c6 a9 n9 c9 i7 i8, ((∃ t us, F = .ok t us ∧ 2 + us ≤ s.size ∧ t.size ≤ 300000 ∧ e = .returned (.agg #[.string t, .int .i64 (us : Nat), .int .i64 0, .slice a3 n3 c3, .slice a4 n4 c4, .slice a5 n5 c5, .slice a6 n6 c6, .int .i64 i7, .int .i64 i8, .slice a9 n9 c9])) ∨ (∃ i, F = .err i ∧ i ≤ 8 ∧ e = .returned (.agg #[.string ⟨#[]⟩, .int .i64 0, .int .i64 ((i + 1 : Nat) : Int), .slice a3 n3 c3, .slice a4 n4 c4, .slice a5 n5 c5, .slice a6 n6 c6, .int .i64 i7, .int .i64 i8, .slice a9 n9 c9])))) :
    Calls Tryz.prog 10 #[.string s, .int .i64 most] w fun e w' => Below w.heap.size w w' ∧ e = .returned (zW (tailZ s F)) := by
  obtain ⟨Z, hZ⟩ : ∃ Z, Z = tailZ s F := ⟨_, rfl⟩
  rw [← hZ]
  have HZ := hide hZ
  have HI := hide hI
  have d1 : decide (most < 0) = false := decide_eq_false (by omega)
  have d2 : decide (most > 300000) = false := decide_eq_false (by omega)
  have d2' : decide (300000 < most) = false := d2
  have d3 : decide ((s.size : Int) > 300000) = false := decide_eq_false (by omega)
  have d3' : decide ((300000 : Int) < (s.size : Int)) = false := d3
  have d3n : decide (300000 < s.size) = false := decide_eq_false (by omega)
  have d4 : decide ((s.size : Int) < 2) = false := decide_eq_false (by omega)
  have d4n : decide (s.size < 2) = false := decide_eq_false (by omega)
  have hx := s[0].toNat_lt
  have hy := s[1].toNat_lt
  have h0i : (0 : Int) < (s.size : Int) := by omega
  have h1i : (1 : Int) < (s.size : Int) := by omega
  obtain ⟨c1, c2, c3, c4⟩ := hd
  obtain ⟨x, hxe⟩ : ∃ x, x = s[0].toNat := ⟨_, rfl⟩
  obtain ⟨y, hye⟩ : ∃ y, y = s[1].toNat := ⟨_, rfl⟩
  have hx' : s[0].toNat = x := hxe.symm
  have hy' : s[1].toNat = y := hye.symm
  rw [hx'] at hx c1 c2 c3
  rw [hy'] at hy c3 c4
  have e1 : (x : Int) % 16 = 8 := by omega
  have e2 : decide ((x : Int) / 16 > 7) = false := decide_eq_false (by omega)
  have e2' : decide ((7 : Int) < (x : Int) / 16) = false := e2
  have e3 : ((x : Int) * 256 + (y : Int)) % 31 = 0 := by omega
  have e4 : (y : Int) / 32 % 2 = 0 := by omega
  clear hxe hye hI hZ c1 c2 c3 c4
  go_enter Tryz.func10, Tryz.ntmps10
  go_wp2
  go_quiet (fail)
  go_wp2_with fail
  refine (unhide HI _).mono ?_
  rintro e w3 ⟨hb3, a3, n3, c3, a4, n4, c4, a5, n5, c5, a6, n6, c6, a9, n9, c9, i7, i8, ⟨t, us, rfl, hus, htl, rfl⟩ | ⟨i, rfl, hi8, rfl⟩⟩
  rotate_left
  · have HX : Hid (Z = .err i) := unhide HZ
    have g1 : decide (((i + 1 : Nat) : Int) > 0) = true := decide_eq_true (by omega)
    have g1' : decide ((0 : Int) < ((i + 1 : Nat) : Int)) = true := g1
    obtain ⟨j, hj⟩ : ∃ j, j = i + 1 := ⟨_, rfl⟩
    rw [← hj] at g1 g1' ⊢
    have g1n : decide (0 < j) = true := decide_eq_true (by omega)
    have hjp : 0 < j := by omega
    have HJ := hide hj
    have HB := hide (hb3.alloc hb3.size (.cells #[.string ⟨#[]⟩, .int .i64 0, .int .i64 (j : Int), .slice a3 n3 c3, .slice a4 n4 c4, .slice a5 n5 c5, .slice a6 n6 c6, .int .i64 i7, .int .i64 i8, .slice a9 n9 c9] 30))
    clear HI hj hb3
    go_wp2
    go_quiet (fail)
    go_wp2
    go_ret2
    exact ⟨below_drewN (unhide HB) _, by rw [unhide HX, unhide HJ]; rfl⟩
  have HB := hide (hb3.alloc hb3.size (.cells #[.string t, .int .i64 (us : Nat), .int .i64 0, .slice a3 n3 c3, .slice a4 n4 c4, .slice a5 n5 c5, .slice a6 n6 c6, .int .i64 i7, .int .i64 i8, .slice a9 n9 c9] 30))
  obtain ⟨tl, htle⟩ : ∃ q, q = s.extract (2 + us) s.size := ⟨_, rfl⟩
  have hts : tl.size = s.size - (2 + us) := by rw [htle]; simp
  have htl' : s.extract (2 + us) s.size = tl := htle.symm
  obtain ⟨k2, hk2⟩ : ∃ q, q = 2 + us := ⟨_, rfl⟩
  have zk : (2 : Int) + (us : Int) = (k2 : Int) := by omega
  have hkl : k2 ≤ s.size := by omega
  have hki : (k2 : Int) ≤ (s.size : Int) := by omega
  rw [← hk2] at htl'
  have HK2 := hide hk2
  have HTE := hide htle
  clear hk2 htle HI hb3
  by_cases h4 : s.size = k2 + 4
  · have g4 : ((s.size : Int) == (k2 : Int) + 4) = true := beq_iff_eq.2 (by omega)
    have HBI := hide (fun w' => bigOf_any tl w' (by have := unhide HK2; omega))
    have HAD := hide (fun w' => refAdler_any t w' (by unfold maxLen; omega))
    have HH4 := hide h4
    clear h4
    by_cases hq : big tl.data.toList = Ad.more 1 t.data.toList
    · have HX : Hid (Z = .ok t) := by
        show _ = _
        rw [unhide HZ]
        dsimp only [tailZ]
        have := unhide HK2
        have := unhide HH4
        rw [if_neg (by omega), if_neg (by rw [← unhide HTE]; simpa using hq)]
      have gq : ((big tl.data.toList : Int) == (Ad.more 1 t.data.toList : Int)) = true := beq_iff_eq.2 (by omega)
      clear hq
      generalize big tl.data.toList = b1 at *
      generalize Ad.more 1 t.data.toList = b2 at *
      go_wp2
      go_quiet (first | (go_at_call 31; exact Calls.quiet_of_same (unhide HBI _)) | (go_at_call 32; exact Calls.quiet_of_same (unhide HAD _)))
      go_wp2
      go_ret2
      exact ⟨below_drewN (unhide HB) _, by rw [unhide HX]; rfl⟩
    · have HX : Hid (Z = .err 3) := by
        show _ = _
        rw [unhide HZ]
        dsimp only [tailZ]
        have := unhide HK2
        have := unhide HH4
        rw [if_neg (by omega), if_pos (by rw [← unhide HTE]; exact hq)]
      have gq : ((big tl.data.toList : Int) == (Ad.more 1 t.data.toList : Int)) = false := beq_eq_false_iff_ne.2 (by omega)
      clear hq
      generalize big tl.data.toList = b1 at *
      generalize Ad.more 1 t.data.toList = b2 at *
      go_wp2
      go_quiet (first | (go_at_call 31; exact Calls.quiet_of_same (unhide HBI _)) | (go_at_call 32; exact Calls.quiet_of_same (unhide HAD _)))
      go_wp2
      go_ret2
      exact ⟨below_drewN (unhide HB) _, by rw [unhide HX]; rfl⟩
  · have g4 : ((s.size : Int) == (k2 : Int) + 4) = false := beq_eq_false_iff_ne.2 (by omega)
    have HX : Hid (Z = .err 0) := by
      show _ = _
      rw [unhide HZ]
      dsimp only [tailZ]
      have := unhide HK2
      rw [if_pos (by omega)]
    go_wp2
    go_ret2
    exact ⟨unhide HB, by rw [unhide HX]; rfl⟩
end Go.Proofs.YtbbcfghlhgaofacGreatDoor
namespace Go.Proofs.YtbbcfghlhgaofacGreatDoor
open Go.RowKit

section
variable {tE : TypeId} {xs : Nat → Value}

theorem unzip_out (s : ByteArray) (most : Int) (w : World) (hB : ∀ w', Calls Tryz.prog 11 #[.string s, .int .i64 most] w' fun e w'' => e = .returned (.bool false) ∧ w'' = w') (hT : w.cell? ⟨0, 0, none⟩ = some (.iface tE (xs 1))) :
    Calls Tryz.prog 9 #[.string s, .int .i64 most] w fun e w' => Below w.heap.size w w' ∧ e = .returned (zV tE xs (.err 1)) := by
  have HB := hide hB
  clear hB
  go_enter Tryz.func9, Tryz.ntmps9
  go_wp2_with fail
  refine (unhide HB _).mono ?_; rintro e w1 ⟨rfl, hw1⟩
  replace hw1 := hw1.symm
  subst hw1
  go_wp2
  go_quiet (fail)
  go_wp2
  go_ret2
  exact ⟨below_drewN (Below.refl _ _) _, rfl⟩

theorem unzip_no (s : ByteArray) (most : Int) (w : World) (hB : ∀ w', Calls Tryz.prog 11 #[.string s, .int .i64 most] w' fun e w'' => e = .returned (.bool true) ∧ w'' = w')
    (hH : Calls Tryz.prog 28 #[.string s] w fun e w' => e = .returned (.bool false) ∧ ∃ n, w' = w.drewN n) (hT : w.cell? ⟨1, 0, none⟩ = some (.iface tE (xs 0))) :
    Calls Tryz.prog 9 #[.string s, .int .i64 most] w fun e w' => Below w.heap.size w w' ∧ e = .returned (zV tE xs (.err 0)) := by
  have HB := hide hB
  have HH := hide hH
  clear hB hH
  go_enter Tryz.func9, Tryz.ntmps9
  go_wp2_with fail
  refine (unhide HB _).mono ?_; rintro e w1 ⟨rfl, hw1⟩
  replace hw1 := hw1.symm
  subst hw1
  go_wp2_with fail
  refine (unhide HH).mono ?_; rintro e w2 ⟨rfl, nn, rfl⟩
  clear HH HB
  go_wp2
  go_quiet (fail)
  go_wp2
  go_ret2
  exact ⟨below_drewN (below_drewN (Below.refl _ _) _) _, rfl⟩
end

theorem unzipOf_out (s : ByteArray) (most : Int) (w : World) (hm : ¬ (0 ≤ most ∧ most ≤ 300000)) :
    Calls Tryz.prog 10 #[.string s, .int .i64 most] w fun e w' => Below w.heap.size w w' ∧ e = .returned (zW (.err 1)) := by
  by_cases h0 : most < 0
  · have d1 : decide (most < 0) = true := decide_eq_true h0
    clear hm h0
    go_enter Tryz.func10, Tryz.ntmps10
    go_wp2
    go_ret2
    exact ⟨Below.refl _ _, rfl⟩
  · have d1 : decide (most < 0) = false := decide_eq_false h0
    have d2 : decide (most > 300000) = true := decide_eq_true (by omega)
    have d2' : decide (300000 < most) = true := d2
    clear hm h0
    go_enter Tryz.func10, Tryz.ntmps10
    go_wp2
    go_ret2
    exact ⟨Below.refl _ _, rfl⟩

set_option maxHeartbeats 1000000 in
set_option maxRecDepth 100000 in
theorem unzipOf_short (s : ByteArray) (most : Int) (w : World) (hs : s.size < 2) (hm : 0 ≤ most ∧ most ≤ 300000) :
    Calls Tryz.prog 10 #[.string s, .int .i64 most] w fun e w' => Below w.heap.size w w' ∧ e = .returned (zW (.err 0)) := by
  have d1 : decide (most < 0) = false := decide_eq_false (by omega)
  have d2 : decide (most > 300000) = false := decide_eq_false (by omega)
  have d2' : decide (300000 < most) = false := d2
  have d3 : decide ((s.size : Int) > 300000) = false := decide_eq_false (by omega)
  have d3' : decide ((300000 : Int) < (s.size : Int)) = false := d3
  have d3n : decide (300000 < s.size) = false := decide_eq_false (by omega)
  have d4 : decide ((s.size : Int) < 2) = true := decide_eq_true (by omega)
  have d4n : decide (s.size < 2) = true := decide_eq_true hs
  go_enter Tryz.func10, Tryz.ntmps10
  go_wp2
  go_quiet (fail)
  go_wp2
  go_ret2
  exact ⟨below_drewN (Below.refl _ _) _, rfl⟩
end Go.Proofs.YtbbcfghlhgaofacGreatDoor
namespace Go.Proofs.YtbbcfghlhgaofacGreatDoor
open Go.RowKit

set_option maxHeartbeats 2000000 in
set_option maxRecDepth 100000 in
theorem unzipOf_no (s : ByteArray) (most : Int) (w : World) (hs : s.size ≤ 3000) (h2 : 2 ≤ s.size) (hd : ¬ Hd2 s[0].toNat s[1].toNat) (hm : 0 ≤ most ∧ most ≤ 300000) :
    Calls Tryz.prog 10 #[.string s, .int .i64 most] w fun e w' => Below w.heap.size w w' ∧ e = .returned (zW (.err 0)) := by
  have d1 : decide (most < 0) = false := decide_eq_false (by omega)
  have d2 : decide (most > 300000) = false := decide_eq_false (by omega)
  have d2' : decide (300000 < most) = false := d2
  have d3 : decide ((s.size : Int) > 300000) = false := decide_eq_false (by omega)
  have d3' : decide ((300000 : Int) < (s.size : Int)) = false := d3
  have d3n : decide (300000 < s.size) = false := decide_eq_false (by omega)
  have d4 : decide ((s.size : Int) < 2) = false := decide_eq_false (by omega)
  have d4n : decide (s.size < 2) = false := decide_eq_false (by omega)
  have hx := s[0].toNat_lt
  have hy := s[1].toNat_lt
  have h0i : (0 : Int) < (s.size : Int) := by omega
  have h1i : (1 : Int) < (s.size : Int) := by omega
  obtain ⟨x, hxe⟩ : ∃ x, x = s[0].toNat := ⟨_, rfl⟩
  obtain ⟨y, hye⟩ : ∃ y, y = s[1].toNat := ⟨_, rfl⟩
  have hx' : s[0].toNat = x := hxe.symm
  have hy' : s[1].toNat = y := hye.symm
  rw [hx'] at hx hd
  rw [hy'] at hy hd
  clear hxe hye
  by_cases c1 : x % 16 = 8
  · have e1 : (x : Int) % 16 = 8 := by omega
    by_cases c2 : x / 16 ≤ 7
    · have e2 : decide ((x : Int) / 16 > 7) = false := decide_eq_false (by omega)
      have e2' : decide ((7 : Int) < (x : Int) / 16) = false := e2
      by_cases c3 : (x * 256 + y) % 31 = 0
      · have e3 : ((x : Int) * 256 + (y : Int)) % 31 = 0 := by omega
        have e4q : ¬ ((y : Int) / 32 % 2 = 0) := fun q => hd ⟨c1, c2, c3, by omega⟩
        have e4 : (y : Int) / 32 % 2 = 1 := by omega
        clear hd c1 c2 c3 e4q
        go_enter Tryz.func10, Tryz.ntmps10
        go_wp2
        go_quiet (fail)
        go_wp2
        go_ret2
        exact ⟨below_drewN (Below.refl _ _) _, rfl⟩
      · have e3 : (((x : Int) * 256 + (y : Int)) % 31 == 0) = false := beq_eq_false_iff_ne.2 (by omega)
        have e3b : (((x : Int) * 256 + (y : Int)) % 31 != 0) = true := by simp only [bne, e3]; rfl
        have e3c : ¬ (((x : Int) * 256 + (y : Int)) % 31 = 0) := by omega
        clear hd c1 c2 c3
        go_enter Tryz.func10, Tryz.ntmps10
        go_wp2
        go_quiet (fail)
        go_wp2
        go_ret2
        exact ⟨below_drewN (Below.refl _ _) _, rfl⟩
    · have e2 : decide ((x : Int) / 16 > 7) = true := decide_eq_true (by omega)
      have e2' : decide ((7 : Int) < (x : Int) / 16) = true := e2
      clear hd c1 c2
      go_enter Tryz.func10, Tryz.ntmps10
      go_wp2
      go_quiet (fail)
      go_wp2
      go_ret2
      exact ⟨below_drewN (Below.refl _ _) _, rfl⟩
  · have e1 : ((x : Int) % 16 == 8) = false := beq_eq_false_iff_ne.2 (by omega)
    have e1b : ((x : Int) % 16 != 8) = true := by simp only [bne, e1]; rfl
    have e1c : ¬ ((x : Int) % 16 = 8) := by omega
    clear hd c1
    go_enter Tryz.func10, Tryz.ntmps10
    go_wp2
    go_quiet (fail)
    go_wp2
    go_ret2
    exact ⟨below_drewN (Below.refl _ _) _, rfl⟩
end Go.Proofs.YtbbcfghlhgaofacGreatDoor
