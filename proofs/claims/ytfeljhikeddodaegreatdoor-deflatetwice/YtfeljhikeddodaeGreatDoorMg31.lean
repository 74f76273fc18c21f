/- What is packed is read back by Inflate, whatever stands behind. Plain. Walks of the head and the sum of a packed text. Walk of the program's reading of a packed text with a head and a sum, by what its reader tells. Walks of the program's reading of a packed text with no head, or outside the bounds. The program's reading of bytes with a head and a sum. What Zip makes is read back by Unzip. Plain. Walk of tokens packed into one fixed block, or refused. The closed fact: nothing, stored. -/
import Derived.Test.YtfeljhikeddodaeGreatDoorMg27
import Derived.Test.YtfeljhikeddodaeGreatDoorIn13
import Derived.Below
import Derived.BigQuiet
import Derived.Test.YtfeljhikeddodaeGreatDoorMg20
import Derived.Test.YtfeljhikeddodaeGreatDoorMg21
import Derived.Test.YtfeljhikeddodaeGreatDoorMg24
namespace Go.Proofs.YtfeljhikeddodaeGreatDoor
open Go.RowKit Ps Nf Pm Cn

theorem pk_read {l : List UInt8} {x : ByteArray} (h : Pk l x) (more : ByteArray) (m : Nat) (hm : l.length ≤ m) (hm3 : m ≤ 300000) (hz : more.size ≤ 1000) : ∃ c, inflS (x ++ more) (m : Int) = some (.ok c l) ∧ (c + 7) / 8 = x.size := by
  obtain ⟨ps, rfl, hf, hl, hr⟩ := h
  have hsz := textP_size ps
  refine ⟨len ps, ?_, hsz.symm⟩
  unfold inflS
  have h2 : (textP ps ++ more).size = (textP ps).size + more.size := ByteArray.size_append ..
  rw [if_pos ⟨by omega, by omega, by omega⟩]
  exact hr _ _ _ (by simpa using hm) (at_text hf more)
end Go.Proofs.YtfeljhikeddodaeGreatDoor
namespace Go.Proofs.YtfeljhikeddodaeGreatDoor
open Go.RowKit

/-- The head is one: of its two bytes. -/
def Hd2 (x y : Nat) : Prop := x % 16 = 8 ∧ x / 16 ≤ 7 ∧ (x * 256 + y) % 31 = 0 ∧ y / 32 % 2 = 0
instance (x y : Nat) : Decidable (Hd2 x y) := by unfold Hd2; infer_instance
theorem and15 (x : Nat) (h : x < 256) : bits .and .i64 (x : Int) 15 = ((x % 16 : Nat) : Int) := by
  have key : ∀ x : Fin 256, bits .and .i64 ((x.val : Nat) : Int) 15 = ((x.val % 16 : Nat) : Int) := by decide +kernel
  exact key ⟨x, h⟩
theorem and32 (x : Nat) (h : x < 256) : bits .and .i64 (x : Int) 32 = ((x / 32 % 2 * 32 : Nat) : Int) := by
  have key : ∀ x : Fin 256, bits .and .i64 ((x.val : Nat) : Int) 32 = ((x.val / 32 % 2 * 32 : Nat) : Int) := by decide +kernel
  exact key ⟨x, h⟩
theorem ret_b {a b : Bool} (h : a = b) : Ending.returned (.bool a) = .returned (.bool b) := by rw [h]
theorem headed_short (s : ByteArray) (w : World) (hs : s.size < 2) :
    Calls Tryz.prog 28 #[.string s] w fun e w' => e = .returned (.bool false) ∧ w' = w := by
  have d1 : decide ((s.size : Int) < 2) = true := by simp; omega
  have d2 : decide (s.size < 2) = true := by simpa using hs
  go_enter Tryz.func28, Tryz.ntmps28
  go_wp2
  go_ret
  exact ⟨rfl, rfl⟩
theorem headed_any (s : ByteArray) (w : World) (hs : 2 ≤ s.size) (hl : s.size ≤ 300000) :
    Calls Tryz.prog 28 #[.string s] w fun e w' => e = .returned (.bool (decide (Hd2 s[0].toNat s[1].toNat))) ∧ ∃ n, w' = w.drewN n := by
  have d1 : decide ((s.size : Int) < 2) = false := by simp; omega
  have d2 : decide (s.size < 2) = false := by simp; omega
  have hx := s[0].toNat_lt
  have hy := s[1].toNat_lt
  have ha := and15 s[0].toNat (by omega)
  have hb := and32 s[1].toNat (by omega)
  have h0i : (0 : Int) < (s.size : Int) := by omega
  have h1i : (1 : Int) < (s.size : Int) := by omega
  obtain ⟨x, hxe⟩ : ∃ x, x = s[0].toNat := ⟨_, rfl⟩
  obtain ⟨y, hye⟩ : ∃ y, y = s[1].toNat := ⟨_, rfl⟩
  have hx' : s[0].toNat = x := hxe.symm
  have hy' : s[1].toNat = y := hye.symm
  rw [hx', hy']
  rw [hx'] at hx ha
  rw [hy'] at hy hb
  clear hxe hye
  obtain ⟨u, hu⟩ : ∃ u, u = x % 16 := ⟨_, rfl⟩
  obtain ⟨v, hv⟩ : ∃ v, v = x / 16 := ⟨_, rfl⟩
  obtain ⟨z, hz⟩ : ∃ z, z = (x * 256 + y) % 31 := ⟨_, rfl⟩
  obtain ⟨t, ht⟩ : ∃ t, t = y / 32 % 2 * 32 := ⟨_, rfl⟩
  have hvi : (x : Int) / 16 = (v : Int) := by omega
  have hzi : ((x : Int) * 256 + (y : Int)) % 31 = (z : Int) := by omega
  have hul : u < 16 := by omega
  have hvl : v < 16 := by omega
  have hzl : z < 31 := by omega
  have htl : t < 64 := by omega
  rw [← hu] at ha
  rw [← ht] at hb
  have HU := hide hu
  have HV := hide hv
  have HZ := hide hz
  have HT := hide ht
  clear hu hv hz ht
  by_cases c1 : u = 8
  · have e1 : ((u : Int) == 8) = true := by simp; omega
    by_cases c2 : v ≤ 7
    · have e2 : decide ((v : Int) ≤ 7) = true := by simp; omega
      by_cases c3 : z = 0
      · have e3 : ((z : Int) == 0) = true := by simp; omega
        by_cases c4 : t = 0
        · have e4 : ((t : Int) == 0) = true := by simp; omega
          have HX : Hid (decide (Hd2 x y) = true) := decide_eq_true ⟨by rw [← unhide HU]; exact c1, by rw [← unhide HV]; exact c2, by rw [← unhide HZ]; exact c3, by have := unhide HT; omega⟩
          clear c1 c2 c3 c4
          go_enter Tryz.func28, Tryz.ntmps28
          go_wp2
          go_quiet (fail)
          go_wp2
          go_ret
          exact ⟨ret_b (unhide HX).symm, _, rfl⟩
        · have e4 : ((t : Int) == 0) = false := by simp; omega
          have HX : Hid (decide (Hd2 x y) = false) := decide_eq_false (fun h => c4 (by have := unhide HT; have := h.2.2.2; omega))
          clear c1 c2 c3 c4
          go_enter Tryz.func28, Tryz.ntmps28
          go_wp2
          go_quiet (fail)
          go_wp2
          go_ret
          exact ⟨ret_b (unhide HX).symm, _, rfl⟩
      · have e3 : ((z : Int) == 0) = false := by simp; omega
        have HX : Hid (decide (Hd2 x y) = false) := decide_eq_false (fun h => c3 (by rw [unhide HZ]; exact h.2.2.1))
        clear c1 c2 c3
        go_enter Tryz.func28, Tryz.ntmps28
        go_wp2
        go_quiet (fail)
        go_wp2
        go_ret
        exact ⟨ret_b (unhide HX).symm, _, rfl⟩
    · have e2 : decide ((v : Int) ≤ 7) = false := by simp; omega
      have HX : Hid (decide (Hd2 x y) = false) := decide_eq_false (fun h => c2 (by rw [unhide HV]; exact h.2.1))
      clear c1 c2
      go_enter Tryz.func28, Tryz.ntmps28
      go_wp2
      go_quiet (fail)
      go_wp2
      go_ret
      exact ⟨ret_b (unhide HX).symm, _, rfl⟩
  · have e1 : ((u : Int) == 8) = false := by simp; omega
    have HX : Hid (decide (Hd2 x y) = false) := decide_eq_false (fun h => c1 (by rw [unhide HU]; exact h.1))
    clear c1
    go_enter Tryz.func28, Tryz.ntmps28
    go_wp2
    go_quiet (fail)
    go_wp2
    go_ret
    exact ⟨ret_b (unhide HX).symm, _, rfl⟩
/-- A number out of bytes, the highest first. -/
def big (l : List UInt8) : Nat := l.foldl (fun n b => n * 256 + b.toNat) 0
theorem big_snoc (l : List UInt8) (b : UInt8) : big (l ++ [b]) = big l * 256 + b.toNat := by simp [big]
theorem big_lt (s : ByteArray) (hs : s.size = 4) (k : Nat) (hk : k ≤ 4) : big (s.data.toList.take k) < 256 ^ k := by
  induction k with
  | zero => simp [big]
  | succ k ih =>
    rw [take_snoc s k (by omega), big_snoc]
    have := ih (by omega)
    have hb := (s[k]'(by omega)).toNat_lt
    rw [Nat.pow_succ]
    omega
theorem or_byte (r : Nat) (b : UInt8) (h : r < 16777216) : bits .or .u32 ((r : Int) * 256) (b.toNat : Int) = ((r * 256 + b.toNat : Nat) : Int) := by
  have hb := b.toNat_lt
  have := u32_or_nat (r * 256) b.toNat (by omega) (by omega)
  rw [nat_join 8 (r * 256) b.toNat (by omega) (by omega)] at this
  rw [show ((r : Int) * 256) = ((r * 256 : Nat) : Int) from by omega, this]
set_option maxHeartbeats 400000 in
theorem highestFirst_any (s : ByteArray) (w : World) (hs : s.size = 4) :
    Calls Tryz.prog 29 #[.string s] w fun e w' => e = .returned (.int .u32 (big s.data.toList : Nat)) ∧ w' = w := by
  have HB := hide (big_lt s hs)
  go_enter Tryz.func29, Tryz.ntmps29
  go_wp2
  go_loop [3, 7] (fun n i => ∃ k : Nat, k ≤ s.size ∧ i = .int .i64 (k : Int) ∧ n = .int .u32 (big (s.data.toList.take k) : Nat)) (fun _ i => s.size - (intOf i).toNat)
  case atStart => exact ⟨0, by omega, rfl, rfl⟩
  case round =>
    obtain ⟨k, hk, rfl, rfl⟩ := hrel
    by_cases hlt : k < s.size
    · have hd : decide ((k : Int) < (s.size : Int)) = true := by simp; omega
      have hts := hide (show big (s.data.toList.take (k + 1)) = big (s.data.toList.take k) * 256 + s[k].toNat by rw [take_snoc s k hlt, big_snoc])
      have hbb := s[k].toNat_lt
      have hlk : big (s.data.toList.take k) < 16777216 := Nat.lt_of_lt_of_le (unhide HB k (by omega)) (by
        rcases (show k = 0 ∨ k = 1 ∨ k = 2 ∨ k = 3 by omega) with rfl | rfl | rfl | rfl <;> decide)
      generalize big (s.data.toList.take k) = r at *
      have ho := or_byte r s[k] hlk
      go_wp2
      go_round
      case rel => exact ⟨k + 1, by omega, by go_num, by rw [unhide hts]; go_num⟩
      case measure => simp [intOf]; omega
    · have : k = s.size := by omega
      subst this
      have hd : decide ((s.size : Int) < (s.size : Int)) = false := by simp
      go_wp2
      go_ret
      exact ⟨ret_int (by rw [show s.data.toList.take 4 = s.data.toList from List.take_of_length_le (by simp; omega)]), rfl⟩
end Go.Proofs.YtfeljhikeddodaeGreatDoor
namespace Go.Proofs.YtfeljhikeddodaeGreatDoor
open Go.RowKit

/-- What is told: a text, or an error's number. -/
inductive Zr where
  | ok (t : ByteArray)
  | err (i : Nat)
/-- What a reader tells of the bytes behind the head: a text and the bytes used, or an error (0: text, 1: bound). -/
inductive Fr where
  | ok (t : ByteArray) (used : Nat)
  | err (i : Nat)
/-- Behind the head. -/
def tailZ (s : ByteArray) : Fr → Zr
  | .err i => .err i
  | .ok t used => if s.size ≠ 2 + used + 4 then .err 0 else if big (s.extract (2 + used) s.size).data.toList ≠ Ad.more 1 t.data.toList then .err 3 else .ok t
def zV (tE : TypeId) (xs : Nat → Value) : Zr → Value
  | .ok t => .tuple #[.string t, .nilIface]
  | .err i => .tuple #[.string ⟨#[]⟩, .iface tE (xs i)]
section
variable {tE : TypeId} {xs : Nat → Value}

set_option maxHeartbeats 2000000 in
set_option maxRecDepth 100000 in
theorem unzip_head (s : ByteArray) (most : Int) (w : World) (hs : s.size ≤ 20000) (h2 : 2 ≤ s.size) (hd : Hd2 s[0].toNat s[1].toNat)
    (hB : ∀ w', Calls Tryz.prog 23 #[.string s, .int .i64 most] w' fun e w'' => e = .returned (.bool true) ∧ w'' = w')
    (hT : w.cell? ⟨1, 0, none⟩ = some (.iface tE (xs 0))) (hS : w.cell? ⟨2, 0, none⟩ = some (.iface tE (xs 3))) (F : Fr)
    (hI : ∀ n, Calls Tryz.prog 9 #[.string (s.extract 2 s.size), .int .i64 most] (w.drewN n) fun e w' => Below w.heap.size w w' ∧ ((∃ t us, F = .ok t us ∧ 2 + us ≤ s.size ∧ t.size ≤ 300000 ∧ e = .returned (.tuple #[.string t, .int .i64 (us : Nat), .nilIface])) ∨ (∃ i, F = .err i ∧ e = .returned (.tuple #[.string ⟨#[]⟩, .int .i64 0, .iface tE (xs i)])))) :
    Calls Tryz.prog 10 #[.string s, .int .i64 most] w fun e w' => Below w.heap.size w w' ∧ e = .returned (zV tE xs (tailZ s F)) := by
  obtain ⟨Z, hZ⟩ : ∃ Z, Z = tailZ s F := ⟨_, rfl⟩
  rw [← hZ]
  have HZ := hide hZ
  clear hZ
  have HB := hide hB
  have HI := hide hI
  have HH := hide (headed_any s w h2 (by omega))
  rw [decide_eq_true hd] at HH
  clear hB hI
  go_enter Tryz.func10, Tryz.ntmps10
  go_wp2_with fail
  refine (unhide HB _).mono ?_; rintro e w1 ⟨rfl, hw1⟩
  replace hw1 := hw1.symm
  subst hw1
  go_wp2_with fail
  refine (unhide HH).mono ?_; rintro e w2 ⟨rfl, nn, rfl⟩
  clear HH HB
  go_wp2_with fail
  refine (unhide HI nn).mono ?_
  rintro e w3 ⟨hb3, ⟨t, us, rfl, hus, htl, rfl⟩ | ⟨i, rfl, rfl⟩⟩
  rotate_left
  · have HX : Hid (Z = .err i) := unhide HZ
    clear HI
    go_wp2
    go_ret2
    exact ⟨hb3, by rw [unhide HX]; rfl⟩
  have cT := (hb3.cell (p := ⟨1, 0, none⟩) (World.block_lt_of_cell? _ _ hT)).trans hT
  have cS := (hb3.cell (p := ⟨2, 0, none⟩) (World.block_lt_of_cell? _ _ hS)).trans hS
  clear HI hT hS
  obtain ⟨tl, htle⟩ : ∃ q, q = s.extract (2 + us) s.size := ⟨_, rfl⟩
  have hts : tl.size = s.size - (2 + us) := by rw [htle]; simp
  have htl' : s.extract (2 + us) s.size = tl := htle.symm
  obtain ⟨k2, hk2⟩ : ∃ q, q = 2 + us := ⟨_, rfl⟩
  have zk : (2 : Int) + (us : Int) = (k2 : Int) := by omega
  have hkl : k2 ≤ s.size := by omega
  have hki : (k2 : Int) ≤ (s.size : Int) := by omega
  rw [← hk2] at htl'
  have HK2 := hide hk2
  have HTE := hide htle
  clear hk2 htle
  by_cases h4 : tl.size = 4
  · have g4 : ((tl.size : Int) == 4) = true := beq_iff_eq.2 (by omega)
    have g4' : ((tl.size : Int) != 4) = false := by simp; omega
    have HHF := hide (highestFirst_any tl w3 h4)
    have HAD := hide (adler_any t w3 (by unfold maxLen; omega))
    by_cases hq : big tl.data.toList = Ad.more 1 t.data.toList
    · have HX : Hid (Z = .ok t) := by
        show _ = _
        rw [unhide HZ]
        dsimp only [tailZ]
        have := unhide HK2
        rw [if_neg (by omega), if_neg (by rw [← unhide HTE]; simpa using hq)]
      have gq : ((big tl.data.toList : Int) == (Ad.more 1 t.data.toList : Int)) = true := beq_iff_eq.2 (by omega)
      go_wp2_with fail
      refine (unhide HHF).mono ?_; rintro e w4 ⟨rfl, hw4⟩
      replace hw4 := hw4.symm
      subst hw4
      go_wp2_with fail
      refine (unhide HAD).mono ?_; rintro e w5 ⟨rfl, hw5⟩
      replace hw5 := hw5.symm
      subst hw5
      clear HHF HAD hq
      generalize big tl.data.toList = b1 at *
      generalize Ad.more 1 t.data.toList = b2 at *
      go_wp2
      go_ret2
      exact ⟨hb3, by rw [unhide HX]; rfl⟩
    · have HX : Hid (Z = .err 3) := by
        show _ = _
        rw [unhide HZ]
        dsimp only [tailZ]
        have := unhide HK2
        rw [if_neg (by omega), if_pos (by rw [← unhide HTE]; exact hq)]
      have gq : ((big tl.data.toList : Int) == (Ad.more 1 t.data.toList : Int)) = false := beq_eq_false_iff_ne.2 (by omega)
      go_wp2_with fail
      refine (unhide HHF).mono ?_; rintro e w4 ⟨rfl, hw4⟩
      replace hw4 := hw4.symm
      subst hw4
      go_wp2_with fail
      refine (unhide HAD).mono ?_; rintro e w5 ⟨rfl, hw5⟩
      replace hw5 := hw5.symm
      subst hw5
      clear HHF HAD hq
      generalize big tl.data.toList = b1 at *
      generalize Ad.more 1 t.data.toList = b2 at *
      go_wp2
      go_quiet (fail)
      go_wp2
      go_ret2
      exact ⟨below_drewN hb3 _, by rw [unhide HX]; rfl⟩
  · have g4 : ((tl.size : Int) == 4) = false := beq_eq_false_iff_ne.2 (by omega)
    have g4' : ((tl.size : Int) != 4) = true := by simp; omega
    have HX : Hid (Z = .err 0) := by
      show _ = _
      rw [unhide HZ]
      dsimp only [tailZ]
      have := unhide HK2
      rw [if_pos (by omega)]
    go_wp2
    go_quiet (fail)
    go_wp2
    go_ret2
    exact ⟨below_drewN hb3 _, by rw [unhide HX]; rfl⟩
end

end Go.Proofs.YtfeljhikeddodaeGreatDoor
namespace Go.Proofs.YtfeljhikeddodaeGreatDoor
open Go.RowKit

section
variable {tE : TypeId} {xs : Nat → Value}

theorem unzip_out (s : ByteArray) (most : Int) (w : World) (hB : ∀ w', Calls Tryz.prog 23 #[.string s, .int .i64 most] w' fun e w'' => e = .returned (.bool false) ∧ w'' = w') (hT : w.cell? ⟨0, 0, none⟩ = some (.iface tE (xs 1))) :
    Calls Tryz.prog 10 #[.string s, .int .i64 most] w fun e w' => Below w.heap.size w w' ∧ e = .returned (zV tE xs (.err 1)) := by
  have HB := hide hB
  clear hB
  go_enter Tryz.func10, Tryz.ntmps10
  go_wp2_with fail
  refine (unhide HB _).mono ?_; rintro e w1 ⟨rfl, hw1⟩
  replace hw1 := hw1.symm
  subst hw1
  go_wp2
  go_quiet (fail)
  go_wp2
  go_ret2
  exact ⟨below_drewN (Below.refl _ _) _, rfl⟩
theorem unzip_no (s : ByteArray) (most : Int) (w : World) (hB : ∀ w', Calls Tryz.prog 23 #[.string s, .int .i64 most] w' fun e w'' => e = .returned (.bool true) ∧ w'' = w')
    (hH : Calls Tryz.prog 28 #[.string s] w fun e w' => e = .returned (.bool false) ∧ ∃ n, w' = w.drewN n) (hT : w.cell? ⟨1, 0, none⟩ = some (.iface tE (xs 0))) :
    Calls Tryz.prog 10 #[.string s, .int .i64 most] w fun e w' => Below w.heap.size w w' ∧ e = .returned (zV tE xs (.err 0)) := by
  have HB := hide hB
  have HH := hide hH
  clear hB hH
  go_enter Tryz.func10, Tryz.ntmps10
  go_wp2_with fail
  refine (unhide HB _).mono ?_; rintro e w1 ⟨rfl, hw1⟩
  replace hw1 := hw1.symm
  subst hw1
  go_wp2_with fail
  refine (unhide HH).mono ?_; rintro e w2 ⟨rfl, nn, rfl⟩
  clear HH HB
  go_wp2
  go_quiet (fail)
  go_wp2
  go_ret2
  exact ⟨below_drewN (below_drewN (Below.refl _ _) _) _, rfl⟩
end

end Go.Proofs.YtfeljhikeddodaeGreatDoor
namespace Go.Proofs.YtfeljhikeddodaeGreatDoor
open Go.RowKit Pm Cn Cd Nf

/-- What a reader tells, by what the bits mean. -/
def frOf : Res → Fr
  | .ok k out => .ok ⟨out.toArray⟩ ((k + 7) / 8)
  | .err .text => .err 0
  | .err .bound => .err 1
/-- What bytes with a head and a sum mean. -/
noncomputable def zr (s : ByteArray) (most : Int) : Zr :=
  if 0 ≤ most ∧ most ≤ 300000 then
    if h : 2 ≤ s.size then
      if Hd2 s[0].toNat s[1].toNat then tailZ s (frOf ((inflS (s.extract 2 s.size) most).getD (.err .text))) else .err 0
    else .err 0
  else .err 1
theorem cut_size (s : ByteArray) : (s.extract 2 s.size).size = s.size - 2 := by simp
theorem unzip_gl {t : TypeId} (xs : Nat → Value) (s : ByteArray) (most : Int) (w : World) (hG : Gl w t (xs 0) (xs 1) (xs 2)) (hZ : w.cell? ⟨2, 0, none⟩ = some (.iface t (xs 3))) (hn : 6 ≤ w.heap.size) (h0 : s.size ≤ 20000) :
    Calls Tryz.prog 10 #[.string s, .int .i64 most] w fun e w' => Below w.heap.size w w' ∧ e = .returned (zV t xs (zr s most)) := by
  have hb := fun w' => bounded_any s most w'
  by_cases hm : 0 ≤ most ∧ most ≤ 300000
  · have hb1 : ∀ w', Calls Tryz.prog 23 #[.string s, .int .i64 most] w' fun e w'' => e = .returned (.bool true) ∧ w'' = w' := fun w' => by
      have := hb w'
      rwa [decide_eq_true (show 0 ≤ most ∧ most ≤ 300000 ∧ (s.size : Int) ≤ 300000 by omega)] at this
    by_cases h2 : 2 ≤ s.size
    · by_cases hd : Hd2 s[0].toNat s[1].toNat
      · have ez : zr s most = tailZ s (frOf ((inflS (s.extract 2 s.size) most).getD (.err .text))) := by unfold zr; rw [if_pos hm, dif_pos h2, if_pos hd]
        rw [ez]
        refine unzip_head (tE := t) (xs := xs) s most w h0 h2 hd hb1 hG.text hZ _ (fun n => ?_)
        have hbd : Below w.heap.size w (w.drewN n) := below_drewN (Below.refl _ _) n
        refine (inflate_any (s.extract 2 s.size) most (w.drewN n) (hG.below hbd hn) hn).mono ?_
        rintro e w' ⟨r, hr, rfl, hbw⟩
        refine ⟨hbd.trans hbw, ?_⟩
        rw [hr, Option.getD_some]
        rcases r with ⟨k, out⟩ | er
        · obtain ⟨i1, i2, _⟩ := inflS_most hr
          rw [cut_size] at i2
          exact .inl ⟨⟨out.toArray⟩, (k + 7) / 8, rfl, by omega, by show out.toArray.size ≤ _; simp; omega, rfl⟩
        · cases er
          · exact .inr ⟨0, rfl, rfl⟩
          · exact .inr ⟨1, rfl, rfl⟩
      · have ez : zr s most = .err 0 := by unfold zr; rw [if_pos hm, dif_pos h2, if_neg hd]
        rw [ez]
        have hh := headed_any s w h2 (by omega)
        rw [decide_eq_false hd] at hh
        exact unzip_no (tE := t) (xs := xs) s most w hb1 hh hG.text
    · have ez : zr s most = .err 0 := by unfold zr; rw [if_pos hm, dif_neg h2]
      rw [ez]
      exact unzip_no (tE := t) (xs := xs) s most w hb1 ((headed_short s w (by omega)).mono (fun _ _ h => ⟨h.1, 0, by rw [h.2]; rfl⟩)) hG.text
  · have ez : zr s most = .err 1 := by unfold zr; rw [if_neg hm]
    rw [ez]
    refine unzip_out (tE := t) (xs := xs) s most w (fun w' => ?_) hG.bound
    have := hb w'
    rwa [decide_eq_false (show ¬ (0 ≤ most ∧ most ≤ 300000 ∧ (s.size : Int) ≤ 300000) by omega)] at this
end Go.Proofs.YtfeljhikeddodaeGreatDoor
namespace Go.Proofs.YtfeljhikeddodaeGreatDoor
open Go.RowKit Ps Nf Pm Cn

theorem big_dh4 (n : Nat) (h : n < 4294967296) : big (dh4 n) = n := by
  unfold dh4 big
  simp only [List.foldl, UInt8.toNat_ofNat']
  omega
theorem zipT_size (s x : ByteArray) : (zipT s x).size = 2 + x.size + 4 := by
  unfold zipT
  rw [ByteArray.size_append, ByteArray.size_append]
  rfl
theorem zipT_data (s x : ByteArray) : (zipT s x).data.toList = 120 :: 156 :: (x.data.toList ++ dh4 (Ad.more 1 s.data.toList)) := by
  unfold zipT
  rw [ByteArray.data_append, ByteArray.data_append]
  simp
theorem ext_list {a b : ByteArray} (h : a.data.toList = b.data.toList) : a = b := by
  cases a; cases b
  simp only at h
  congr 1
  exact Array.ext' h
theorem zipT_tail (s x : ByteArray) : (zipT s x).extract 2 (zipT s x).size = x ++ ⟨(dh4 (Ad.more 1 s.data.toList)).toArray⟩ := by
  apply ext_list
  rw [ByteArray.data_extract, ByteArray.data_append, Array.toList_extract, zipT_data]
  have := zipT_size s x
  rw [this]
  simp only [List.extract_eq_take_drop, List.drop_succ_cons, List.drop_zero, Array.toList_append]
  rw [List.take_of_length_le]
  simp [dh4]
  try omega
theorem zipT_end (s x : ByteArray) : ((zipT s x).extract (2 + x.size) (zipT s x).size).data.toList = dh4 (Ad.more 1 s.data.toList) := by
  rw [ByteArray.data_extract, Array.toList_extract, zipT_data, zipT_size]
  simp only [List.extract_eq_take_drop]
  have hx : x.data.toList.length = x.size := by simp
  rw [show 2 + x.size = x.size + 1 + 1 by omega, List.drop_succ_cons, List.drop_succ_cons, ← hx, List.drop_left, List.take_of_length_le]
  simp [dh4]
theorem zr_zip (s x : ByteArray) (m : Nat) (hp : Pk s.data.toList x) (hs : s.size ≤ m) (hm : m ≤ 300000) : zr (zipT s x) (m : Int) = .ok s := by
  have hz := zipT_size s x
  have h2 : 2 ≤ (zipT s x).size := by omega
  have hl : s.data.toList.length = s.size := by simp
  obtain ⟨c, hc1, hc2⟩ := pk_read hp ⟨(dh4 (Ad.more 1 s.data.toList)).toArray⟩ m (by omega) hm (by show 4 ≤ 1000; omega)
  have hg : ∀ i (h : i < (zipT s x).size), (zipT s x)[i] = (zipT s x).data.toList[i]'(by simpa using h) := fun i h => by
    simp [ByteArray.getElem_eq_getElem_data]
  have e0 : (zipT s x)[0] = 120 := by rw [hg 0 (by omega)]; simp only [zipT_data, List.getElem_cons_zero]
  have e1 : (zipT s x)[1] = 156 := by rw [hg 1 (by omega)]; simp only [zipT_data, List.getElem_cons_succ, List.getElem_cons_zero]
  unfold zr
  rw [if_pos ⟨by omega, by omega⟩, dif_pos h2, e0, e1, if_pos (by decide), zipT_tail, hc1, Option.getD_some]
  show tailZ _ (.ok ⟨s.data.toList.toArray⟩ ((c + 7) / 8)) = _
  rw [hc2]
  have es : (⟨s.data.toList.toArray⟩ : ByteArray) = s := by cases s; simp
  rw [es]
  dsimp only [tailZ]
  rw [if_neg (by omega), zipT_end, if_neg]
  intro h
  exact h (big_dh4 _ (Ad.more_lt _ _))
end Go.Proofs.YtfeljhikeddodaeGreatDoor
namespace Go.Proofs.YtfeljhikeddodaeGreatDoor
open Go.RowKit Pm Cn Nf Ps

set_option maxHeartbeats 1000000 in
theorem ofFixed_any (ao : Option Addr) (n cap : Nat) (t : Tks) (w : World) (uT : TypeId) (uV v1 : Value) (hS : w.cell? ⟨3, 0, none⟩ = some (.iface uT uV)) (h1 : w.cell? ⟨0, 0, none⟩ = some v1) (hP : IsTokens w ao n t) (hB : Bl w) (hn : 6 ≤ w.heap.size) (hlen : n ≤ 80000)
    (hsm : ∀ i, i ≤ n → (∀ j, j < i → t.good j) → (t.out i).length ≤ 300000) :
    Calls Tryz.prog 17 #[.slice ao n cap, .func (.func 18) #[] #[]] w fun e w' =>
      ((∀ j, j < n → t.good j) ∧ e = .returned (.tuple #[.string (textP (fixP t n)), .nilIface]) ∧ Below w.heap.size w w') ∨
      (∃ i q, Wrong w' w.heap.size t (.iface uT uV) i q n ∧ e = .returned (.tuple #[.string ⟨#[]⟩, .iface 133 (.pointer (some ⟨q, 0, none⟩))]) ∧ Below w.heap.size w w') := by
  have HE := hide (expand_any ao n cap t w uT uV hS hP (by omega) hsm)
  have HX : Hid (∀ w1, Below w.heap.size w w1 → (∀ j, j < n → t.good j) → Calls Tryz.prog 18 #[.string ⟨(t.out n).toArray⟩, .slice ao n cap] w1 fun e w' => e = .returned (.string (textP (fixP t n))) ∧ Below w1.heap.size w1 w') := fun w1 hb hg =>
    fixed_any _ ao n cap t v1 (.iface uT uV) w1 (hP.below hb) (hB.below hb hn) (Nat.le_trans hn hb.size) ((hb.cell (World.block_lt_of_cell? _ _ h1)).trans h1) ((hb.cell (World.block_lt_of_cell? _ _ hS)).trans hS) (fun i hi => (hg i hi).1) (by omega)
  obtain ⟨tx, htx⟩ : ∃ tx, tx = textP (fixP t n) := ⟨_, rfl⟩
  rw [← htx] at HX ⊢
  clear hS h1 hP hB hsm htx
  go_enter Tryz.func17, Tryz.ntmps17
  go_wp2_with fail
  refine (unhide HE).mono ?_
  rintro e w1 (⟨hg, rfl, hb1⟩ | ⟨i, q, hw, rfl, hb1⟩)
  · have HC := hide (unhide HX w1 hb1 hg)
    have HG := hide hg
    clear HE HX hg
    go_wp2_with fail
    refine (unhide HC).mono ?_
    rintro e w2 ⟨rfl, hb2⟩
    have HB2 := hide (hb1.trans (hb2.mono hb1.size))
    clear HC hb1 hb2
    go_wp2
    go_ret2
    exact .inl ⟨unhide HG, rfl, unhide HB2⟩
  · have HW := hide hw
    clear HE HX hw
    go_wp2
    go_ret2
    exact .inr ⟨i, q, unhide HW, rfl, hb1⟩
theorem fixedF_any (ao : Option Addr) (n cap : Nat) (t : Tks) (w : World) (uT : TypeId) (uV v1 : Value) (hS : w.cell? ⟨3, 0, none⟩ = some (.iface uT uV)) (h1 : w.cell? ⟨0, 0, none⟩ = some v1) (hP : IsTokens w ao n t) (hB : Bl w) (hn : 6 ≤ w.heap.size) (hlen : n ≤ 80000)
    (hsm : ∀ i, i ≤ n → (∀ j, j < i → t.good j) → (t.out i).length ≤ 300000) :
    Calls Tryz.prog 6 #[.slice ao n cap] w fun e w' =>
      ((∀ j, j < n → t.good j) ∧ e = .returned (.tuple #[.string (textP (fixP t n)), .nilIface]) ∧ Below w.heap.size w w') ∨
      (∃ i q, Wrong w' w.heap.size t (.iface uT uV) i q n ∧ e = .returned (.tuple #[.string ⟨#[]⟩, .iface 133 (.pointer (some ⟨q, 0, none⟩))]) ∧ Below w.heap.size w w') := by
  have HO := hide (ofFixed_any ao n cap t w uT uV v1 hS h1 hP hB hn hlen hsm)
  obtain ⟨tx, htx⟩ : ∃ tx, tx = textP (fixP t n) := ⟨_, rfl⟩
  rw [← htx] at HO ⊢
  clear hS h1 hP hB hsm htx
  go_enter Tryz.func6, Tryz.ntmps6
  go_wp2_with fail
  refine (unhide HO).mono ?_
  rintro e w1 (⟨hg, rfl, hb1⟩ | ⟨i, q, hw, rfl, hb1⟩)
  · have HG := hide hg
    clear HO hg
    go_wp2
    go_ret2
    exact .inl ⟨unhide HG, rfl, hb1⟩
  · have HW := hide hw
    clear HO hw
    go_wp2
    go_ret2
    exact .inr ⟨i, q, unhide HW, rfl, hb1⟩
end Go.Proofs.YtfeljhikeddodaeGreatDoor
namespace Go.Proofs.YtfeljhikeddodaeGreatDoor
open Go.RowKit Pm Cn Nf Ps

theorem blank_text : textP (storP (⟨#[]⟩ : ByteArray).data.toList (fu (⟨#[]⟩ : ByteArray).size)) = ⟨#[1, 0, 0, 255, 255]⟩ := by
  rw [textP_sto]
  rfl
theorem blank_any (w : World) :
    Calls Tryz.prog 4 #[] w fun e w' => e = .returned (.bool true) ∧ Below w.heap.size w w' := by
  have HX := hide (storedS_any ⟨#[]⟩ w (by decide))
  rw [blank_text] at HX
  go_enter Tryz.func4, Tryz.ntmps4
  go_wp2_with fail
  refine (unhide HX).mono ?_; rintro e w1 ⟨rfl, hb1⟩
  clear HX
  go_wp2
  go_ret
  exact ⟨rfl, hb1⟩
end Go.Proofs.YtfeljhikeddodaeGreatDoor
