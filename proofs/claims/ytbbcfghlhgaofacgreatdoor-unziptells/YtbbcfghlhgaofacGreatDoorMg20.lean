/- Plain facts on ADLER's two sums over natural numbers. Walks of ADLER's functions, the program's and the document's. Walks of the head and the sum of a packed text. -/
import Derived.Test.YtbbcfghlhgaofacGreatDoorChecked
import Derived.Test.YtbbcfghlhgaofacGreatDoorMg2
import Derived.WalkKit
import Derived.WalkLawsBesides
import Derived.WalkSpells
import Derived.Handy
import Derived.Laws.BitsAllLaws
import Derived.Laws.Shifts
import Derived.Deep.LoopGhost
import Derived.Below
import Derived.BigQuiet
namespace Go.Proofs.YtbbcfghlhgaofacGreatDoor.Ad

def one (p : Nat × Nat) (x : UInt8) : Nat × Nat := ((p.1 + x.toNat) % 65521, (p.2 + (p.1 + x.toNat) % 65521) % 65521)
def run (p : Nat × Nat) (l : List UInt8) : Nat × Nat := l.foldl one p
def join (p : Nat × Nat) : Nat := p.2 * 65536 + p.1
def part (n : Nat) : Nat × Nat := (n % 65536 % 65521, n / 65536 % 65521)
/-- ADLER of a text behind a number. -/
def more (n : Nat) (l : List UInt8) : Nat := join (run (part n) l)

theorem run_snoc (p : Nat × Nat) (l : List UInt8) (x : UInt8) : run p (l ++ [x]) = one (run p l) x := by simp [run]
theorem run_append (p : Nat × Nat) (a b : List UInt8) : run p (a ++ b) = run (run p a) b := by simp [run]

theorem run_lt (p : Nat × Nat) (l : List UInt8) (h1 : p.1 < 65521) (h2 : p.2 < 65521) : (run p l).1 < 65521 ∧ (run p l).2 < 65521 := by
  induction l generalizing p with
  | nil => exact ⟨h1, h2⟩
  | cons x l ih => exact ih (one p x) (Nat.mod_lt _ (by omega)) (Nat.mod_lt _ (by omega))

theorem part_lt (n : Nat) : (part n).1 < 65521 ∧ (part n).2 < 65521 := ⟨Nat.mod_lt _ (by omega), Nat.mod_lt _ (by omega)⟩

theorem part_join (p : Nat × Nat) (h1 : p.1 < 65521) (h2 : p.2 < 65521) : part (join p) = p := by
  obtain ⟨a, b⟩ := p
  simp only [part, join] at *
  rw [Prod.mk.injEq]
  omega

theorem join_lt (p : Nat × Nat) (h1 : p.1 < 65521) (h2 : p.2 < 65521) : join p < 4294967296 := by
  unfold join; omega

theorem more_lt (n : Nat) (l : List UInt8) : more n l < 4294967296 := by
  have h := run_lt (part n) l (part_lt n).1 (part_lt n).2
  exact join_lt _ h.1 h.2

theorem more_append (n : Nat) (a b : List UInt8) : more n (a ++ b) = more (more n a) b := by
  have h := run_lt (part n) a (part_lt n).1 (part_lt n).2
  unfold more
  rw [run_append, part_join _ h.1 h.2]

theorem part_one : part 1 = (1, 0) := by decide
end Go.Proofs.YtbbcfghlhgaofacGreatDoor.Ad
namespace Go.Proofs.YtbbcfghlhgaofacGreatDoor
open Go.RowKit

theorem take_snoc (s : ByteArray) (k : Nat) (h : k < s.size) : s.data.toList.take (k + 1) = s.data.toList.take k ++ [s[k]] := by
  rw [List.take_succ_eq_append_getElem (by simpa using h)]; rfl

theorem and_low (n : Nat) (h : n < 4294967296) : bits .and .u32 (n : Int) 65535 = ((n % 65536 : Nat) : Int) := by
  have := u32_and_nat n 65535 h (by omega)
  rw [show n &&& 65535 = n % 65536 from Nat.and_two_pow_sub_one_eq_mod n 16] at this
  exact this

theorem halves_any (n : Nat) (w : World) (h : n < 4294967296) :
    Calls Tryz.prog 72 #[.int .u32 (n : Int)] w fun e w' => e = .returned (.tuple #[.int .u64 ((Ad.part n).1 : Nat), .int .u64 ((Ad.part n).2 : Nat)]) ∧ w' = w := by
  have ha := and_low n h
  go_enter Tryz.func72, Tryz.ntmps72
  go_wp2
  go_ret2
  exact ⟨rfl, rfl⟩

theorem or_join (r : Nat × Nat) (h1 : r.1 < 65521) (h2 : r.2 < 65521) : bits .or .u64 ((r.2 : Int) * 65536) (r.1 : Int) % 4294967296 = (Ad.join r : Nat) := by
  have := u64_or_nat (r.2 * 65536) r.1 (by omega) (by omega)
  rw [nat_join 16 (r.2 * 65536) r.1 (by omega) (by omega)] at this
  rw [show ((r.2 : Int) * 65536) = ((r.2 * 65536 : Nat) : Int) from by omega, this]
  unfold Ad.join
  omega

set_option maxHeartbeats 400000 in
set_option maxRecDepth 100000 in
theorem moreAdler_any (n : Nat) (s : ByteArray) (w : World) (h : n < 4294967296) (hs : s.size ≤ maxLen) :
    Calls Tryz.prog 51 #[.int .u32 (n : Int), .string s] w fun e w' => e = .returned (.int .u32 (Ad.more n s.data.toList : Nat)) ∧ w' = w := by
  unfold maxLen at hs
  unfold Ad.more
  obtain ⟨hp1, hp2⟩ := Ad.part_lt n
  go_enter Tryz.func51, Tryz.ntmps51
  go_wp2_with (go_at_call 72; refine (halves_any n _ h).mono ?_; rintro e w' ⟨rfl, rfl⟩)
  go_loop [5, 6, 15] (fun a b i => ∃ k : Nat, k ≤ s.size ∧ i = .int .i64 k ∧ a = .int .u64 ((Ad.run (Ad.part n) (s.data.toList.take k)).1 : Nat) ∧ b = .int .u64 ((Ad.run (Ad.part n) (s.data.toList.take k)).2 : Nat)) (fun _ _ i => s.size - (intOf i).toNat)
  case atStart => exact ⟨0, by omega, rfl, rfl, rfl⟩
  case round =>
    obtain ⟨k, hk, rfl, rfl, rfl⟩ := hrel
    obtain ⟨hr1, hr2⟩ := Ad.run_lt (Ad.part n) (s.data.toList.take k) hp1 hp2
    by_cases hlt : k < s.size
    · have hsn := hide (Ad.run_snoc (Ad.part n) (s.data.toList.take k) s[k])
      have hts := hide (take_snoc s k hlt)
      have hb := s[k].toNat_lt
      have hd : decide ((k : Int) < (s.size : Int)) = true := by simp; omega
      generalize Ad.run (Ad.part n) (s.data.toList.take k) = r at *
      go_wp2
      go_round
      case rel => exact ⟨k + 1, by omega, by go_num, by rw [unhide hts, unhide hsn]; simp only [Ad.one]; go_num, by rw [unhide hts, unhide hsn]; simp only [Ad.one]; go_num⟩
      case measure => simp [intOf]; omega
    · have : k = s.size := by omega
      subst this
      have hd : decide ((s.size : Int) < (s.size : Int)) = false := by simp
      have he := hide (show s.data.toList.take s.size = s.data.toList from List.take_of_length_le (by simp))
      go_wp2
      go_ret
      exact ⟨ret_int (by rw [or_join _ hr1 hr2, unhide he]), rfl⟩

theorem adler_any (s : ByteArray) (w : World) (hs : s.size ≤ maxLen) :
    Calls Tryz.prog 30 #[.string s] w fun e w' => e = .returned (.int .u32 (Ad.more 1 s.data.toList : Nat)) ∧ w' = w := by
  go_enter Tryz.func30, Tryz.ntmps30
  go_wp2_with (go_at_call 51; refine (moreAdler_any 1 s _ (by omega) hs).mono ?_; rintro e w' ⟨rfl, rfl⟩)
  go_ret
  exact ⟨rfl, rfl⟩

theorem join_u32 (r : Nat × Nat) : (r.2 : Int) * 65536 + (r.1 : Int) = (Ad.join r : Nat) := by
  unfold Ad.join; omega

set_option maxHeartbeats 400000 in
set_option maxRecDepth 100000 in
theorem refAdler_any (s : ByteArray) (w : World) (hs : s.size ≤ maxLen) :
    Calls Tryz.prog 32 #[.string s] w fun e w' => e = .returned (.int .u32 (Ad.more 1 s.data.toList : Nat)) ∧ w' = w := by
  unfold maxLen at hs
  unfold Ad.more
  rw [Ad.part_one]
  go_enter Tryz.func32, Tryz.ntmps32
  go_wp2
  go_loop [3, 4, 5] (fun a b i => ∃ k : Nat, k ≤ s.size ∧ i = .int .i64 k ∧ a = .int .i64 ((Ad.run (1, 0) (s.data.toList.take k)).1 : Nat) ∧ b = .int .i64 ((Ad.run (1, 0) (s.data.toList.take k)).2 : Nat)) (fun _ _ i => s.size - (intOf i).toNat)
  case atStart => exact ⟨0, by omega, rfl, rfl, rfl⟩
  case round =>
    obtain ⟨k, hk, rfl, rfl, rfl⟩ := hrel
    obtain ⟨hr1, hr2⟩ := Ad.run_lt (1, 0) (s.data.toList.take k) (by decide) (by decide)
    by_cases hlt : k < s.size
    · have hsn := hide (Ad.run_snoc (1, 0) (s.data.toList.take k) s[k])
      have hts := hide (take_snoc s k hlt)
      have hb := s[k].toNat_lt
      have hd : decide ((k : Int) < (s.size : Int)) = true := by simp; omega
      generalize Ad.run (1, 0) (s.data.toList.take k) = r at *
      go_wp2
      go_round
      case rel => exact ⟨k + 1, by omega, by go_num, by rw [unhide hts, unhide hsn]; simp only [Ad.one]; go_num, by rw [unhide hts, unhide hsn]; simp only [Ad.one]; go_num⟩
      case measure => simp [intOf]; omega
    · have : k = s.size := by omega
      subst this
      have hd : decide ((s.size : Int) < (s.size : Int)) = false := by simp
      have he := hide (show s.data.toList.take s.size = s.data.toList from List.take_of_length_le (by simp))
      go_wp2
      go_ret
      refine ⟨ret_int ?_, rfl⟩
      rw [unhide he]; exact join_u32 _


end Go.Proofs.YtbbcfghlhgaofacGreatDoor
namespace Go.Proofs.YtbbcfghlhgaofacGreatDoor
open Go.RowKit

/-- The head is one: of its two bytes. -/
def Hd2 (x y : Nat) : Prop := x % 16 = 8 ∧ x / 16 ≤ 7 ∧ (x * 256 + y) % 31 = 0 ∧ y / 32 % 2 = 0
instance (x y : Nat) : Decidable (Hd2 x y) := by unfold Hd2; infer_instance

theorem and15 (x : Nat) (h : x < 256) : bits .and .i64 (x : Int) 15 = ((x % 16 : Nat) : Int) := by
  have key : ∀ x : Fin 256, bits .and .i64 ((x.val : Nat) : Int) 15 = ((x.val % 16 : Nat) : Int) := by decide +kernel
  exact key ⟨x, h⟩
theorem and32 (x : Nat) (h : x < 256) : bits .and .i64 (x : Int) 32 = ((x / 32 % 2 * 32 : Nat) : Int) := by
  have key : ∀ x : Fin 256, bits .and .i64 ((x.val : Nat) : Int) 32 = ((x.val / 32 % 2 * 32 : Nat) : Int) := by decide +kernel
  exact key ⟨x, h⟩
theorem ret_b {a b : Bool} (h : a = b) : Ending.returned (.bool a) = .returned (.bool b) := by rw [h]

theorem headed_short (s : ByteArray) (w : World) (hs : s.size < 2) :
    Calls Tryz.prog 28 #[.string s] w fun e w' => e = .returned (.bool false) ∧ w' = w := by
  have d1 : decide ((s.size : Int) < 2) = true := by simp; omega
  have d2 : decide (s.size < 2) = true := by simpa using hs
  go_enter Tryz.func28, Tryz.ntmps28
  go_wp2
  go_ret
  exact ⟨rfl, rfl⟩

theorem headed_any (s : ByteArray) (w : World) (hs : 2 ≤ s.size) (hl : s.size ≤ 300000) :
    Calls Tryz.prog 28 #[.string s] w fun e w' => e = .returned (.bool (decide (Hd2 s[0].toNat s[1].toNat))) ∧ ∃ n, w' = w.drewN n := by
  have d1 : decide ((s.size : Int) < 2) = false := by simp; omega
  have d2 : decide (s.size < 2) = false := by simp; omega
  have hx := s[0].toNat_lt
  have hy := s[1].toNat_lt
  have ha := and15 s[0].toNat (by omega)
  have hb := and32 s[1].toNat (by omega)
  have h0i : (0 : Int) < (s.size : Int) := by omega
  have h1i : (1 : Int) < (s.size : Int) := by omega
  obtain ⟨x, hxe⟩ : ∃ x, x = s[0].toNat := ⟨_, rfl⟩
  obtain ⟨y, hye⟩ : ∃ y, y = s[1].toNat := ⟨_, rfl⟩
  have hx' : s[0].toNat = x := hxe.symm
  have hy' : s[1].toNat = y := hye.symm
  rw [hx', hy']
  rw [hx'] at hx ha
  rw [hy'] at hy hb
  clear hxe hye
  obtain ⟨u, hu⟩ : ∃ u, u = x % 16 := ⟨_, rfl⟩
  obtain ⟨v, hv⟩ : ∃ v, v = x / 16 := ⟨_, rfl⟩
  obtain ⟨z, hz⟩ : ∃ z, z = (x * 256 + y) % 31 := ⟨_, rfl⟩
  obtain ⟨t, ht⟩ : ∃ t, t = y / 32 % 2 * 32 := ⟨_, rfl⟩
  have hvi : (x : Int) / 16 = (v : Int) := by omega
  have hzi : ((x : Int) * 256 + (y : Int)) % 31 = (z : Int) := by omega
  have hul : u < 16 := by omega
  have hvl : v < 16 := by omega
  have hzl : z < 31 := by omega
  have htl : t < 64 := by omega
  rw [← hu] at ha
  rw [← ht] at hb
  have HU := hide hu
  have HV := hide hv
  have HZ := hide hz
  have HT := hide ht
  clear hu hv hz ht
  by_cases c1 : u = 8
  · have e1 : ((u : Int) == 8) = true := by simp; omega
    by_cases c2 : v ≤ 7
    · have e2 : decide ((v : Int) ≤ 7) = true := by simp; omega
      by_cases c3 : z = 0
      · have e3 : ((z : Int) == 0) = true := by simp; omega
        by_cases c4 : t = 0
        · have e4 : ((t : Int) == 0) = true := by simp; omega
          have HX : Hid (decide (Hd2 x y) = true) := decide_eq_true ⟨by rw [← unhide HU]; exact c1, by rw [← unhide HV]; exact c2, by rw [← unhide HZ]; exact c3, by have := unhide HT; omega⟩
          clear c1 c2 c3 c4
          go_enter Tryz.func28, Tryz.ntmps28
          go_wp2
          go_quiet (fail)
          go_wp2
          go_ret
          exact ⟨ret_b (unhide HX).symm, _, rfl⟩
        · have e4 : ((t : Int) == 0) = false := by simp; omega
          have HX : Hid (decide (Hd2 x y) = false) := decide_eq_false (fun h => c4 (by have := unhide HT; have := h.2.2.2; omega))
          clear c1 c2 c3 c4
          go_enter Tryz.func28, Tryz.ntmps28
          go_wp2
          go_quiet (fail)
          go_wp2
          go_ret
          exact ⟨ret_b (unhide HX).symm, _, rfl⟩
      · have e3 : ((z : Int) == 0) = false := by simp; omega
        have HX : Hid (decide (Hd2 x y) = false) := decide_eq_false (fun h => c3 (by rw [unhide HZ]; exact h.2.2.1))
        clear c1 c2 c3
        go_enter Tryz.func28, Tryz.ntmps28
        go_wp2
        go_quiet (fail)
        go_wp2
        go_ret
        exact ⟨ret_b (unhide HX).symm, _, rfl⟩
    · have e2 : decide ((v : Int) ≤ 7) = false := by simp; omega
      have HX : Hid (decide (Hd2 x y) = false) := decide_eq_false (fun h => c2 (by rw [unhide HV]; exact h.2.1))
      clear c1 c2
      go_enter Tryz.func28, Tryz.ntmps28
      go_wp2
      go_quiet (fail)
      go_wp2
      go_ret
      exact ⟨ret_b (unhide HX).symm, _, rfl⟩
  · have e1 : ((u : Int) == 8) = false := by simp; omega
    have HX : Hid (decide (Hd2 x y) = false) := decide_eq_false (fun h => c1 (by rw [unhide HU]; exact h.1))
    clear c1
    go_enter Tryz.func28, Tryz.ntmps28
    go_wp2
    go_quiet (fail)
    go_wp2
    go_ret
    exact ⟨ret_b (unhide HX).symm, _, rfl⟩

/-- A number out of bytes, the highest first. -/
def big (l : List UInt8) : Nat := l.foldl (fun n b => n * 256 + b.toNat) 0
theorem big_snoc (l : List UInt8) (b : UInt8) : big (l ++ [b]) = big l * 256 + b.toNat := by simp [big]
theorem big_lt (s : ByteArray) (hs : s.size = 4) (k : Nat) (hk : k ≤ 4) : big (s.data.toList.take k) < 256 ^ k := by
  induction k with
  | zero => simp [big]
  | succ k ih =>
    rw [take_snoc s k (by omega), big_snoc]
    have := ih (by omega)
    have hb := (s[k]'(by omega)).toNat_lt
    rw [Nat.pow_succ]
    omega

set_option maxHeartbeats 400000 in
theorem bigOf_any (s : ByteArray) (w : World) (hs : s.size = 4) :
    Calls Tryz.prog 31 #[.string s] w fun e w' => e = .returned (.int .u32 (big s.data.toList : Nat)) ∧ w' = w := by
  have HB := hide (big_lt s hs)
  go_enter Tryz.func31, Tryz.ntmps31
  go_wp2
  go_loop [3, 4] (fun n i => ∃ k : Nat, k ≤ 4 ∧ i = .int .i64 (k : Int) ∧ n = .int .u32 (big (s.data.toList.take k) : Nat)) (fun _ i => 4 - (intOf i).toNat)
  case atStart => exact ⟨0, by omega, rfl, rfl⟩
  case round =>
    obtain ⟨k, hk, rfl, rfl⟩ := hrel
    by_cases hlt : k < 4
    · have hd : decide ((k : Int) < 4) = true := by simp; omega
      have hks : k < s.size := by omega
      have hts := hide (show big (s.data.toList.take (k + 1)) = big (s.data.toList.take k) * 256 + s[k].toNat by rw [take_snoc s k hks, big_snoc])
      have hbb := s[k].toNat_lt
      have hlk : big (s.data.toList.take k) < 16777216 := Nat.lt_of_lt_of_le (unhide HB k (by omega)) (by
        rcases (show k = 0 ∨ k = 1 ∨ k = 2 ∨ k = 3 by omega) with rfl | rfl | rfl | rfl <;> decide)
      have hki : (k : Int) < (s.size : Int) := by omega
      generalize big (s.data.toList.take k) = r at *
      go_wp2
      go_round
      case rel => exact ⟨k + 1, by omega, by go_num, by rw [unhide hts]; go_num⟩
      case measure => simp [intOf]; omega
    · have : k = 4 := by omega
      subst this
      have he := hide (show s.data.toList.take 4 = s.data.toList from List.take_of_length_le (by simp; omega))
      go_wp2
      go_ret
      exact ⟨ret_int (by rw [unhide he]), rfl⟩

theorem or_byte (r : Nat) (b : UInt8) (h : r < 16777216) : bits .or .u32 ((r : Int) * 256) (b.toNat : Int) = ((r * 256 + b.toNat : Nat) : Int) := by
  have hb := b.toNat_lt
  have := u32_or_nat (r * 256) b.toNat (by omega) (by omega)
  rw [nat_join 8 (r * 256) b.toNat (by omega) (by omega)] at this
  rw [show ((r : Int) * 256) = ((r * 256 : Nat) : Int) from by omega, this]

set_option maxHeartbeats 400000 in
theorem highestFirst_any (s : ByteArray) (w : World) (hs : s.size = 4) :
    Calls Tryz.prog 29 #[.string s] w fun e w' => e = .returned (.int .u32 (big s.data.toList : Nat)) ∧ w' = w := by
  have HB := hide (big_lt s hs)
  go_enter Tryz.func29, Tryz.ntmps29
  go_wp2
  go_loop [3, 7] (fun n i => ∃ k : Nat, k ≤ s.size ∧ i = .int .i64 (k : Int) ∧ n = .int .u32 (big (s.data.toList.take k) : Nat)) (fun _ i => s.size - (intOf i).toNat)
  case atStart => exact ⟨0, by omega, rfl, rfl⟩
  case round =>
    obtain ⟨k, hk, rfl, rfl⟩ := hrel
    by_cases hlt : k < s.size
    · have hd : decide ((k : Int) < (s.size : Int)) = true := by simp; omega
      have hts := hide (show big (s.data.toList.take (k + 1)) = big (s.data.toList.take k) * 256 + s[k].toNat by rw [take_snoc s k hlt, big_snoc])
      have hbb := s[k].toNat_lt
      have hlk : big (s.data.toList.take k) < 16777216 := Nat.lt_of_lt_of_le (unhide HB k (by omega)) (by
        rcases (show k = 0 ∨ k = 1 ∨ k = 2 ∨ k = 3 by omega) with rfl | rfl | rfl | rfl <;> decide)
      generalize big (s.data.toList.take k) = r at *
      have ho := or_byte r s[k] hlk
      go_wp2
      go_round
      case rel => exact ⟨k + 1, by omega, by go_num, by rw [unhide hts]; go_num⟩
      case measure => simp [intOf]; omega
    · have : k = s.size := by omega
      subst this
      have hd : decide ((s.size : Int) < (s.size : Int)) = false := by simp
      go_wp2
      go_ret
      exact ⟨ret_int (by rw [show s.data.toList.take 4 = s.data.toList from List.take_of_length_le (by simp; omega)]), rfl⟩
end Go.Proofs.YtbbcfghlhgaofacGreatDoor
