/- Walks of the statement on bursts. -/
import Derived.Test.YtclkfjbkffcgcaaSumIs
import Derived.Test.YtclkfjbkffcgcaaCrc2
import Derived.Laws.IdiomStrings
import Derived.BigRegion
namespace Go.Proofs.Ytclkfjbkffcgcaa
open Go.RowKit

theorem to_bytes (w : World) (s : ByteArray) : ∃ cap w2, (convert 9 27 (.string s)).run Try.prog w = .ok (.slice (some ⟨w.heap.size, 0, none⟩) s.size cap) w2 ∧
    (∀ j, j < s.size → w2.cell? ⟨w.heap.size, j, none⟩ = some (.int .u8 ((s.data.toList.getD j 0).toNat : Int))) ∧ (∀ j, j < s.size → w2.frozen? ⟨w.heap.size, j, none⟩ = false) ∧ Below w.heap.size w w2 ∧ w.heap.size < w2.heap.size := by
  have h := run_bytes_of_string (P := Try.prog) w 9 27 5 s Try.underlying9 Try.underlying27 Try.underlying5
  have hz : s.size ≤ (bytesRow s (grownCap w s.size 0 5)).size := by simp [bytesRow]
  refine ⟨_, _, h, ?_, ?_, ?_, ?_⟩
  · intro j hj
    show (w.drew.alloc _).cell? ⟨w.drew.heap.size, j, none⟩ = _
    rw [World.cell?_alloc_mark w.drew]
    rw [bytesRow_at s _ j (by simpa using hj)]
    simp [List.getD, Array.getElem?_eq_getElem (show j < s.data.size by simpa using hj)]
  · intro j hj
    show (w.drew.alloc _).frozen? ⟨w.drew.heap.size, j, none⟩ = _
    rw [World.frozen?_alloc_mark w.drew]
    simp; omega
  · exact (Below.refl _ _).drew.alloc (Nat.le_refl _) _
  · simp

theorem byte_turn (x r : Nat) (hx : x < 256) (hr : r < 8) : bits .xor .u8 (x : Int) (2 ^ r % 256) = ((UInt8.ofNat (x ^^^ 2 ^ r)).toNat : Int) := by
  have h2 : 2 ^ r < 256 := Nat.pow_lt_pow_right (n := 8) (by omega) hr
  have := u8_xor_nat x (2 ^ r) hx h2
  rw [UInt8.toNat_ofNat', Nat.mod_eq_of_lt (Crc.turned_lt x r hx hr), ← this]
  congr 1
  rw [show ((2 : Int) ^ r) = ((2 ^ r : Nat) : Int) from by simp]
  generalize 2 ^ r = p at *
  omega

theorem getD_set (l : List UInt8) (q j : Nat) (x : UInt8) (hq : q < l.length) : (l.set q x).getD j 0 = if j = q then x else l.getD j 0 := by
  simp only [List.getD, List.getElem?_set]
  by_cases h : q = j
  · subst h; simp [hq]
  · simp [h, Ne.symm h]

/-- A round that turns a bit. -/
theorem turned_round (s : ByteArray) (l : List UInt8) (at_ turn k t m q r x g : Nat) (w wr : World)
    (hb : Below w.heap.size w wr) (hg : w.heap.size ≤ g) (hin : at_ + k < 8 * s.size) (hbit : t % 2 = 1)
    (hsucc : turn % 2 ^ (k + 1) = turn % 2 ^ k + 2 ^ k * (t % 2)) (hx : x < 256) (hxx : (l.getD q 0).toNat = x) (hm : m = at_ + k) (hq : q = m / 8) (hr : r = m % 8)
    (hcell : ∀ j, j < s.size → wr.cell? ⟨g, j, none⟩ = some (.int .u8 ((l.getD j 0).toNat : Int))) (hfr : ∀ j, j < s.size → wr.frozen? ⟨g, j, none⟩ = false)
    (hnum : Crc.num l = Crc.num s.data.toList ^^^ 2 ^ at_ * (turn % 2 ^ k) % 2 ^ (8 * s.size)) (hl : l.length = s.size) :
    ∃ l' : List UInt8, l'.length = s.size ∧ Crc.num l' = Crc.num s.data.toList ^^^ 2 ^ at_ * (turn % 2 ^ (k + 1)) % 2 ^ (8 * s.size) ∧
      (∀ j, j < s.size → (wr.setCell ⟨g, q, none⟩ (.int .u8 (bits .xor .u8 (x : Int) (2 ^ r % 256)))).drew.cell? ⟨g, j, none⟩ = some (.int .u8 ((l'.getD j 0).toNat : Int))) ∧
      (∀ j, j < s.size → (wr.setCell ⟨g, q, none⟩ (.int .u8 (bits .xor .u8 (x : Int) (2 ^ r % 256)))).drew.frozen? ⟨g, j, none⟩ = false) ∧
      Below w.heap.size w (wr.setCell ⟨g, q, none⟩ (.int .u8 (bits .xor .u8 (x : Int) (2 ^ r % 256)))).drew := by
  have hr8 : r < 8 := by omega
  have hql : q < s.size := by omega
  refine ⟨l.set q (UInt8.ofNat ((l.getD q 0).toNat ^^^ 2 ^ r)), by simpa using hl, ?_, ?_, ?_, ?_⟩
  · rw [Crc.num_set l q r (by omega) hr8, hnum, Crc.turn_step at_ turn k t _ hsucc, hbit, Nat.mul_one, show 8 * q + r = at_ + k from by omega]
    rw [Nat.mod_eq_of_lt (Nat.pow_lt_pow_right (by omega) hin), Nat.xor_assoc]
  · intro j hj
    rw [getD_set _ _ _ _ (by omega), byte_turn x r hx hr8, hxx]
    by_cases hjq : j = q
    · subst hjq
      rw [if_pos rfl]
      have hc := hcell j hj
      simp [go_sem, hc]
    · rw [if_neg hjq, ← hcell j hj]
      show (wr.setCell _ _).cell? _ = _
      exact World.cell?_setCell_other _ _ _ _ (fun e => hjq (by injection e with _ e2; exact e2.symm))
  · intro j hj
    have := hfr j hj
    simp [go_sem, this]
  · exact (hb.setCell hg _).drew

theorem burst_told (s : ByteArray) (l : List UInt8) (a turn : Nat) (ha : a ≤ 8 * s.size) (ht : turn < 4294967296) (hl : l.length = s.size)
    (hnum : Crc.num l = Crc.num s.data.toList ^^^ 2 ^ a * turn) (h : crcOf l = crcOf s.data.toList) : l = s.data.toList := by
  have hz : s.data.toList.length = s.size := by simp
  refine Crc.run_burst 4294967295 s.data.toList l (by omega) a turn (by omega) ht hnum ?_
  have := congrArg (fun x => 4294967295 ^^^ x) h
  simp only [crcOf, ← Nat.xor_assoc, Nat.xor_self, Nat.zero_xor] at this
  exact this

theorem from_bytes (w : World) (g cap n : Nat) (l : List UInt8) (hl : l.length = n) (hc : ∀ j, j < n → w.cell? ⟨g, j, none⟩ = some (.int .u8 ((l.getD j 0).toNat : Int))) :
    (convert 27 9 (.slice (some ⟨g, 0, none⟩) n cap)).run Try.prog w = .ok (.string ⟨l.toArray⟩) w := by
  subst hl
  refine run_convert_bytes_back w 27 9 5 _ cap l Try.underlying27 Try.underlying5 Try.underlying9 (fun j hj => ?_)
  have := hc j hj
  have hadd : (⟨g, 0, none⟩ : Addr).add j = ⟨g, j, none⟩ := by unfold Addr.add; split <;> simp_all
  rw [hadd]
  simpa [List.getD, List.getElem?_eq_getElem hj] using this

set_option maxHeartbeats 1000000 in
set_option maxRecDepth 100000 in
theorem sumBursts_in (s : ByteArray) (at_ turn : Nat) (w : World) (hs : s.size ≤ 2000) (ht : turn < 4294967296) (h0 : turn ≠ 0) (hat : at_ < 8 * s.size) :
    Calls Try.prog 4 #[.string s, .int .i64 (at_ : Int), .int .u32 (turn : Int)] w fun e w' => e = .returned (.bool true) ∧ Below w.heap.size w w' := by
  have hda : decide ((2000 : Int) < (s.size : Int)) = false := by simp; omega
  have hd1 : ((turn : Int) == 0) = false := by simp; omega
  have hd2 : decide ((at_ : Int) < 0) = false := by simp
  have hd3 : decide (8 * (s.size : Int) ≤ (at_ : Int)) = false := by simp; omega
  go_enter Try.func4, Try.ntmps4
  go_wp2_with fail
  refine (known_any _).mono ?_; rintro e w1 ⟨rfl, hb1⟩
  obtain ⟨cap, w2, hconv, hcell, hfr, hb20, hsz⟩ := to_bytes w1 s
  have hb2 := hb1.trans (hb20.mono hb1.size)
  clear hb20
  have hg := hb1.size
  generalize w1.heap.size = g at *
  go_wp2
  go_loopw [9] (fun i wr => ∃ (k : Nat) (l : List UInt8), k ≤ 32 ∧ i = .int .i64 k ∧ l.length = s.size ∧
      Crc.num l = Crc.num s.data.toList ^^^ (2 ^ at_ * (turn % 2 ^ k) % 2 ^ (8 * s.size)) ∧
      (∀ j, j < s.size → wr.cell? ⟨g, j, none⟩ = some (.int .u8 ((l.getD j 0).toNat : Int))) ∧ (∀ j, j < s.size → wr.frozen? ⟨g, j, none⟩ = false) ∧ Below w.heap.size w wr) (fun i _ => 32 - (intOf i).toNat)
  case atStart => exact ⟨0, s.data.toList, by omega, rfl, by simp, by simp [Nat.mod_one], hcell, hfr, hb2⟩
  case round =>
    obtain ⟨k, l, hk, rfl, hl, hnum, hcell, hfr, hb⟩ := hrel
    by_cases hlt : k < 32
    · have hd : decide ((k : Int) < 32) = true := by simp; omega
      have ht2 : (turn : Int) / 2 ^ k = ((turn / 2 ^ k : Nat) : Int) := by simp
      have hsucc := hide (Nat.mod_pow_succ (b := 2) (k := k) (x := turn))
      generalize turn / 2 ^ k = t at *
      by_cases hbit : t % 2 = 1
      · have hbb : ((t : Int) % 2 == 1) = true := by simp; omega
        by_cases hin : at_ + k < 8 * s.size
        · obtain ⟨m, hm⟩ : ∃ m, m = at_ + k := ⟨_, rfl⟩
          have hm1 : (at_ : Int) + (k : Int) = (m : Int) := by omega
          obtain ⟨q, hq⟩ : ∃ q, q = m / 8 := ⟨_, rfl⟩
          have hq1 : (m : Int) / 8 = (q : Int) := by omega
          obtain ⟨r, hr⟩ : ∃ r, r = m % 8 := ⟨_, rfl⟩
          have hr1 : (m : Int) % 8 = (r : Int) := by omega
          have hql : q < s.size := by omega
          have hqi : (q : Int) < (s.size : Int) := by omega
          have hc := hcell q hql
          have hf := hfr q hql
          have hx := (l.getD q 0).toNat_lt
          generalize hxx : (l.getD q 0).toNat = x at hc hx
          have Hxx := hide hxx
          have Hm := hide hm
          have Hq := hide hq
          have Hr := hide hr
          have Hcell := hide hcell
          have Hfr := hide hfr
          have Hnum := hide hnum
          have Hl := hide hl
          have hdin : decide ((m : Int) < 8 * (s.size : Int)) = true := by simp; omega
          clear hxx hm hq hr hcell hfr hnum hl
          go_wp2
          go_region
          go_wp2
          obtain ⟨l', h1, h2, h3, h4, h5⟩ := turned_round s l at_ turn k t m q r x g w wr hb hg hin hbit (unhide hsucc) hx (unhide Hxx) (unhide Hm) (unhide Hq) (unhide Hr) (unhide Hcell) (unhide Hfr) (unhide Hnum) (unhide Hl)
          go_roundw
          case rel => exact ⟨k + 1, l', by omega, by go_num, h1, h2, h3, h4, h5⟩
          case measure => simp [intOf]; omega
        · have hdin : decide ((at_ : Int) + (k : Int) < 8 * (s.size : Int)) = false := by simp; omega
          have hn2 : Crc.num l = Crc.num s.data.toList ^^^ 2 ^ at_ * (turn % 2 ^ (k + 1)) % 2 ^ (8 * s.size) := by
            rw [Crc.turn_step at_ turn k t _ (unhide hsucc), ← Nat.xor_assoc, ← hnum, hbit, Nat.mul_one, show at_ + k = 8 * s.size + (at_ + k - 8 * s.size) from by omega, Nat.pow_add, Nat.mul_mod_right, Nat.xor_zero]
          have Hn2 := hide hn2
          have Hl := hide hl
          clear hn2 hnum hl
          go_wp2
          go_roundw
          case rel => exact ⟨k + 1, l, by omega, by go_num, unhide Hl, unhide Hn2, hcell, hfr, hb⟩
          case measure => simp [intOf]; omega
      · have hbb : ((t : Int) % 2 == 1) = false := by simp; omega
        have hn2 : Crc.num l = Crc.num s.data.toList ^^^ 2 ^ at_ * (turn % 2 ^ (k + 1)) % 2 ^ (8 * s.size) := by
          rw [Crc.turn_step at_ turn k t _ (unhide hsucc), ← Nat.xor_assoc, ← hnum, show t % 2 = 0 from by omega, Nat.mul_zero, Nat.zero_mod, Nat.xor_zero]
        have Hn2 := hide hn2
        have Hl := hide hl
        clear hn2 hnum hl
        go_wp2
        go_roundw
        case rel => exact ⟨k + 1, l, by omega, by go_num, unhide Hl, unhide Hn2, hcell, hfr, hb⟩
        case measure => simp [intOf]; omega
    · have : k = 32 := by omega
      subst this
      have hd : decide (((32 : Nat) : Int) < 32) = false := by decide
      rw [Nat.mod_eq_of_lt (show turn < 2 ^ 32 from ht), Crc.turn_end at_ turn _ (by omega)] at hnum
      have hne : l ≠ s.data.toList → crcOf l ≠ crcOf s.data.toList := fun h1 h2 => h1 (burst_told s l at_ (turn % 2 ^ (8 * s.size - at_)) (by omega) (Nat.lt_of_le_of_lt (Nat.mod_le _ _) ht) hl hnum h2)
      have hback := from_bytes wr g cap s.size l hl hcell
      have hsz : (ByteArray.mk l.toArray).size ≤ maxLen := by show l.toArray.size ≤ _; unfold maxLen; simp; omega
      have hsz2 : s.size ≤ maxLen := by unfold maxLen; omega
      by_cases heq : l = s.data.toList
      · have hse : (ByteArray.mk l.toArray) = s := by rw [heq]
        rw [hse] at hback
        clear hne hsz hnum hse heq hl hcell hfr
        go_wp2
        go_ret
        exact ⟨rfl, hb⟩
      · have hse : ¬ l = s.toList := by rw [ByteArray.toList_eq]; exact heq
        have Hne : ((crcOf l : Int) != (crcOf s.data.toList : Int)) = true := by
          have := hne heq
          rw [bne_iff_ne]
          omega
        clear hne hnum hl hcell hfr heq
        go_wp2_with fail
        refine (crc_any _ _ hsz).mono ?_; rintro e w3 ⟨rfl, hb3⟩
        go_wp2_with fail
        refine (crc_any _ _ hsz2).mono ?_; rintro e w4 ⟨rfl, hb4⟩
        go_wp2
        go_ret
        have h6 := hb.trans ((hb3.mono hb.size))
        exact ⟨by simp, h6.trans (hb4.mono h6.size)⟩

set_option maxHeartbeats 400000 in
theorem sumBursts_any (s : ByteArray) (a : Int) (turn : Nat) (w : World) (hs : s.size ≤ maxLen) (ht : turn < 4294967296) :
    Calls Try.prog 4 #[.string s, .int .i64 a, .int .u32 (turn : Int)] w fun e w' => e = .returned (.bool true) ∧ Below w.heap.size w w' := by
  unfold maxLen at hs
  by_cases hl : s.size ≤ 2000
  · have hda : decide ((2000 : Int) < (s.size : Int)) = false := by simp; omega
    by_cases h0 : turn = 0
    · subst h0
      go_enter Try.func4, Try.ntmps4
      go_wp2_with fail
      refine (known_any _).mono ?_; rintro e w1 ⟨rfl, hb1⟩
      go_wp2
      go_ret
      exact ⟨rfl, hb1⟩
    · have hd1 : ((turn : Int) == 0) = false := by simp; omega
      by_cases h1 : a < 0
      · have hd2 : decide (a < 0) = true := by simp; omega
        go_enter Try.func4, Try.ntmps4
        go_wp2_with fail
        refine (known_any _).mono ?_; rintro e w1 ⟨rfl, hb1⟩
        go_wp2
        go_ret
        exact ⟨rfl, hb1⟩
      · obtain ⟨n, rfl⟩ := Int.eq_ofNat_of_zero_le (show 0 ≤ a by omega)
        by_cases h2 : n < 8 * s.size
        · exact sumBursts_in s n turn w hl ht h0 h2
        · have hd2 : decide ((n : Int) < 0) = false := by simp
          have hd3 : decide (8 * (s.size : Int) ≤ (n : Int)) = true := by simp; omega
          go_enter Try.func4, Try.ntmps4
          go_wp2_with fail
          refine (known_any _).mono ?_; rintro e w1 ⟨rfl, hb1⟩
          go_wp2
          go_ret
          exact ⟨rfl, hb1⟩
  · have hda : decide ((2000 : Int) < (s.size : Int)) = true := by simp; omega
    go_enter Try.func4, Try.ntmps4
    go_wp2_with fail
    refine (known_any _).mono ?_; rintro e w1 ⟨rfl, hb1⟩
    go_wp2
    go_ret
    exact ⟨rfl, hb1⟩
end Go.Proofs.Ytclkfjbkffcgcaa
