/- Walks: the document's own rows: what foretells a byte, a row by its kind, and back, its best kind. -/
import Derived.Test.YtmmilamaahmaoafDoorFp
import Derived.Test.YtmmilamaahmaoafDoorTxH
namespace Go.Proofs.YtmmilamaahmaoafDoor
open Go.RowKit

theorem toList_at (s : ByteArray) (i : Nat) (h : i < s.size) : Fil.at0 s.data.toList i = s[i].toNat := by
  have h' : i < s.data.toList.length := by simpa using h
  rw [Fil.at0_get _ _ h']
  simp
  rfl
theorem toList_out (s : ByteArray) (i : Nat) (h : s.size ≤ i) : Fil.at0 s.data.toList i = 0 := Fil.at0_out _ _ (by simpa using h)

theorem byteAt_any (s : ByteArray) (i : Nat) (w : World) :
    Calls Tryd.prog 31 #[.string s, .int .i64 (i : Int)] w fun e w' => e = .returned (.int .i64 (Fil.at0 s.data.toList i : Int)) ∧ w' = w := by
  have d0 : decide ((i : Int) < 0) = false := by simp
  by_cases h : i < s.size
  · have d1 : decide ((i : Int) ≥ (s.size : Int)) = false := by simp; omega
    have d1' : decide (i ≥ s.size) = false := by simp; omega
    have hi : (i : Int) < (s.size : Int) := by omega
    have hx := s[i].toNat_lt
    rw [toList_at s i h]
    go_enter Tryd.func31, Tryd.ntmps31
    go_wp2
    go_ret
    exact ⟨rfl, rfl⟩
  · have d1 : decide ((i : Int) ≥ (s.size : Int)) = true := by simp; omega
    have d1' : decide (i ≥ s.size) = true := by simp; omega
    rw [toList_out s i (by omega)]
    go_enter Tryd.func31, Tryd.ntmps31
    go_wp2
    go_ret
    exact ⟨rfl, rfl⟩
theorem byteAt_none (s : ByteArray) (z : Int) (w : World) (hz : z < 0) :
    Calls Tryd.prog 31 #[.string s, .int .i64 z] w fun e w' => e = .returned (.int .i64 0) ∧ w' = w := by
  have d0 : decide (z < 0) = true := by simpa using hz
  go_enter Tryd.func31, Tryd.ntmps31
  go_wp2
  go_ret
  exact ⟨rfl, rfl⟩
/-- A step back. -/
theorem byteAt_back (s : ByteArray) (i st : Nat) (w : World) :
    Calls Tryd.prog 31 #[.string s, .int .i64 ((i : Int) - (st : Int))] w fun e w' => e = .returned (.int .i64 (Fil.bk s.data.toList i st : Int)) ∧ w' = w := by
  by_cases h : st ≤ i
  · have e : (i : Int) - (st : Int) = ((i - st : Nat) : Int) := by omega
    have e2 : Fil.bk s.data.toList i st = Fil.at0 s.data.toList (i - st) := by simp [Fil.bk, h]
    rw [e, e2]
    exact byteAt_any s (i - st) w
  · have e2 : Fil.bk s.data.toList i st = 0 := by simp [Fil.bk, h]
    rw [e2]
    exact byteAt_none s _ w (by omega)

theorem rapart_any (p : Int) (b : Nat) (w : World) (h1 : -1000 ≤ p) (h2 : p ≤ 1000) (hb : b < 256) :
    Calls Tryd.prog 40 #[.int .i64 p, .int .i64 (b : Int)] w fun e w' => e = .returned (.int .i64 (Fil.ap p b)) ∧ w' = w := by
  by_cases h : p < (b : Int)
  · have d1 : decide (p < (b : Int)) = true := by simpa using h
    have e1 : Fil.ap p b = (b : Int) - p := by unfold Fil.ap; rw [if_pos h]
    rw [e1]
    go_enter Tryd.func40, Tryd.ntmps40
    go_wp2
    go_ret
    exact ⟨rfl, rfl⟩
  · have d1 : decide (p < (b : Int)) = false := by simpa using h
    have e1 : Fil.ap p b = p - (b : Int) := by unfold Fil.ap; rw [if_neg h]
    rw [e1]
    go_enter Tryd.func40, Tryd.ntmps40
    go_wp2
    go_ret
    exact ⟨rfl, rfl⟩

theorem ap_size (p : Int) (b : Nat) (h1 : -1000 ≤ p) (h2 : p ≤ 1000) (hb : b < 256) : 0 ≤ Fil.ap p b ∧ Fil.ap p b ≤ 2000 := by unfold Fil.ap; split <;> omega

set_option maxHeartbeats 1000000 in
theorem guess_any (k a b c : Nat) (w : World) (hk : k ≤ 4) (ha : a < 256) (hb : b < 256) (hc : c < 256) :
    Calls Tryd.prog 30 #[.int .i64 (k : Int), .int .i64 (a : Int), .int .i64 (b : Int), .int .i64 (c : Int)] w fun e w' => e = .returned (.int .i64 (Fil.guess k a b c : Int)) ∧ w' = w := by
  obtain rfl | rfl | rfl | rfl | rfl : k = 0 ∨ k = 1 ∨ k = 2 ∨ k = 3 ∨ k = 4 := by omega
  · go_enter Tryd.func30, Tryd.ntmps30
    go_wp2
    go_ret
    exact ⟨ret_int (by simp [Fil.guess]), rfl⟩
  · go_enter Tryd.func30, Tryd.ntmps30
    go_wp2
    go_ret
    exact ⟨ret_int (by simp [Fil.guess]), rfl⟩
  · go_enter Tryd.func30, Tryd.ntmps30
    go_wp2
    go_ret
    exact ⟨ret_int (by simp [Fil.guess]), rfl⟩
  · go_enter Tryd.func30, Tryd.ntmps30
    go_wp2
    go_ret
    exact ⟨ret_int (by simp [Fil.guess]), rfl⟩
  · obtain ⟨p, hp⟩ : ∃ p : Int, p = (a : Int) + b - c := ⟨_, rfl⟩
    have HN : Hid (Fil.guess 4 a b c = if Fil.ap p a ≤ Fil.ap p b ∧ Fil.ap p a ≤ Fil.ap p c then a else if Fil.ap p b ≤ Fil.ap p c then b else c) := by
      show Fil.near a b c = _
      unfold Fil.near
      dsimp only
      rw [← hp]
    have hp1 : -1000 ≤ p := by omega
    have hp2 : p ≤ 1000 := by omega
    have hq : (a : Int) + (b : Int) - (c : Int) = p := by omega
    have HA := hide fun w => rapart_any p a w hp1 hp2 ha
    have HB := hide fun w => rapart_any p b w hp1 hp2 hb
    have HC := hide fun w => rapart_any p c w hp1 hp2 hc
    generalize Fil.ap p a = x at *
    generalize Fil.ap p b = y at *
    generalize Fil.ap p c = z at *
    generalize Fil.guess 4 a b c = g at *
    clear hp
    go_enter Tryd.func30, Tryd.ntmps30
    go_wp2_with fail
    refine (unhide HA _).mono ?_; rintro e w1 ⟨rfl, rfl⟩
    go_wp2_with fail
    refine (unhide HB _).mono ?_; rintro e w1 ⟨rfl, rfl⟩
    go_wp2_with fail
    refine (unhide HC _).mono ?_; rintro e w1 ⟨rfl, rfl⟩
    by_cases h1 : x ≤ y
    · have d1 : decide (x ≤ y) = true := by simpa using h1
      by_cases h2 : x ≤ z
      · have d2 : decide (x ≤ z) = true := by simpa using h2
        rw [if_pos ⟨h1, h2⟩] at HN
        clear h1 h2
        go_wp2
        go_ret
        exact ⟨ret_int (by rw [unhide HN]), rfl⟩
      · have d2 : decide (x ≤ z) = false := by simpa using h2
        rw [if_neg (fun q => h2 q.2)] at HN
        clear h2
        by_cases h3 : y ≤ z
        · have d3 : decide (y ≤ z) = true := by simpa using h3
          rw [if_pos h3] at HN
          clear h1 h3
          go_wp2
          go_ret
          exact ⟨ret_int (by rw [unhide HN]), rfl⟩
        · have d3 : decide (y ≤ z) = false := by simpa using h3
          rw [if_neg h3] at HN
          clear h1 h3
          go_wp2
          go_ret
          exact ⟨ret_int (by rw [unhide HN]), rfl⟩
    · have d1 : decide (x ≤ y) = false := by simpa using h1
      rw [if_neg (fun q => h1 q.1)] at HN
      by_cases h3 : y ≤ z
      · have d3 : decide (y ≤ z) = true := by simpa using h3
        rw [if_pos h3] at HN
        clear h1 h3
        go_wp2
        go_ret
        exact ⟨ret_int (by rw [unhide HN]), rfl⟩
      · have d3 : decide (y ≤ z) = false := by simpa using h3
        rw [if_neg h3] at HN
        clear h1 h3
        go_wp2
        go_ret
        exact ⟨ret_int (by rw [unhide HN]), rfl⟩

/-- Bytes as a text. -/
def tx (l : List UInt8) : ByteArray := ⟨l.toArray⟩
theorem tx_size (l : List UInt8) : (tx l).size = l.length := by show l.toArray.size = _; simp
theorem tx_list (l : List UInt8) : (tx l).data.toList = l := by simp [tx]
theorem tx_of (s : ByteArray) : tx s.data.toList = s := text_ext (by rw [tx_list])
theorem tx_push (l : List UInt8) (n : Nat) : tx l ++ ⟨#[UInt8.ofNat n]⟩ = tx (l ++ [UInt8.ofNat n]) := by
  apply text_ext
  rw [ByteArray.data_append, Array.toList_append, tx_list, tx_list]
theorem tx_append (a b : List UInt8) : tx a ++ tx b = tx (a ++ b) := by
  apply text_ext
  rw [ByteArray.data_append, Array.toList_append, tx_list, tx_list, tx_list]

set_option maxHeartbeats 2000000 in
theorem rowOf_any (k s : Nat) (row ahead : ByteArray) (w : World) (hk : k ≤ 4) (hs : s ≤ 8) (hl : row.size ≤ 300000) :
    Calls Tryd.prog 23 #[.int .i64 (k : Int), .string row, .string ahead, .int .i64 (s : Int)] w fun e w' => e = .returned (.string (tx (Fil.row k row.data.toList ahead.data.toList s row.size))) ∧ Below w.heap.size w w' := by
  go_enter Tryd.func23, Tryd.ntmps23
  go_wp2
  go_loopw [9, 10] (fun ov iv wr => ∃ i : Nat, i ≤ row.size ∧ iv = .int .i64 (i : Int) ∧ ov = .string (tx (Fil.row k row.data.toList ahead.data.toList s i)) ∧ Hid (Below w.heap.size w wr)) (fun _ iv _ => row.size - (intOf iv).toNat)
  case atStart => exact ⟨0, by omega, rfl, rfl, Below.refl _ _⟩
  case round =>
    obtain ⟨i, hi, rfl, rfl, HB⟩ := hrel
    by_cases hlt : i < row.size
    · have d1 : decide ((i : Int) < (row.size : Int)) = true := by simp; omega
      have d1' : decide (i < row.size) = true := by simp; omega
      have hii : (i : Int) < (row.size : Int) := by omega
      have h1 := hide fun w => byteAt_back row i s w
      have h2 := hide fun w => byteAt_any ahead i w
      have h3 := hide fun w => byteAt_back ahead i s w
      have h4 := hide fun w => guess_any k _ _ _ w hk (Fil.bk_lt row.data.toList i s) (Fil.at0_lt ahead.data.toList i) (Fil.bk_lt ahead.data.toList i s)
      have hfl := Fil.fore_lt k row.data.toList ahead.data.toList i s
      have HX : Hid (Fil.row k row.data.toList ahead.data.toList s (i + 1) = Fil.row k row.data.toList ahead.data.toList s i ++ [UInt8.ofNat ((Fil.at0 row.data.toList i + 256 - Fil.guess k (Fil.bk row.data.toList i s) (Fil.at0 ahead.data.toList i) (Fil.bk ahead.data.toList i s)) % 256)]) := rfl
      have hfl2 : Fil.guess k (Fil.bk row.data.toList i s) (Fil.at0 ahead.data.toList i) (Fil.bk ahead.data.toList i s) < 256 := hfl
      rw [toList_at row i hlt] at HX
      have hx := row[i].toNat_lt
      have hrl := Fil.row_length k row.data.toList ahead.data.toList s i
      generalize Fil.guess k (Fil.bk row.data.toList i s) (Fil.at0 ahead.data.toList i) (Fil.bk ahead.data.toList i s) = f at *
      generalize Fil.bk row.data.toList i s = xa at *
      generalize Fil.at0 ahead.data.toList i = xb at *
      generalize Fil.bk ahead.data.toList i s = xc at *
      obtain ⟨y, hy⟩ : ∃ y, y = (row[i].toNat + 256 - f) % 256 := ⟨_, rfl⟩
      rw [← hy] at HX
      have hyl : y < 256 := by omega
      have zy : ((row[i].toNat : Int) + 256 - (f : Int)) % 256 = (y : Int) := by omega
      have zyt : ((row[i].toNat : Int) + 256 - (f : Int)).tmod 256 = (y : Int) := by rw [Int.tmod_eq_emod_of_nonneg (by omega)]; exact zy
      have zw : IntKind.i64.wrap ((row[i].toNat : Int) + 256 - (f : Int)) = (row[i].toNat : Int) + 256 - (f : Int) := by rw [IntKind.wrap_i64]; omega
      clear hy hfl
      generalize Fil.row k row.data.toList ahead.data.toList s i = o at *
      have hos : (tx o).size = i := by rw [tx_size, hrl]
      have HT := hide (tx_push o y)
      rw [← unhide HX] at HT
      generalize tx o = os at *
      clear HX hrl
      go_wp2_with fail
      refine (unhide h1 _).mono ?_; rintro e w1 ⟨rfl, rfl⟩
      go_wp2_with fail
      refine (unhide h2 _).mono ?_; rintro e w1 ⟨rfl, rfl⟩
      go_wp2_with fail
      refine (unhide h3 _).mono ?_; rintro e w1 ⟨rfl, rfl⟩
      go_wp2_with fail
      refine (unhide h4 _).mono ?_; rintro e w1 ⟨rfl, rfl⟩
      go_wp2_with fail
      refine (byte_any y _ hyl).mono ?_; rintro e w2 ⟨rfl, hb2⟩
      have HB2 := hide ((unhide HB).trans (hb2.mono (unhide HB).size))
      clear hb2
      go_wp2
      go_roundw
      case rel => exact ⟨i + 1, by omega, by go_num, by rw [unhide HT], HB2⟩
      case measure => simp [intOf]; omega
    · have : i = row.size := by omega
      subst this
      have d1 : decide ((row.size : Int) < (row.size : Int)) = false := by simp
      go_wp2
      go_ret
      exact ⟨rfl, unhide HB⟩
end Go.Proofs.YtmmilamaahmaoafDoor
