/- Walks of the statement on sums of texts, joined. -/
import Derived.Test.YtclkfjbkffcgcaaDoorJoin2
import Derived.Test.YtclkfjbkffcgcaaDoorCoded1
namespace Go.Proofs.YtclkfjbkffcgcaaDoor
open Go.RowKit

theorem crcOf_join (a b : List UInt8) : Crc.steps (8 * b.length) (crcOf a) ^^^ crcOf b = crcOf (a ++ b) := by
  rw [← crcOf_append, Crc.run_eq]
  conv => rhs; rw [show 4294967295 ^^^ crcOf a ^^^ Crc.num b = crcOf a ^^^ (4294967295 ^^^ Crc.num b) from by rw [Nat.xor_comm 4294967295, Nat.xor_assoc], Crc.steps_xor, ← Crc.run_eq]
  unfold crcOf
  rw [← Nat.xor_assoc, ← Nat.xor_assoc, Nat.xor_comm 4294967295 (Crc.steps _ _)]

set_option maxHeartbeats 2000000 in
set_option maxRecDepth 100000 in
theorem sumJoins_short (s t : ByteArray) (x y : Nat) (n : Int) (w : World) (a : Nat → Addr) (hS : Sent w a) (hs : s.size ≤ 2000) (ht : t.size ≤ 2000) (hx : x < 4294967296) (hy : y < 4294967296) :
    Calls Tryd.prog 4 #[.string s, .string t, .int .u32 (x : Int), .int .u32 (y : Int), .int .i64 n] w fun e w' => e = .returned (.bool true) ∧ Below w.heap.size w w' := by
  have HS := hide hS
  clear hS
  have hda : decide ((2000 : Int) < (s.size : Int)) = false := by simp; omega
  have hdb : decide ((2000 : Int) < (t.size : Int)) = false := by simp; omega
  have hma : s.size ≤ maxLen := by unfold maxLen; omega
  have hmb : t.size ≤ maxLen := by unfold maxLen; omega
  have hab : (s ++ t).size ≤ maxLen := by rw [ByteArray.size_append]; unfold maxLen; omega
  have hjoin : (s ++ t).data.toList = s.data.toList ++ t.data.toList := by simp
  have hlen : t.data.toList.length = t.size := by simp
  have Hc := hide (show Crc.steps (8 * t.size) (crcOf s.data.toList) ^^^ crcOf t.data.toList = crcOf (s ++ t).data.toList by rw [hjoin, ← hlen]; exact crcOf_join _ _)
  have Ha := hide (show Ad.joinOf (Ad.more 1 s.data.toList) (Ad.more 1 t.data.toList) t.size = Ad.more 1 (s ++ t).data.toList by rw [hjoin, ← hlen]; exact Ad.joinOf_texts _ _)
  clear hjoin hlen
  go_enter Tryd.func4, Tryd.ntmps4
  go_wp2_with fail
  refine (known_any _).mono ?_; rintro e w1 ⟨rfl, hb1⟩
  go_wp2_with fail
  refine (crc_any _ _ hma).mono ?_; rintro e w2 ⟨rfl, hb2⟩
  go_wp2_with fail
  refine (crc_any _ _ hmb).mono ?_; rintro e w3 ⟨rfl, hb3⟩
  go_wp2_with fail
  refine (joinCRC_yes _ _ t.size _ (crcOf_lt _) (crcOf_lt _) (by omega)).mono ?_; rintro e w4 ⟨rfl, rfl⟩
  rw [unhide Hc]
  go_wp2_with fail
  refine (adler_any _ _ hma).mono ?_; rintro e w5 ⟨rfl, rfl⟩
  go_wp2_with fail
  refine (adler_any _ _ hmb).mono ?_; rintro e w6 ⟨rfl, rfl⟩
  go_wp2_with fail
  refine (joinAdler_yes _ _ t.size _ (Ad.more_lt _ _) (Ad.more_lt _ _) (by omega)).mono ?_; rintro e w7 ⟨rfl, rfl⟩
  rw [unhide Ha]
  go_wp2_with fail
  refine (refCRC_any _ _ hab).mono ?_; rintro e w8 ⟨rfl, rfl⟩
  go_wp2_with fail
  refine (refAdler_any _ _ hab).mono ?_; rintro e w9 ⟨rfl, rfl⟩
  have h2 := hb1.trans (hb2.mono hb1.size)
  have h3 := h2.trans (hb3.mono h2.size)
  have HS3 := hide ((unhide HS).below h3)
  clear hb1 hb2 hb3 h2 HS Ha Hc
  by_cases h0 : n < 0
  · have hd0 : decide (n < 0) = true := by simp; omega
    have hn : n < 0 ∨ 1099511627776 < n := Or.inl h0
    go_wp2_with fail
    refine (joinCRC_no _ _ n _ a (unhide HS3) hn).mono ?_; rintro e w10 ⟨rfl, hb10⟩
    have HS4 := hide ((unhide HS3).below hb10)
    go_wp2_with fail
    refine (joinAdler_no _ _ n _ a (unhide HS4) hn).mono ?_; rintro e w11 ⟨rfl, hb11⟩
    have HS5 := hide ((unhide HS4).below hb11)
    clear HS4
    go_wp2_with fail
    refine (coded_sent 1 2 _ a (unhide HS5) (by decide) rfl).mono ?_; rintro e w12 ⟨rfl, hb12⟩
    have HS6 := hide ((unhide HS5).below hb12)
    clear HS5
    go_wp2_with fail
    refine (coded_sent 1 2 _ a (unhide HS6) (by decide) rfl).mono ?_; rintro e w13 ⟨rfl, hb13⟩
    go_wp2
    go_ret
    have k10 := h3.trans (hb10.mono h3.size)
    have k11 := k10.trans (hb11.mono k10.size)
    have k12 := k11.trans (hb12.mono k11.size)
    exact ⟨rfl, k12.trans (hb13.mono k12.size)⟩
  have hd0 : decide (n < 0) = false := by simp; omega
  by_cases h1 : 1099511627776 < n
  · have hd1 : decide (1099511627776 < n) = true := by simp; omega
    have hn : n < 0 ∨ 1099511627776 < n := Or.inr h1
    go_wp2_with fail
    refine (joinCRC_no _ _ n _ a (unhide HS3) hn).mono ?_; rintro e w10 ⟨rfl, hb10⟩
    have HS4 := hide ((unhide HS3).below hb10)
    go_wp2_with fail
    refine (joinAdler_no _ _ n _ a (unhide HS4) hn).mono ?_; rintro e w11 ⟨rfl, hb11⟩
    have HS5 := hide ((unhide HS4).below hb11)
    clear HS4
    go_wp2_with fail
    refine (coded_sent 1 2 _ a (unhide HS5) (by decide) rfl).mono ?_; rintro e w12 ⟨rfl, hb12⟩
    have HS6 := hide ((unhide HS5).below hb12)
    clear HS5
    go_wp2_with fail
    refine (coded_sent 1 2 _ a (unhide HS6) (by decide) rfl).mono ?_; rintro e w13 ⟨rfl, hb13⟩
    go_wp2
    go_ret
    have k10 := h3.trans (hb10.mono h3.size)
    have k11 := k10.trans (hb11.mono k10.size)
    have k12 := k11.trans (hb12.mono k11.size)
    exact ⟨rfl, k12.trans (hb13.mono k12.size)⟩
  have hd1 : decide (1099511627776 < n) = false := by simp; omega
  obtain ⟨m, rfl⟩ := Int.eq_ofNat_of_zero_le (show 0 ≤ n by omega)
  have hm : m ≤ 1099511627776 := by omega
  clear HS3 h0 h1
  by_cases h2 : 3000 < m
  · have hd2 : decide ((3000 : Int) < (m : Int)) = true := by simp; omega
    go_wp2_with fail
    refine (joinCRC_yes x y m _ hx hy hm).mono ?_; rintro e w10 ⟨rfl, rfl⟩
    go_wp2_with fail
    refine (joinAdler_yes x y m _ hx hy hm).mono ?_; rintro e w11 ⟨rfl, rfl⟩
    go_wp2_with fail
    refine (joinAdlerOf_any x y m _ hx hy hm).mono ?_; rintro e w12 ⟨rfl, rfl⟩
    go_wp2
    go_ret
    exact ⟨rfl, h3⟩
  · have hd2 : decide ((3000 : Int) < (m : Int)) = false := by simp; omega
    go_wp2_with fail
    refine (joinCRC_yes x y m _ hx hy hm).mono ?_; rintro e w10 ⟨rfl, rfl⟩
    go_wp2_with fail
    refine (joinAdler_yes x y m _ hx hy hm).mono ?_; rintro e w11 ⟨rfl, rfl⟩
    go_wp2_with fail
    refine (joinAdlerOf_any x y m _ hx hy hm).mono ?_; rintro e w12 ⟨rfl, rfl⟩
    go_wp2_with fail
    refine (joinCRCOf_any x y m _ hx hy (by omega)).mono ?_; rintro e w13 ⟨rfl, rfl⟩
    go_wp2
    go_ret
    exact ⟨by simp, h3⟩

set_option maxHeartbeats 400000 in
theorem sumJoins_any (s t : ByteArray) (x y : Nat) (n : Int) (w : World) (a : Nat → Addr) (hS : Sent w a) (hms : s.size ≤ maxLen) (hmt : t.size ≤ maxLen) (hx : x < 4294967296) (hy : y < 4294967296) :
    Calls Tryd.prog 4 #[.string s, .string t, .int .u32 (x : Int), .int .u32 (y : Int), .int .i64 n] w fun e w' => e = .returned (.bool true) ∧ Below w.heap.size w w' := by
  unfold maxLen at hms hmt
  by_cases hs : s.size ≤ 2000
  · by_cases ht : t.size ≤ 2000
    · exact sumJoins_short s t x y n w a hS hs ht hx hy
    · have hda : decide ((2000 : Int) < (s.size : Int)) = false := by simp; omega
      have hdb : decide ((2000 : Int) < (t.size : Int)) = true := by simp; omega
      clear hS
      go_enter Tryd.func4, Tryd.ntmps4
      go_wp2_with fail
      refine (known_any _).mono ?_; rintro e w1 ⟨rfl, hb1⟩
      go_wp2
      go_ret
      exact ⟨rfl, hb1⟩
  · have hda : decide ((2000 : Int) < (s.size : Int)) = true := by simp; omega
    clear hS
    go_enter Tryd.func4, Tryd.ntmps4
    go_wp2_with fail
    refine (known_any _).mono ?_; rintro e w1 ⟨rfl, hb1⟩
    go_wp2
    go_ret
    exact ⟨rfl, hb1⟩
end Go.Proofs.YtclkfjbkffcgcaaDoor
