/- Walks of the statement on bits of any text. -/
import Derived.Test.YtpdbkolbbkbbnabDoorBG2
import Derived.Test.YtpdbkolbbkbbnabDoorRD2
import Derived.Test.YtpdbkolbbkbbnabDoorCoded1
import Derived.Test.YtpdbkolbbkbbnabDoorNs
namespace Go.Proofs.YtpdbkolbbkbbnabDoor
open Go.RowKit

theorem sent_at1 {w : World} {a : Nat → Addr} (hS : Sent w a) : w.cell? ⟨0, 0, none⟩ = some (sentV a 1) := by
  have c1 := hS.cell 1 (by decide)
  simpa only [sentAt, List.getD_cons_zero, List.getD_cons_succ] using c1
theorem sent_at0 {w : World} {a : Nat → Addr} (hS : Sent w a) : w.cell? ⟨1, 0, none⟩ = some (sentV a 0) := by
  have c1 := hS.cell 0 (by decide)
  simpa only [sentAt, List.getD_cons_zero, List.getD_cons_succ] using c1

set_option maxHeartbeats 4000000 in
set_option maxRecDepth 100000 in
theorem bitsGet_short (s : ByteArray) (lb off len cap : Nat) (z : Nat → Int) (w : World) (a : Nat → Addr) (hS : Sent w a) (hs : s.size ≤ 500) (hlen : len ≤ 100)
    (hP : ∀ i, i < len → w.cell? ⟨lb, off + i, none⟩ = some (.int .i64 (z i)) ∧ -9223372036854775808 ≤ z i ∧ z i ≤ 9223372036854775807) :
    Calls Tryd.prog 4 #[.string s, .slice (some ⟨lb, off, none⟩) len cap] w fun e w' => e = .returned (.bool true) ∧ Below w.heap.size w w' := by
  have HS := hide hS
  have HP := hide hP
  clear hS hP
  have hd0 : decide ((500 : Int) < (s.size : Int)) = false := by simp; omega
  have hd1 : decide ((100 : Int) < (len : Int)) = false := by simp; omega
  go_enter Tryd.func4, Tryd.ntmps4
  go_wp2_with fail
  refine (three_any _).mono ?_; rintro e w1 ⟨rfl, hb1⟩
  go_wp2_with fail
  refine (newReader_any s _ (by omega)).mono ?_; rintro e w2 ⟨rfl, hR2, hb2⟩
  go_wp2_with fail
  refine (bits_any s _ (by omega)).mono ?_; rintro e w3 ⟨rfl, hb3⟩
  have HR3 := hide (hR2.below hb3)
  have k2 := hb1.trans (hb2.mono hb1.size)
  have k3 := k2.trans (hb3.mono k2.size)
  have hsz := hb1.size
  clear hR2 hb1 hb2 hb3 k2
  generalize w1.heap.size = p at *
  have hall := bt_size (8 * s.size) (tv s)
  have halli : ((bt (8 * s.size) (tv s)).size : Int) = 8 * (s.size : Int) := by omega
  have Hext := hide (bt_cut (8 * s.size) (tv s))
  generalize bt (8 * s.size) (tv s) = al at *
  clear hall
  go_wp2
  go_loopw [4, 8, 9] (fun r t i wr => ∃ k c : Nat, k ≤ len ∧ c ≤ 8 * s.size ∧ i = .int .i64 k ∧ t = .int .i64 c ∧ RAt wr p s c ∧ Below w.heap.size w wr) (fun _ _ i _ => len - (intOf i).toNat)
  case atStart => exact ⟨0, 0, by omega, by omega, rfl, rfl, unhide HR3, k3⟩
  case round =>
    obtain ⟨k, c, hk, hc, rfl, rfl, hR, hb⟩ := hrel
    have HR := hide hR
    clear hR
    by_cases hlt : k < len
    · have hdk : decide ((k : Int) < (len : Int)) = true := by simp; omega
      obtain ⟨c0, hw1, hw2⟩ := unhide HP k hlt
      have hll : lb < w.heap.size := World.block_lt_of_cell? _ _ c0
      rw [← hb.cell (p := ⟨lb, off + k, none⟩) hll] at c0
      have hllw := Nat.lt_of_lt_of_le hll hb.size
      have HSr := hide ((unhide HS).below hb)
      obtain ⟨lf, hlf⟩ : ∃ lf, lf + c = 8 * s.size := ⟨8 * s.size - c, by omega⟩
      have hlfi : 8 * (s.size : Int) - (c : Int) = (lf : Int) := by omega
      have Hlf := hide hlf
      clear hlf
      generalize z k = d at *
      by_cases h1 : d = -1
      · subst h1
        obtain ⟨c', hc'⟩ : ∃ c', c' = 8 * ((c + 7) / 8) := ⟨_, rfl⟩
        have hci : ((c : Int) + 7) / 8 * 8 = (c' : Int) := by omega
        have hcl : c' ≤ 8 * s.size := by omega
        obtain ⟨lf', hlf'⟩ : ∃ lf, lf + c' = 8 * s.size := ⟨8 * s.size - c', by omega⟩
        have hlfi' : 8 * (s.size : Int) - (c' : Int) = (lf' : Int) := by omega
        have Hlf' := hide hlf'
        have Hal := hide (ralign_any p c s wr (unhide HR))
        rw [← hc'] at Hal
        clear hlf' hc'
        go_wp2_with fail
        refine (unhide Hal).mono ?_; rintro e w4 ⟨rfl, hR4, hb4⟩
        have HR4 := hide hR4
        have k4 := hb.trans (hb4.mono hsz)
        clear hR4 hb4 Hal
        go_wp2_with fail
        refine (at_any p c' s _ (unhide HR4)).mono ?_; rintro e w5 ⟨rfl, rfl⟩
        go_wp2_with fail
        refine (left_any p c' lf' s _ (unhide HR4) (unhide Hlf')).mono ?_; rintro e w6 ⟨rfl, hb6⟩
        have HR6 := hide ((unhide HR4).below hb6)
        have k6 := k4.trans (hb6.mono k4.size)
        clear hb6
        go_wp2
        go_roundw
        case rel => exact ⟨k + 1, c', by omega, hcl, by go_num, rfl, unhide HR6, k6⟩
        case measure => simp [intOf]; omega
      have hd2 : (d == -1) = false := by simpa using h1
      by_cases h2 : d < 0 ∨ 32 < d
      · by_cases h20 : d < 0
        · have hd3 : decide (d < 0) = true := by simp; omega
          go_wp2_with fail
          refine (get_bound p c d s _ _ (unhide HR) h2 (sent_at1 (unhide HSr))).mono ?_; rintro e w4 ⟨rfl, hR4, hb4⟩
          have HR4 := hide hR4
          have c0' := (hb4.cell (p := ⟨lb, off + k, none⟩) hllw).trans c0
          have HS4 := hide ((unhide HSr).below hb4)
          have k4 := hb.trans (hb4.mono hb.size)
          clear hR4 hb4
          go_wp2_with fail
          refine (coded_sent 1 2 _ a (unhide HS4) (by decide) rfl).mono ?_; rintro e w5 ⟨rfl, hb5⟩
          have HR5 := hide ((unhide HR4).below hb5)
          have k5 := k4.trans (hb5.mono k4.size)
          clear hb5
          go_wp2_with fail
          refine (at_any p c s _ (unhide HR5)).mono ?_; rintro e w8 ⟨rfl, rfl⟩
          go_wp2_with fail
          refine (left_any p c lf s _ (unhide HR5) (unhide Hlf)).mono ?_; rintro e w9 ⟨rfl, hb9⟩
          have HR9 := hide ((unhide HR5).below hb9)
          have k9 := k5.trans (hb9.mono k5.size)
          clear hb9
          go_wp2
          go_roundw
          case rel => exact ⟨k + 1, c, by omega, hc, by go_num, rfl, unhide HR9, k9⟩
          case measure => simp [intOf]; omega
        · have hd3 : decide (d < 0) = false := by simp; omega
          have hd4 : decide (32 < d) = true := by simp; omega
          go_wp2_with fail
          refine (get_bound p c d s _ _ (unhide HR) h2 (sent_at1 (unhide HSr))).mono ?_; rintro e w4 ⟨rfl, hR4, hb4⟩
          have HR4 := hide hR4
          have c0' := (hb4.cell (p := ⟨lb, off + k, none⟩) hllw).trans c0
          have HS4 := hide ((unhide HSr).below hb4)
          have k4 := hb.trans (hb4.mono hb.size)
          clear hR4 hb4
          go_wp2_with fail
          refine (coded_sent 1 2 _ a (unhide HS4) (by decide) rfl).mono ?_; rintro e w5 ⟨rfl, hb5⟩
          have HR5 := hide ((unhide HR4).below hb5)
          have k5 := k4.trans (hb5.mono k4.size)
          clear hb5
          go_wp2_with fail
          refine (at_any p c s _ (unhide HR5)).mono ?_; rintro e w8 ⟨rfl, rfl⟩
          go_wp2_with fail
          refine (left_any p c lf s _ (unhide HR5) (unhide Hlf)).mono ?_; rintro e w9 ⟨rfl, hb9⟩
          have HR9 := hide ((unhide HR5).below hb9)
          have k9 := k5.trans (hb9.mono k5.size)
          clear hb9
          go_wp2
          go_roundw
          case rel => exact ⟨k + 1, c, by omega, hc, by go_num, rfl, unhide HR9, k9⟩
          case measure => simp [intOf]; omega
      obtain ⟨j, rfl⟩ := Int.eq_ofNat_of_zero_le (show 0 ≤ d by omega)
      have hj : j ≤ 32 := by omega
      have hd3 : decide ((j : Int) < 0) = false := by simp
      have hd4 : decide (32 < (j : Int)) = false := by simp; omega
      by_cases h3 : 8 * s.size < c + j
      · have hd5 : decide (8 * (s.size : Int) < (c : Int) + (j : Int)) = true := by simp; omega
        go_wp2_with fail
        refine (get_text p c j s _ _ (unhide HR) hj h3 (sent_at0 (unhide HSr))).mono ?_; rintro e w4 ⟨rfl, hR4, hb4⟩
        have HR4 := hide hR4
        have c0' := (hb4.cell (p := ⟨lb, off + k, none⟩) hllw).trans c0
        have HS4 := hide ((unhide HSr).below hb4)
        have k4 := hb.trans (hb4.mono hb.size)
        clear hR4 hb4
        go_wp2_with fail
        refine (coded_sent 0 1 _ a (unhide HS4) (by decide) rfl).mono ?_; rintro e w5 ⟨rfl, hb5⟩
        have HR5 := hide ((unhide HR4).below hb5)
        have k5 := k4.trans (hb5.mono k4.size)
        clear hb5
        go_wp2_with fail
        refine (at_any p c s _ (unhide HR5)).mono ?_; rintro e w8 ⟨rfl, rfl⟩
        go_wp2_with fail
        refine (left_any p c lf s _ (unhide HR5) (unhide Hlf)).mono ?_; rintro e w9 ⟨rfl, hb9⟩
        have HR9 := hide ((unhide HR5).below hb9)
        have k9 := k5.trans (hb9.mono k5.size)
        clear hb9
        go_wp2
        go_roundw
        case rel => exact ⟨k + 1, c, by omega, hc, by go_num, rfl, unhide HR9, k9⟩
        case measure => simp [intOf]; omega
      have hd5 : decide (8 * (s.size : Int) < (c : Int) + (j : Int)) = false := by simp; omega
      have Hg := hide (get_yes p c j s wr (unhide HR) hj (by omega))
      have Hlow := hide (fun w' => lowOf_any j (tv s / 2 ^ c) w' hj)
      have Hcut := hide (unhide Hext c j (by omega))
      obtain ⟨lf', hlf'⟩ : ∃ lf, lf + (c + j) = 8 * s.size := ⟨8 * s.size - (c + j), by omega⟩
      have hlfi' : 8 * (s.size : Int) - ((c : Int) + (j : Int)) = (lf' : Int) := by omega
      have Hlf' := hide hlf'
      have hcj : c + j ≤ 8 * s.size := by omega
      clear hlf'
      generalize tv s / 2 ^ c % 2 ^ j = G at *
      go_wp2_with fail
      refine (unhide Hg).mono ?_; rintro e w4 ⟨rfl, hR4, hb4⟩
      have HR4 := hide hR4
      have c0' := (hb4.cell (p := ⟨lb, off + k, none⟩) (by show lb < p; omega)).trans c0
      have k4 := hb.trans (hb4.mono hsz)
      clear hR4 hb4 Hg
      go_wp2_with fail
      rw [unhide Hcut]
      refine (unhide Hlow _).mono ?_; rintro e w5 ⟨rfl, rfl⟩
      go_wp2_with fail
      refine (at_any p (c + j) s _ (unhide HR4)).mono ?_; rintro e w8 ⟨rfl, rfl⟩
      go_wp2_with fail
      refine (left_any p (c + j) lf' s _ (unhide HR4) (unhide Hlf')).mono ?_; rintro e w9 ⟨rfl, hb9⟩
      have HR9 := hide ((unhide HR4).below hb9)
      have k9 := k4.trans (hb9.mono k4.size)
      clear hb9
      go_wp2
      go_roundw
      case rel => exact ⟨k + 1, (c + j), by omega, hcj, by go_num, by go_num, unhide HR9, k9⟩
      case measure => simp [intOf]; omega
    · have : k = len := by omega
      subst this
      have hdk : decide ((k : Int) < (k : Int)) = false := by simp
      go_wp2
      go_ret
      exact ⟨rfl, hb⟩
end Go.Proofs.YtpdbkolbbkbbnabDoor
