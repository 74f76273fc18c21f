/- The statement on the bound of a packed text: the walk. -/
import Derived.Test.YtbbcfghlhgaofacDoorIn13
import Derived.Test.YtbbcfghlhgaofacDoorMg7
import Derived.Test.YtbbcfghlhgaofacDoorTab
namespace Go.Proofs.YtbbcfghlhgaofacDoor
open Go.RowKit Pm Cn Cd Nf


set_option maxHeartbeats 2000000 in
set_option maxRecDepth 100000 in
theorem inflateMost_any (s : ByteArray) (most : Int) (w : World) (a : Nat → Addr) (hS : Sent w a) (hG : GlS w a) (hn : 12 ≤ w.heap.size) (_hs : s.size ≤ maxLen) :
    Calls Tryd.prog 5 #[.string s, .int .i64 most] w fun e w' => e = .returned (.bool true) ∧ Below w.heap.size w w' := by
  have HL := hide (letter_any w hG hn)
  have HS := hide hS
  have HG := hide hG
  clear hS hG
  by_cases h0 : s.size ≤ 3000
  · have d0 : decide ((s.size : Int) > 3000) = false := by simp; omega
    have d0' : decide ((3000 : Int) < (s.size : Int)) = false := d0
    have d0n : decide (3000 < s.size) = false := by simp; omega
    go_enter Tryd.func5, Tryd.ntmps5
    go_wp2_with fail
    refine (unhide HL).mono ?_; rintro e w1 ⟨rfl, hb1⟩
    have hn1 : 12 ≤ w1.heap.size := Nat.le_trans hn hb1.size
    have hG1 := (unhide HG).below hb1 hn
    have HI := hide (inflate_any s most w1 hG1 hn1)
    have HG1 := hide hG1
    clear HL hG1
    go_wp2_with fail
    refine (unhide HI).mono ?_; rintro e w2 ⟨r, hr, rfl, hb2⟩
    have hn2 : 12 ≤ w2.heap.size := Nat.le_trans hn1 hb2.size
    have HG2 := hide ((unhide HG1).below hb2 hn1)
    have HB := hide (hb1.trans (hb2.mono hb1.size))
    have HS2 := hide (((unhide HS).below hb1).below hb2)
    clear hb1 hb2 HI HG1 HG HS
    rcases r with ⟨k, out⟩ | er
    · obtain ⟨m1, m2, m3, m4⟩ := inflS_most hr
      obtain ⟨tt, htt⟩ : ∃ tt : ByteArray, tt = ⟨out.toArray⟩ := ⟨_, rfl⟩
      have htz : tt.size = out.length := by rw [htt]; simp [ByteArray.size]
      obtain ⟨us, hus⟩ : ∃ us, us = (k + 7) / 8 := ⟨_, rfl⟩
      have hval : inflV 153 (.pointer (some (a 0))) (.pointer (some (a 1))) (.ok k out) = .tuple #[.string tt, .int .i64 (us : Nat), .nilIface] := by rw [htt, hus]; rfl
      rw [hval]
      have hrange : (out.length : Int) ≤ 300000 := by
        unfold inflS at hr
        split at hr
        · next q => omega
        · injection hr with hr; cases hr
      have HI2 := hide (inflate_any s (tt.size : Int) w2 (unhide HG2) hn2)
      have HM3 : Hid (inflS s (tt.size : Int) = some (.ok k out)) := by rw [htz]; exact m3
      have HM4 : Hid (out ≠ [] → inflS s ((tt.size : Int) - 1) = some (.err .bound)) := by rw [htz]; exact m4
      have d1 : decide ((tt.size : Int) > most) = false := by simp; omega
      have d1' : decide (most < (tt.size : Int)) = false := d1
      have d2 : decide ((us : Int) > (s.size : Int)) = false := by simp; omega
      have d2' : decide ((s.size : Int) < (us : Int)) = false := d2
      have d2n : decide (s.size < us) = false := by simp; omega
      have htl : tt.size ≤ 300000 := by omega
      have HV := hide hval
      have HTT := hide htt
      clear hr m1 m2 m3 m4 hval htz hus hrange htt
      go_wp2_with fail
      refine (unhide HI2).mono ?_; rintro e w3 ⟨r, hr, rfl, hb3⟩
      obtain rfl := Option.some.inj ((unhide HM3).symm.trans hr)
      rw [unhide HV]
      have hn3 : 12 ≤ w3.heap.size := Nat.le_trans hn2 hb3.size
      have HG3 := hide ((unhide HG2).below hb3 hn2)
      have HB3 := hide ((unhide HB).trans (hb3.mono (unhide HB).size))
      have HS3 := hide ((unhide HS2).below hb3)
      clear hb3 HI2 HM3 hr HV
      by_cases hne : out = []
      · have htt : tt = ⟨#[]⟩ := by rw [unhide HTT, hne]
        subst htt
        go_wp2
        go_ret
        exact ⟨rfl, unhide HB3⟩
      · have hq : tt.toList ≠ [] := fun q => hne (by
          have e := unhide HTT
          rw [ByteArray.toList_eq, e] at q
          simpa using q)
        have hq1 : (tt.toList == []) = false := beq_eq_false_iff_ne.2 hq
        have hq2 : tt.toList.isEmpty = false := by simpa using hq
        have hq3 : (tt.toList == (⟨#[]⟩ : ByteArray).toList) = false := by rw [ByteArray.toList_eq ⟨#[]⟩]; exact hq1
        have HI3 := hide (inflate_any s ((tt.size : Int) - 1) w3 (unhide HG3) hn3)
        have HM4 := hide (unhide HM4 hne)
        clear hq
        go_wp2_with fail
        refine (unhide HI3).mono ?_; rintro e w4 ⟨r, hr, rfl, hb4⟩
        obtain rfl := Option.some.inj ((unhide HM4).symm.trans hr)
        have HB4 := hide ((unhide HB3).trans (hb4.mono (unhide HB3).size))
        have HC := hide (coded_sent 1 2 w4 a ((unhide HS3).below hb4) (by omega) (by decide))
        have hval : inflV 153 (.pointer (some (a 0))) (.pointer (some (a 1))) (.err .bound) = .tuple #[.string ⟨#[]⟩, .int .i64 0, sentV a 1] := rfl
        rw [hval]
        generalize sentV a 1 = v1 at *
        clear hb4 HI3 HM4 hr hval
        go_wp2_with fail
        refine (unhide HC).mono ?_; rintro e w5 ⟨rfl, hb5⟩
        go_wp2
        go_ret
        exact ⟨rfl, (unhide HB4).trans (hb5.mono (unhide HB4).size)⟩
    · clear hr HG2 HS2
      cases er
      all_goals (
        unfold inflV
        go_wp2
        go_ret
        exact ⟨rfl, unhide HB⟩)
  · have d0 : decide ((s.size : Int) > 3000) = true := by simp; omega
    have d0' : decide ((3000 : Int) < (s.size : Int)) = true := d0
    have d0n : decide (3000 < s.size) = true := by simp; omega
    go_enter Tryd.func5, Tryd.ntmps5
    go_wp2_with fail
    refine (unhide HL).mono ?_; rintro e w1 ⟨rfl, hb1⟩
    go_wp2
    go_ret
    exact ⟨rfl, hb1⟩
end Go.Proofs.YtbbcfghlhgaofacDoor
