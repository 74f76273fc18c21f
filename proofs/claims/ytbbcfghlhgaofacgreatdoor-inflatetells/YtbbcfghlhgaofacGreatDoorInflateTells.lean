/- The statement on what any bytes mean: the walk. -/
import Derived.Test.YtbbcfghlhgaofacGreatDoorRf12
import Derived.Test.YtbbcfghlhgaofacGreatDoorMg19
namespace Go.Proofs.YtbbcfghlhgaofacGreatDoor
open Go.RowKit Pm Cn Cd Nf

theorem inflateOf_any (s : ByteArray) (most : Int) (w : World) (hs : s.size ≤ 3000) :
    Calls Tryz.prog 7 #[.string s, .int .i64 most] w fun e w' => ∃ r v, inflS s most = some r ∧ e = .returned (toldV r v) ∧ Below w.heap.size w w' := by
  by_cases hm : 0 ≤ most ∧ most ≤ 300000
  · obtain ⟨m, rfl⟩ := Int.eq_ofNat_of_zero_le hm.1
    refine (inflateOf_in s m w (by omega) hs).mono ?_
    rintro e w' ⟨r, v, hr, rfl, hb⟩
    refine ⟨r, v, ?_, rfl, hb⟩
    unfold inflS
    rw [if_pos ⟨hm.1, hm.2, by omega⟩]
    exact run_of hr
  · refine (inflateOf_out s most w hm).mono ?_
    rintro e w' ⟨v, rfl, hb⟩
    refine ⟨.err .bound, v, ?_, rfl, hb⟩
    unfold inflS
    rw [if_neg (fun h => hm ⟨h.1, h.2.1⟩)]

set_option maxHeartbeats 2000000 in
set_option maxRecDepth 100000 in
theorem inflateTells_any (s : ByteArray) (most : Int) (w : World) (a : Nat → Addr) (hS : Sent w a) (hG : GlS w a) (hn : 12 ≤ w.heap.size) (_hs : s.size ≤ maxLen) :
    Calls Tryz.prog 3 #[.string s, .int .i64 most] w fun e w' => e = .returned (.bool true) ∧ Below w.heap.size w w' := by
  have HL := hide (letter_any w hG hn)
  have HS := hide hS
  have HG := hide hG
  clear hS hG
  by_cases h0 : s.size ≤ 3000
  rotate_left
  · have d0 : decide ((s.size : Int) > 3000) = true := by simp; omega
    have d0' : decide ((3000 : Int) < (s.size : Int)) = true := d0
    have d0n : decide (3000 < s.size) = true := by simp; omega
    go_enter Tryz.func3, Tryz.ntmps3
    go_wp2_with fail
    refine (unhide HL).mono ?_; rintro e w1 ⟨rfl, hb1⟩
    go_wp2
    go_ret
    exact ⟨rfl, hb1⟩
  have d0 : decide ((s.size : Int) > 3000) = false := by simp; omega
  have d0' : decide ((3000 : Int) < (s.size : Int)) = false := d0
  have d0n : decide (3000 < s.size) = false := by simp; omega
  go_enter Tryz.func3, Tryz.ntmps3
  go_wp2_with fail
  refine (unhide HL).mono ?_; rintro e w1 ⟨rfl, hb1⟩
  have hn1 : 12 ≤ w1.heap.size := Nat.le_trans hn hb1.size
  have hG1 := (unhide HG).below hb1 hn
  have HI := hide (inflate_any s most w1 hG1 hn1)
  clear HL hG1
  go_wp2_with fail
  refine (unhide HI).mono ?_; rintro e w2 ⟨r, hr, rfl, hb2⟩
  have HO := hide (inflateOf_any s most w2 h0)
  have hb2w := hb1.trans (hb2.mono hb1.size)
  have HS2 := hide ((unhide HS).below hb2w)
  clear hb1 hb2 HI HG HS
  rcases r with ⟨k, out⟩ | er
  · obtain ⟨tt, htt⟩ : ∃ tt : ByteArray, tt = ⟨out.toArray⟩ := ⟨_, rfl⟩
    obtain ⟨us, hus⟩ : ∃ us, us = (k + 7) / 8 := ⟨_, rfl⟩
    have hval : inflV 153 (.pointer (some (a 0))) (.pointer (some (a 1))) (.ok k out) = .tuple #[.string tt, .int .i64 (us : Nat), .nilIface] := by rw [htt, hus]; rfl
    rw [hval]
    have HR := hide hr
    have HV : Hid (∀ a3 n3 c3 a4 n4 c4 a5 n5 c5 a6 n6 c6 a9 n9 c9 i7 i8, toldV (.ok k out) ⟨slc a3 n3 c3, slc a4 n4 c4, slc a5 n5 c5, slc a6 n6 c6, slc a9 n9 c9, i7, i8⟩ = .agg #[.string tt, .int .i64 (us : Nat), .int .i64 0, .slice a3 n3 c3, .slice a4 n4 c4, .slice a5 n5 c5, .slice a6 n6 c6, .int .i64 i7, .int .i64 i8, .slice a9 n9 c9]) := fun _ _ _ _ _ _ _ _ _ _ _ _ _ _ _ _ _ => by rw [htt, hus]; rfl
    clear hr hval htt hus
    go_wp2_with fail
    refine (unhide HO).mono ?_; rintro e w3 ⟨r, v, hr, rfl, hb3⟩
    obtain rfl := Option.some.inj ((unhide HR).symm.trans hr)
    rcases v with ⟨⟨_, a3, n3, c3, rfl⟩, ⟨_, a4, n4, c4, rfl⟩, ⟨_, a5, n5, c5, rfl⟩, ⟨_, a6, n6, c6, rfl⟩, ⟨_, a9, n9, c9, rfl⟩, i7, i8⟩
    rw [unhide HV]
    have HB3 := hide (hb2w.trans (hb3.mono hb2w.size))
    clear HO hr HV HR hb2w hb3
    have HB4 := hide ((unhide HB3).alloc (unhide HB3).size (.cells #[.string tt, .int .i64 (us : Nat), .int .i64 0, .slice a3 n3 c3, .slice a4 n4 c4, .slice a5 n5 c5, .slice a6 n6 c6, .int .i64 i7, .int .i64 i8, .slice a9 n9 c9] 30))
    go_wp2
    go_ret
    exact ⟨rfl, unhide HB4⟩
  · obtain ⟨c, i, hi, hv, hc⟩ : ∃ (c : Nat) (i : Nat), i < 9 ∧ inflV 153 (.pointer (some (a 0))) (.pointer (some (a 1))) (.err er) = .tuple #[.string ⟨#[]⟩, .int .i64 0, sentV a i] ∧ (c = eN er ∧ c = i + 1 ∧ (c = 1 ∨ c = 2)) := by
      cases er
      · exact ⟨1, 0, by omega, rfl, rfl, rfl, .inl rfl⟩
      · exact ⟨2, 1, by omega, rfl, rfl, rfl, .inr rfl⟩
    rw [hv]
    have HR := hide hr
    have HV : Hid (∀ a3 n3 c3 a4 n4 c4 a5 n5 c5 a6 n6 c6 a9 n9 c9 i7 i8, toldV (.err er) ⟨slc a3 n3 c3, slc a4 n4 c4, slc a5 n5 c5, slc a6 n6 c6, slc a9 n9 c9, i7, i8⟩ = .agg #[.string ⟨#[]⟩, .int .i64 0, .int .i64 (c : Nat), .slice a3 n3 c3, .slice a4 n4 c4, .slice a5 n5 c5, .slice a6 n6 c6, .int .i64 i7, .int .i64 i8, .slice a9 n9 c9]) := fun _ _ _ _ _ _ _ _ _ _ _ _ _ _ _ _ _ => by rw [hc.1]; rfl
    have hc1 := hc.2.1
    have hcp : 1 ≤ c := by omega
    have dc : decide ((c : Int) > 0) = true := by simp; omega
    have dc' : decide ((0 : Int) < (c : Int)) = true := dc
    have dcn : decide (0 < c) = true := by simp; omega
    have HC1 := hide hc1
    clear hr hv hc hc1
    obtain ⟨ev, hev⟩ : ∃ ev, ev = sentV a i := ⟨_, rfl⟩
    have HEV := hide hev
    rw [← hev]
    clear hev
    go_wp2_with fail
    refine (unhide HO).mono ?_; rintro e w3 ⟨r, v, hr, rfl, hb3⟩
    obtain rfl := Option.some.inj ((unhide HR).symm.trans hr)
    rcases v with ⟨⟨_, a3, n3, c3, rfl⟩, ⟨_, a4, n4, c4, rfl⟩, ⟨_, a5, n5, c5, rfl⟩, ⟨_, a6, n6, c6, rfl⟩, ⟨_, a9, n9, c9, rfl⟩, i7, i8⟩
    rw [unhide HV]
    have hb3w := hb2w.trans (hb3.mono hb2w.size)
    have HB4 := hide (hb3w.alloc hb3w.size (.cells #[.string ⟨#[]⟩, .int .i64 0, .int .i64 (c : Nat), .slice a3 n3 c3, .slice a4 n4 c4, .slice a5 n5 c5, .slice a6 n6 c6, .int .i64 i7, .int .i64 i8, .slice a9 n9 c9] 30))
    have HS4 := hide ((unhide HS2).below ((hb3.alloc hb3.size (.cells #[.string ⟨#[]⟩, .int .i64 0, .int .i64 (c : Nat), .slice a3 n3 c3, .slice a4 n4 c4, .slice a5 n5 c5, .slice a6 n6 c6, .int .i64 i7, .int .i64 i8, .slice a9 n9 c9] 30))))
    have HC : Hid (Calls Tryz.prog 8 #[ev, .int .i64 (c : Int)] (w3.alloc (.cells #[.string ⟨#[]⟩, .int .i64 0, .int .i64 (c : Nat), .slice a3 n3 c3, .slice a4 n4 c4, .slice a5 n5 c5, .slice a6 n6 c6, .int .i64 i7, .int .i64 i8, .slice a9 n9 c9] 30)) fun e w' => e = .returned (.bool true) ∧ Below (w3.alloc (.cells #[.string ⟨#[]⟩, .int .i64 0, .int .i64 (c : Nat), .slice a3 n3 c3, .slice a4 n4 c4, .slice a5 n5 c5, .slice a6 n6 c6, .int .i64 i7, .int .i64 i8, .slice a9 n9 c9] 30)).heap.size (w3.alloc (.cells #[.string ⟨#[]⟩, .int .i64 0, .int .i64 (c : Nat), .slice a3 n3 c3, .slice a4 n4 c4, .slice a5 n5 c5, .slice a6 n6 c6, .int .i64 i7, .int .i64 i8, .slice a9 n9 c9] 30)) w') := by
      show Calls _ _ _ _ _
      rw [unhide HEV]
      exact coded_sent i (c : Int) _ a (unhide HS4) hi (by have := unhide HC1; simp; omega)
    clear HO hr HV HR hb2w hb3 hb3w HS2 HS4 HEV
    go_wp2_with fail
    refine (unhide HC).mono ?_; rintro e w5 ⟨rfl, hb5⟩
    have HB5 := hide ((unhide HB4).trans (hb5.mono (unhide HB4).size))
    clear HC hb5 HB4
    go_wp2
    go_ret
    exact ⟨rfl, unhide HB5⟩
end Go.Proofs.YtbbcfghlhgaofacGreatDoor
