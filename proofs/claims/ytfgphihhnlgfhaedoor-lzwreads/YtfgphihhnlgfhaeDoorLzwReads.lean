/- The statement on what codes mean: the walk. -/
import Derived.Test.YtfgphihhnlgfhaeDoorLzo2
import Derived.Test.YtfgphihhnlgfhaeDoorCoded1
namespace Go.Proofs.YtfgphihhnlgfhaeDoor
open Go.RowKit Lz

theorem same_list (l : List UInt8) : (l == l) = true := by simp

set_option maxHeartbeats 2000000 in
set_option maxRecDepth 100000 in
theorem lzwReads_any (s : ByteArray) (width most : Int) (w : World) (a : Nat → Addr) (hS : Sent w a) (_hs : s.size ≤ maxLen) :
    Calls Tryd.prog 4 #[.string s, .int .i64 width, .int .i64 most] w fun e w' => e = .returned (.bool true) ∧ Below w.heap.size w w' := by
  have HE := hide (end_any w)
  have HS := hide hS
  clear hS
  by_cases h0 : s.size ≤ 2000
  rotate_left
  · have g1 : decide ((s.size : Int) > 2000) = true := by simp; omega
    have g1' : decide ((2000 : Int) < (s.size : Int)) = true := g1
    have g1n : decide (2000 < s.size) = true := by simp; omega
    go_enter Tryd.func4, Tryd.ntmps4
    go_wp2_with fail
    refine (unhide HE).mono ?_; rintro e w1 ⟨rfl, hb1⟩
    go_wp2
    go_ret
    exact ⟨rfl, hb1⟩
  have g1 : decide ((s.size : Int) > 2000) = false := by simp; omega
  have g1' : decide ((2000 : Int) < (s.size : Int)) = false := g1
  have g1n : decide (2000 < s.size) = false := by simp; omega
  have HUN : Hid (∀ w' : World, Below w.heap.size w w' → Calls Tryd.prog 13 #[.string s, .int .i64 width, .int .i64 most] w' fun e w'' => e = .returned (unV (sentV a 0) (sentV a 1) (unS s width most)) ∧ Below w'.heap.size w' w'') := fun w' hb =>
    unpackU_any s width most _ _ _ _ w' (((unhide HS).below hb).cell 0 (by omega)) (((unhide HS).below hb).cell 1 (by omega))
  have HOF := hide (fun w' => unlzwOf_any s width most w' h0)
  have HCT : Hid (∀ w' : World, Below w.heap.size w w' → Calls Tryd.prog 15 #[sentV a 0, .int .i64 1] w' fun e w'' => e = .returned (.bool true) ∧ Below w'.heap.size w' w'') := fun w' hb => coded_sent 0 1 w' a ((unhide HS).below hb) (by omega) (by decide)
  have HCB : Hid (∀ w' : World, Below w.heap.size w w' → Calls Tryd.prog 15 #[sentV a 1, .int .i64 2] w' fun e w'' => e = .returned (.bool true) ∧ Below w'.heap.size w' w'') := fun w' hb => coded_sent 1 2 w' a ((unhide HS).below hb) (by omega) (by decide)
  clear HS
  generalize sentV a 0 = eT at *
  generalize sentV a 1 = eB at *
  generalize hR : unS s width most = R at *
  clear hR
  go_enter Tryd.func4, Tryd.ntmps4
  go_wp2_with fail
  refine (unhide HE).mono ?_; rintro e w1 ⟨rfl, hb1⟩
  have HB1 := hide hb1
  have HX := hide (unhide HUN w1 hb1)
  clear HE hb1 HUN
  cases R with
  | text =>
    unfold unV at HX
    unfold unD at HOF
    go_wp2_with fail
    refine (unhide HX).mono ?_; rintro e w2 ⟨rfl, hb2⟩
    have HB2 := hide ((unhide HB1).trans (hb2.mono (unhide HB1).size))
    have HY := hide (unhide HOF w2)
    clear HX HB1 hb2 HOF
    go_wp2_with fail
    refine (unhide HY).mono ?_; rintro e w3 ⟨rfl, hb3⟩
    have HB3 := hide ((unhide HB2).trans (hb3.mono (unhide HB2).size))
    have HZ := hide (unhide HCT w3 (unhide HB3))
    clear HY HB2 hb3 HCT HCB
    go_wp2_with fail
    refine (unhide HZ).mono ?_; rintro e w4 ⟨rfl, hb4⟩
    have HB4 := hide ((unhide HB3).trans (hb4.mono (unhide HB3).size))
    clear HZ HB3 hb4
    go_wp2
    go_ret
    exact ⟨rfl, unhide HB4⟩
  | bound =>
    unfold unV at HX
    unfold unD at HOF
    go_wp2_with fail
    refine (unhide HX).mono ?_; rintro e w2 ⟨rfl, hb2⟩
    have HB2 := hide ((unhide HB1).trans (hb2.mono (unhide HB1).size))
    have HY := hide (unhide HOF w2)
    clear HX HB1 hb2 HOF
    go_wp2_with fail
    refine (unhide HY).mono ?_; rintro e w3 ⟨rfl, hb3⟩
    have HB3 := hide ((unhide HB2).trans (hb3.mono (unhide HB2).size))
    have HZ := hide (unhide HCB w3 (unhide HB3))
    clear HY HB2 hb3 HCT HCB
    go_wp2_with fail
    refine (unhide HZ).mono ?_; rintro e w4 ⟨rfl, hb4⟩
    have HB4 := hide ((unhide HB3).trans (hb4.mono (unhide HB3).size))
    clear HZ HB3 hb4
    go_wp2
    go_ret
    exact ⟨rfl, unhide HB4⟩
  | ok out k =>
    unfold unV at HX
    unfold unD at HOF
    have r3 := same_list (⟨out.toArray⟩ : ByteArray).toList
    generalize (⟨out.toArray⟩ : ByteArray) = T at *
    generalize (k + 7) / 8 = u at *
    go_wp2_with fail
    refine (unhide HX).mono ?_; rintro e w2 ⟨rfl, hb2⟩
    have HB2 := hide ((unhide HB1).trans (hb2.mono (unhide HB1).size))
    have HY := hide (unhide HOF w2)
    clear HX HB1 hb2 HOF
    go_wp2_with fail
    refine (unhide HY).mono ?_; rintro e w3 ⟨rfl, hb3⟩
    have HB3 := hide ((unhide HB2).trans (hb3.mono (unhide HB2).size))
    clear HY HB2 hb3 HCT HCB
    go_wp2
    go_ret
    exact ⟨rfl, unhide HB3⟩
end Go.Proofs.YtfgphihhnlgfhaeDoor
