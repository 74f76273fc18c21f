/- The statement on texts in parts: the walk. -/
import Derived.Test.YtfgphihhnlgfhaeDoorLz2
import Derived.Test.YtfgphihhnlgfhaeDoorLzp
import Derived.Test.YtfgphihhnlgfhaeDoorCoded1
namespace Go.Proofs.YtfgphihhnlgfhaeDoor
open Go.RowKit Lz

theorem joined (s more : ByteArray) : joinL ((⟨(blocksL s.size s.data.toList).toArray⟩ : ByteArray) ++ more).size ((⟨(blocksL s.size s.data.toList).toArray⟩ : ByteArray) ++ more).data.toList = some (s.data.toList, (blocksL s.size s.data.toList).length) := by
  rw [ByteArray.data_append, Array.toList_append]
  refine join_blocks s.size s.data.toList more.data.toList _ (by rw [size_list]; exact Nat.le_refl _) ?_
  rw [List.length_append, ByteArray.size_append, size_list]
  exact Nat.le_refl _

theorem refl_list (l : List UInt8) : (l == l) = true := by simp

set_option maxHeartbeats 2000000 in
set_option maxRecDepth 100000 in
theorem lzwBlocks_any (s more : ByteArray) (w : World) (a : Nat → Addr) (hS : Sent w a) (_hs : s.size ≤ maxLen) (_hm : more.size ≤ maxLen) :
    Calls Tryd.prog 6 #[.string s, .string more] w fun e w' => e = .returned (.bool true) ∧ Below w.heap.size w w' := by
  have HE := hide (end_any w)
  have HS := hide hS
  clear hS
  by_cases h0 : s.size ≤ 2000
  rotate_left
  · have g1 : decide ((s.size : Int) > 2000) = true := by simp; omega
    have g1' : decide ((2000 : Int) < (s.size : Int)) = true := g1
    have g1n : decide (2000 < s.size) = true := by simp; omega
    go_enter Tryd.func6, Tryd.ntmps6
    go_wp2_with fail
    refine (unhide HE).mono ?_; rintro e w1 ⟨rfl, hb1⟩
    go_wp2
    go_ret
    exact ⟨rfl, hb1⟩
  have g1 : decide ((s.size : Int) > 2000) = false := by simp; omega
  have g1' : decide ((2000 : Int) < (s.size : Int)) = false := g1
  have g1n : decide (2000 < s.size) = false := by simp; omega
  by_cases h1 : more.size ≤ 2000
  rotate_left
  · have g2 : decide ((more.size : Int) > 2000) = true := by simp; omega
    have g2' : decide ((2000 : Int) < (more.size : Int)) = true := g2
    have g2n : decide (2000 < more.size) = true := by simp; omega
    go_enter Tryd.func6, Tryd.ntmps6
    go_wp2_with fail
    refine (unhide HE).mono ?_; rintro e w1 ⟨rfl, hb1⟩
    go_wp2
    go_ret
    exact ⟨rfl, hb1⟩
  have g2 : decide ((more.size : Int) > 2000) = false := by simp; omega
  have g2' : decide ((2000 : Int) < (more.size : Int)) = false := g2
  have g2n : decide (2000 < more.size) = false := by simp; omega
  have hJ := joined s more
  have hlen : (blocksL s.size s.data.toList).length ≤ 4001 := by
    have := blocksL_length s.size s.data.toList
    rw [size_list] at this
    omega
  have hbe : (⟨s.data.toList.toArray⟩ : ByteArray) = s := by cases s; simp
  have HBL := hide (fun w => blocks_any s w h0)
  have HBO := hide (fun w => blocksOf_any s w h0)
  have hBsz : (⟨(blocksL s.size s.data.toList).toArray⟩ : ByteArray).size = (blocksL s.size s.data.toList).length := by
    show (blocksL s.size s.data.toList).toArray.size = _
    simp
  generalize hBG : (blocksL s.size s.data.toList).length = bl at *
  generalize (⟨(blocksL s.size s.data.toList).toArray⟩ : ByteArray) = B at *
  have hBm : (B ++ more).size = bl + more.size := by rw [ByteArray.size_append, hBsz]
  have n1 : ¬ (9223372036854775807 < B.size + more.size) := by omega
  have HJN : Hid (∀ w' : World, Below w.heap.size w w' → Calls Tryd.prog 18 #[.string (B ++ more)] w' fun e w'' => e = .returned (.tuple #[.string s, .int .i64 (bl : Int), .nilIface]) ∧ Below w'.heap.size w' w'') := fun w' hb => by
    have := join_any (B ++ more) (sentV a 0) w' (by omega) ((hb.cell (cell_block ((unhide HS).cell 0 (by omega)))).trans ((unhide HS).cell 0 (by omega)))
    rw [hJ] at this
    refine this.mono ?_
    rintro e w'' ⟨rfl, hb2⟩
    refine ⟨?_, hb2⟩
    show Ending.returned (.tuple #[.string ⟨s.data.toList.toArray⟩, .int .i64 (bl : Int), .nilIface]) = _
    rw [hbe]
  have HJM : Hid (∀ w' : World, Below w.heap.size w w' → Calls Tryd.prog 18 #[.string more] w' fun e w'' => e = .returned (joinV (sentV a 0) (joinL more.size more.data.toList)) ∧ Below w'.heap.size w' w'') := fun w' hb => join_any more (sentV a 0) w' (by omega) ((hb.cell (cell_block ((unhide HS).cell 0 (by omega)))).trans ((unhide HS).cell 0 (by omega)))
  have HJO := hide (fun w => joinOf_any more w (by omega))
  have HCD : Hid (∀ w' : World, Below w.heap.size w w' → Calls Tryd.prog 15 #[sentV a 0, .int .i64 1] w' fun e w'' => e = .returned (.bool true) ∧ Below w'.heap.size w' w'') := fun w' hb => coded_sent 0 1 w' a ((unhide HS).below hb) (by omega) (by decide)
  have r1 := refl_list B.toList
  have r2 := refl_list s.toList
  have HBS := hide hBsz
  clear hJ hBG hbe HS hBm hBsz
  go_enter Tryd.func6, Tryd.ntmps6
  go_wp2_with fail
  refine (unhide HE).mono ?_; rintro e w1 ⟨rfl, hb1⟩
  have HB1 := hide hb1
  have HX := hide (unhide HBL w1)
  clear HE hb1
  go_wp2_with fail
  refine (unhide HX).mono ?_; rintro e w2 ⟨rfl, hb2⟩
  have HB2 := hide ((unhide HB1).trans (hb2.mono (unhide HB1).size))
  clear HX HB1 hb2
  have HX := hide (unhide HBO w2)
  go_wp2_with fail
  refine (unhide HX).mono ?_; rintro e w3 ⟨rfl, hb3⟩
  have HB3 := hide ((unhide HB2).trans (hb3.mono (unhide HB2).size))
  clear HX HB2 hb3 HBO
  have HX := hide (unhide HBL w3)
  go_wp2_with fail
  refine (unhide HX).mono ?_; rintro e w4 ⟨rfl, hb4⟩
  have HB4 := hide ((unhide HB3).trans (hb4.mono (unhide HB3).size))
  clear HX HB3 hb4
  have HX := hide (unhide HJN w4 (unhide HB4))
  go_wp2_with fail
  refine (unhide HX).mono ?_; rintro e w5 ⟨rfl, hb5⟩
  have HB5 := hide ((unhide HB4).trans (hb5.mono (unhide HB4).size))
  clear HX HB4 hb5 HJN
  have HX := hide (unhide HBL w5)
  go_wp2_with fail
  refine (unhide HX).mono ?_; rintro e w6 ⟨rfl, hb6⟩
  have HB6 := hide ((unhide HB5).trans (hb6.mono (unhide HB5).size))
  clear HX HB5 hb6 HBL
  have hBsz := unhide HBS
  have HX := hide (unhide HJM w6 (unhide HB6))
  go_wp2_with fail
  refine (unhide HX).mono ?_; rintro e w7 ⟨rfl, hb7⟩
  have HB7 := hide ((unhide HB6).trans (hb7.mono (unhide HB6).size))
  clear HX HB6 hb7 HJM
  have HX := hide (unhide HJO w7)
  cases hj : joinL more.size more.data.toList with
  | none =>
    rw [hj] at HX
    unfold joinV joinD at *
    have HC := hide (unhide HCD w7 (unhide HB7))
    generalize sentV a 0 = ev at *
    go_wp2_with fail
    refine (unhide HX).mono ?_; rintro e w8 ⟨rfl, rfl⟩
    clear HX HJO
    go_wp2_with fail
    refine (unhide HC).mono ?_; rintro e w9 ⟨rfl, hb9⟩
    have HB9 := hide ((unhide HB7).trans (hb9.mono (unhide HB7).size))
    clear HC HB7 hb9 HCD
    go_wp2
    go_ret
    exact ⟨rfl, unhide HB9⟩
  | some x =>
    rw [hj] at HX
    unfold joinV joinD at *
    obtain ⟨t, u⟩ := x
    have r3 := refl_list (⟨t.toArray⟩ : ByteArray).toList
    generalize (⟨t.toArray⟩ : ByteArray) = T at *
    go_wp2_with fail
    refine (unhide HX).mono ?_; rintro e w8 ⟨rfl, rfl⟩
    clear HX HJO HCD
    go_wp2
    go_ret
    exact ⟨rfl, unhide HB7⟩
end Go.Proofs.YtfgphihhnlgfhaeDoor
