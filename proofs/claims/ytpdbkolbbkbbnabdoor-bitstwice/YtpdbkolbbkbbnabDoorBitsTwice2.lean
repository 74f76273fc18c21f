/- The statement 'what is put is got': for every slice of pieces. -/
import Derived.Test.YtpdbkolbbkbbnabDoorBitsTwice
import Derived.Test.YtpdbkolbbkbbnabDoorTold
namespace Go.Proofs.YtpdbkolbbkbbnabDoor
open Go.RowKit

set_option maxHeartbeats 400000 in
theorem bitsTwice_none (ao : Option Addr) (cap : Nat) (w : World) :
    Calls Tryd.prog 3 #[.slice ao 0 cap] w fun e w' => e = .returned (.bool true) ∧ Below w.heap.size w w' := by
  go_enter Tryd.func3, Tryd.ntmps3
  go_wp2_with fail
  refine (three_any _).mono ?_; rintro e w1 ⟨rfl, hb1⟩
  have hnew := new_writer w1
  have hb2 := hb1.trans (((Below.refl w1.heap.size w1).alloc (Nat.le_refl _) (.cells #[.slice none 0 0, .int .i64 0] 27)).mono hb1.size)
  have Hnew := hide hnew
  clear hnew hb1
  go_wp2
  generalize w1.alloc (.cells #[.slice none 0 0, .int .i64 0] 27) = w2 at *
  generalize w1.heap.size = p at *
  go_loopw [2, 5] (fun r i wr => i = .int .i64 0 ∧ wr = w2) (fun _ i _ => 0)
  case atStart => exact ⟨rfl, rfl⟩
  case round =>
    obtain ⟨rfl, rfl⟩ := hrel
    go_wp2_with fail
    refine (text_any p 0 0 _ (unhide Hnew)).mono ?_; rintro e w3 ⟨rfl, rfl⟩
    rw [show (⟨(Bt.yl ((0 + 7) / 8) 0).toArray⟩ : ByteArray) = ⟨#[]⟩ from rfl]
    go_wp2_with fail
    refine (newReader_any ⟨#[]⟩ _ (by decide)).mono ?_; rintro e w4 ⟨rfl, hR4, hb4⟩
    have HR4 := hide hR4
    have HW4 := hide ((unhide Hnew).below hb4)
    clear hR4
    go_wp2
    go_loopw [2, 7] (fun r i wr => i = .int .i64 0 ∧ wr = w4) (fun _ i _ => 0)
    case atStart => exact ⟨rfl, rfl⟩
    case round =>
      obtain ⟨rfl, rfl⟩ := hrel
      go_wp2_with fail
      refine (at_any _ 0 ⟨#[]⟩ _ (unhide HR4)).mono ?_; rintro e w5 ⟨rfl, rfl⟩
      go_wp2_with fail
      refine (len_any p 0 0 _ (unhide HW4)).mono ?_; rintro e w6 ⟨rfl, rfl⟩
      go_wp2_with fail
      refine (left_any _ 0 0 ⟨#[]⟩ _ (unhide HR4) rfl).mono ?_; rintro e w7 ⟨rfl, hb7⟩
      go_wp2
      go_ret
      have k4 := hb2.trans (hb4.mono hb2.size)
      exact ⟨rfl, k4.trans (hb7.mono k4.size)⟩

theorem bitsTwice_any (ao : Option Addr) (len cap : Nat) (pn : Nat → Nat) (pw : Nat → Int) (pt pa : Nat → Bool) (w : World) (a : Nat → Addr) (hS : Told w [0, 1] a) (hP : IsPieces w ao len pn pw pt pa) :
    Calls Tryd.prog 3 #[.slice ao len cap] w fun e w' => e = .returned (.bool true) ∧ Below w.heap.size w w' := by
  rcases hP with rfl | ⟨b, off, rfl, hm, hP⟩
  · exact bitsTwice_none ao cap w
  · by_cases hl : len ≤ 100
    · have c1 := hS 1 (by simp)
      simp only [sentAt, sentV, List.getD_cons_zero, List.getD_cons_succ] at c1
      exact bitsTwice_short b off len cap pn pw pt pa w (a 1) hl c1 hP
    · have hd : decide ((100 : Int) < (len : Int)) = true := by simp; omega
      unfold maxLen at hm
      clear hS hP
      go_enter Tryd.func3, Tryd.ntmps3
      go_wp2_with fail
      refine (three_any _).mono ?_; rintro e w1 ⟨rfl, hb1⟩
      go_wp2
      go_ret
      exact ⟨rfl, hb1⟩
end Go.Proofs.YtpdbkolbbkbbnabDoor
