/- The document's reading of codes, of any width and bound. -/
import Derived.Test.YtfgphihhnlgfhaeDoorLzo
namespace Go.Proofs.YtfgphihhnlgfhaeDoor
open Go.RowKit Lz

set_option maxRecDepth 100000 in
theorem unlzw_out (s : ByteArray) (width most : Int) (w : World) (_hs : s.size ≤ 2000) (hno : ¬ (2 ≤ width ∧ width ≤ 8 ∧ 0 ≤ most ∧ most ≤ 300000)) :
    Calls Tryd.prog 14 #[.string s, .int .i64 width, .int .i64 most] w fun e w' => e = .returned (.tuple #[.string ⟨#[]⟩, .int .i64 0, .int .i64 2]) ∧ w' = w := by
  by_cases h0 : width < 2
  · have d0 : decide (width < 2) = true := by simp; omega
    clear hno
    go_enter Tryd.func14, Tryd.ntmps14
    go_wp2
    go_ret3
    exact ⟨rfl, rfl⟩
  have d0 : decide (width < 2) = false := by simp; omega
  by_cases h1 : 8 < width
  · have d1 : decide (width > 8) = true := by simp; omega
    have d1' : decide ((8 : Int) < width) = true := d1
    clear hno
    go_enter Tryd.func14, Tryd.ntmps14
    go_wp2
    go_ret3
    exact ⟨rfl, rfl⟩
  have d1 : decide (width > 8) = false := by simp; omega
  have d1' : decide ((8 : Int) < width) = false := d1
  by_cases h2 : most < 0
  · have d2 : decide (most < 0) = true := by simp; omega
    clear hno
    go_enter Tryd.func14, Tryd.ntmps14
    go_wp2
    go_ret3
    exact ⟨rfl, rfl⟩
  have d2 : decide (most < 0) = false := by simp; omega
  have d3 : decide (most > 300000) = true := by simp; omega
  have d3' : decide ((300000 : Int) < most) = true := d3
  clear hno
  go_enter Tryd.func14, Tryd.ntmps14
  go_wp2
  go_ret3
  exact ⟨rfl, rfl⟩

theorem unlzwOf_any (s : ByteArray) (width most : Int) (w : World) (hs : s.size ≤ 2000) :
    Calls Tryd.prog 14 #[.string s, .int .i64 width, .int .i64 most] w fun e w' => e = .returned (unD (unS s width most)) ∧ Below w.heap.size w w' := by
  unfold unS
  by_cases h : 2 ≤ width ∧ width ≤ 8 ∧ 0 ≤ most ∧ most ≤ 300000 ∧ s.size ≤ 300000
  · rw [if_pos h]
    obtain ⟨W, rfl⟩ := Int.eq_ofNat_of_zero_le (show 0 ≤ width by omega)
    obtain ⟨M, rfl⟩ := Int.eq_ofNat_of_zero_le h.2.2.1
    exact unlzw_in s W M w hs (by omega) (by omega) (by omega)
  · rw [if_neg h]
    refine (unlzw_out s width most w hs (fun q => h ⟨q.1, q.2.1, q.2.2.1, q.2.2.2, by omega⟩)).mono ?_
    rintro e w' ⟨rfl, rfl⟩
    exact ⟨rfl, Below.refl _ _⟩
end Go.Proofs.YtfgphihhnlgfhaeDoor
