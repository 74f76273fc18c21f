/- strings.Clone and strings.HasPrefix by their contracts. -/
import Derived.Test.YtlnglpphlcebdafDoorBase
import Derived.Shelf.Strconv.Clone
import Derived.Below
namespace Go.Proofs.YtlnglpphlcebdafDoor
open Go.RowKit Go.Shelf

def clRen : Go.Shelf.Ren := ⟨fun | 316 => 73 | n => n, fun | 0 => 0 | 3 => 3 | 4 => 4 | 5 => 5 | 9 => 9 | 37 => 52 | 127 => 129 | n => n, fun | n => n⟩
theorem clLays : Go.Proofs.LaysM.n316 Tryd.prog clRen := {
  mixed := by kernel_rfl
  f316 := Tryd.func73.trans (congrArg some (by kernel_rfl))
  t0 := Tryd.underlying0
  a0 := Tryd.isAgg0
  z0 := Tryd.sizeOf0
  v0 := Tryd.zeroValue0
  i0 := by kernel_rfl
  t3 := Tryd.underlying3
  a3 := Tryd.isAgg3
  z3 := Tryd.sizeOf3
  v3 := Tryd.zeroValue3
  i3 := by kernel_rfl
  t4 := Tryd.underlying4
  a4 := Tryd.isAgg4
  z4 := Tryd.sizeOf4
  v4 := Tryd.zeroValue4
  i4 := by kernel_rfl
  t5 := Tryd.underlying5
  a5 := Tryd.isAgg5
  z5 := Tryd.sizeOf5
  v5 := Tryd.zeroValue5
  i5 := by kernel_rfl
  t9 := Tryd.underlying9
  a9 := Tryd.isAgg9
  z9 := Tryd.sizeOf9
  v9 := Tryd.zeroValue9
  i9 := by kernel_rfl
  t37 := Tryd.underlying52
  a37 := Tryd.isAgg52
  z37 := Tryd.sizeOf52
  v37 := Tryd.zeroValue52
  i37 := by kernel_rfl
  t127 := Tryd.underlying129
  a127 := Tryd.isAgg129
  z127 := Tryd.sizeOf129
  v127 := Tryd.zeroValue129
  i127 := by kernel_rfl }

theorem clone_any (s : ByteArray) (w : World) (hs : s.size ≤ 1000000) :
    Calls Tryd.prog 62 #[.string s] w fun e w' => e = .returned (.string s) ∧ Below w.heap.size w w' := by
  have HC := hide (Any.stringslite_Clone clLays s w (by omega))
  go_enter Tryd.func62, Tryd.ntmps62
  go_wp2_with fail
  refine (unhide HC).mono ?_; rintro e w1 ⟨rfl, hb⟩
  clear HC
  go_wp2
  go_ret
  exact ⟨rfl, hb⟩
theorem hasPrefix0 (s p : ByteArray) (w : World) :
    Calls Tryd.prog 60 #[.string s, .string p] w fun e w' => ∃ b : Bool, e = .returned (.bool b) ∧ (b = true ↔ p.size ≤ s.size ∧ s.extract 0 p.size = p) ∧ w' = w := by
  by_cases h : p.size ≤ s.size
  · have d1 : decide ((s.size : Int) ≥ (p.size : Int)) = true := decide_eq_true (by omega)
    have d1' : decide ((p.size : Int) ≤ (s.size : Int)) = true := d1
    have d1n : decide (p.size ≤ s.size) = true := decide_eq_true h
    have hi : (p.size : Int) ≤ (s.size : Int) := by omega
    have hl : ∀ x y : ByteArray, x.toList = y.toList → x = y := fun x y q => ByteArray.ext (Array.toList_inj.1 (by rw [← ByteArray.toList_eq, ← ByteArray.toList_eq]; exact q))
    have HL := hide hl
    by_cases he : s.extract 0 p.size = p
    · have HE := hide he
      go_enter Tryd.func60, Tryd.ntmps60
      go_wp2
      go_ret
      exact ⟨true, rfl, ⟨fun _ => ⟨h, unhide HE⟩, fun _ => rfl⟩, rfl⟩
    · have HE := hide he
      have hb : ((s.extract 0 p.size).toList == p.toList) = false := by
        simp only [beq_eq_false_iff_ne, ne_eq]
        intro q
        exact he (hl _ _ q)
      clear hl he
      go_enter Tryd.func60, Tryd.ntmps60
      go_wp2
      go_ret
      exact ⟨false, rfl, ⟨(fun q => by cases q), fun q => absurd q.2 (unhide HE)⟩, rfl⟩
  · have d1 : decide ((s.size : Int) ≥ (p.size : Int)) = false := decide_eq_false (by omega)
    have d1' : decide ((p.size : Int) ≤ (s.size : Int)) = false := d1
    have d1n : decide (p.size ≤ s.size) = false := decide_eq_false h
    go_enter Tryd.func60, Tryd.ntmps60
    go_wp2
    go_ret
    exact ⟨false, rfl, ⟨(fun q => by cases q), fun q => absurd q.1 h⟩, rfl⟩
theorem hasPrefix_any (s p : ByteArray) (w : World) :
    Calls Tryd.prog 46 #[.string s, .string p] w fun e w' => ∃ b : Bool, e = .returned (.bool b) ∧ (b = true ↔ p.size ≤ s.size ∧ s.extract 0 p.size = p) ∧ w' = w := by
  have HC := hide (hasPrefix0 s p w)
  go_enter Tryd.func46, Tryd.ntmps46
  go_wp2_with fail
  refine (unhide HC).mono ?_; rintro e w1 ⟨b, rfl, hb, rfl⟩
  have HB := hide hb
  clear HC hb
  go_wp2
  go_ret
  exact ⟨b, rfl, unhide HB, rfl⟩
end Go.Proofs.YtlnglpphlcebdafDoor
