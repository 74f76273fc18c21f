/- Walk of the program's Inflate, whatever it is given. -/
import Derived.Test.YtfeljhikeddodadGreatDoorIn12
import Derived.Test.YtfeljhikeddodadGreatDoorMg26
namespace Go.Proofs.YtfeljhikeddodadGreatDoor
open Go.RowKit Pm Cn Cd Nf

/-- What Inflate answers, whatever it is given. -/
noncomputable def inflS (s : ByteArray) (most : Int) : Option Res :=
  if 0 ≤ most ∧ most ≤ 300000 ∧ (s.size : Int) ≤ 300000 then infl (tv s) (8 * s.size) most.toNat else some (.err .bound)
section
variable {t : TypeId} {xT xB xS : Value}

end

/-! ### The fixed block of a letter -/
/-- What fits is told by every bound that it fits, and by no lesser one. -/
theorem inflS_most {s : ByteArray} {most : Int} {k : Nat} {out : List UInt8} (h : inflS s most = some (.ok k out)) :
    (out.length : Int) ≤ most ∧ (k + 7) / 8 ≤ s.size ∧ inflS s out.length = some (.ok k out) ∧ (out ≠ [] → inflS s ((out.length : Int) - 1) = some (.err .bound)) := by
  unfold inflS at h ⊢
  by_cases hm : 0 ≤ most ∧ most ≤ 300000 ∧ (s.size : Int) ≤ 300000
  · rw [if_pos hm] at h
    obtain ⟨a1, a2, a3, a4⟩ := infl_most h
    refine ⟨by omega, by omega, ?_, fun hne => ?_⟩
    · rw [if_pos ⟨by omega, by omega, by omega⟩]; exact a3
    · have hp : 0 < out.length := List.length_pos_iff.2 hne
      rw [if_pos ⟨by omega, by omega, by omega⟩]
      exact a4 _ (by omega)
  · rw [if_neg hm] at h; injection h with h; cases h
end Go.Proofs.YtfeljhikeddodadGreatDoor
