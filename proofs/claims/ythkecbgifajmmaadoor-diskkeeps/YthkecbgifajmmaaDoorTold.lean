/- What the row's condition on some of the project's errors gives a walk, where no type's handle is listed. -/
import Derived.Test.YthkecbgifajmmaaDoorLaid
import Derived.Test.YthkecbgifajmmaaDoorTold0
namespace Go.Proofs.YthkecbgifajmmaaDoor
open Go.RowKit Go.ChangeShapes

theorem told_of_laid {W : World} {l : List (String × DataW Unit)} (is : List Nat) (pos : Nat → Nat) (h : laidMetH Tryd.prog l W) (hne : (l.filter fun x => x.2.handleName?.isSome).isEmpty = true)
    (hp : ∀ i, i ∈ is → i < 9 ∧ l[pos i]? = some (sentName i, sentD (sentText i))) : ∃ a : Nat → Addr, Told W is a := by
  have h0 : laidMet Tryd.prog l W := by
    unfold laidMetH at h
    cases hf : (l.filter fun x => x.2.handleName?.isSome) with
    | nil => rw [hf] at h; exact h
    | cons x r => rw [hf] at hne; simp at hne
  obtain ⟨ps, hv, hnd, hr⟩ := h0
  obtain ⟨ms, rfl, hms⟩ := laidVars_parts W l ps hv
  have key : ∀ i, ∃ a : Addr, i ∈ is → W.cell? ⟨sentAt i, 0, none⟩ = some (.iface 110 (.pointer (some a))) := by
    intro i
    by_cases hi : i ∈ is
    · obtain ⟨m, hm1, ho⟩ := hms _ _ (hp i hi).2
      have hsub : ∀ b off, MemPlace.cell b off ∈ m → MemPlace.cell b off ∈ ms.flatten := fun b off hb => List.mem_flatten.2 ⟨m, List.mem_of_getElem? hm1, hb⟩
      obtain ⟨a, s, h1, _⟩ := one_sent ho (sentName_at i (hp i hi).1) (sentType_at i (hp i hi).1) (fun b off hb => hr b off (hsub b off hb))
      exact ⟨a, fun _ => h1⟩
    · exact ⟨⟨0, 0, none⟩, fun h => absurd h hi⟩
  exact ⟨fun i => Classical.choose (key i), fun i hi => Classical.choose_spec (key i) hi⟩
end Go.Proofs.YthkecbgifajmmaaDoor
