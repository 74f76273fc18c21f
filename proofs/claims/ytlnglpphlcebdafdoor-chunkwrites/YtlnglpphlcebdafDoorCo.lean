/- Chunks that came in. -/
import Derived.Test.YtlnglpphlcebdafDoorCk4
import Derived.Deep.SlicePairs
import Derived.SizedLaws
namespace Go.Proofs.YtlnglpphlcebdafDoor
open Go.ChangeShapes Go.WideShapes Go.RowKit Go.Deep

theorem all_mem {H : Type} {P : Program} {e : TypeId} : ∀ {l : List (DataW H)} {d : DataW H}, d ∈ l → ∀ n ∈ d.weights P e, n ∈ DataW.weightsAll P e l
  | x :: l, d, h, n, hn => by
    simp only [DataW.weightsAll, List.mem_append]
    rcases List.mem_cons.1 h with rfl | h
    · exact .inl hn
    · exact .inr (all_mem h n hn)
theorem reach47 : reachBytes ≤ 140737488355328 := Nat.le_of_lt reachBytes_lt

theorem open_chunks {H : Type} {enc : TypeId × Value → H} {w : World} {base : Nat} {spare : Nat → Bool} {held : Bool} {fuel : Nat} {a : Option Addr} {len cap : Nat} {x : DataW H × List MemPlace}
    (h : DataW.trod enc Tryd.prog w base spare held fuel 37 [.slice a len cap] = some x) (hwt : ∀ n ∈ x.1.weights Tryd.prog 37, n ≤ reachBytes) :
    ∃ c : Nat → ByteArray × ByteArray, IsC w a len c ∧ (len ≤ maxLen ∧ ∀ i, i < len → (c i).1.size ≤ 140737488355328 ∧ (c i).2.size ≤ 140737488355328) := by
  rcases open_slice_pairs Tryd.underlying37 Tryd.underlying51 (by kernel_rfl) rfl rfl (by kernel_rfl) (by kernel_rfl) h with ⟨hcs, _⟩ | ⟨ad, l, c, m, n, V0, V1, D0, D1, P0, P1, hcs, _, hl, hm, hmm, hx, hcell⟩
  · simp at hcs
    obtain ⟨_, rfl, _⟩ := hcs
    exact ⟨fun _ => (⟨#[]⟩, ⟨#[]⟩), .inl rfl, by unfold maxLen; omega, fun i hi => by omega⟩
  simp at hcs
  obtain ⟨rfl, rfl, rfl⟩ := hcs
  have hlm : len ≤ m := by rw [hmm]; split <;> omega
  have each : ∀ i, i < len → ∃ q : ByteArray × ByteArray, w.cell? (ad.add (i * 2)) = some (.string q.1) ∧ w.cell? (ad.add (i * 2 + 1)) = some (.string q.2) ∧ (q.1.size ≤ maxLen ∧ q.2.size ≤ maxLen) ∧ q.1.size ≤ 140737488355328 ∧ q.2.size ≤ 140737488355328 := by
    intro i hi
    obtain ⟨h0, h1, t0, t1⟩ := hcell i (by omega)
    obtain ⟨s0, e0, d0, z0⟩ := DataW.trod_string Tryd.underlying9 t0
    obtain ⟨s1, e1, d1, z1⟩ := DataW.trod_string Tryd.underlying9 t1
    simp only [List.cons.injEq, and_true] at e0 e1
    simp only [Prod.mk.injEq] at d0 d1
    have hmem : (DataW.agg [D0 i, D1 i] : DataW H) ∈ (List.range len).map fun i => DataW.agg [D0 i, D1 i] := List.mem_map.2 ⟨i, List.mem_range.2 hi, rfl⟩
    have hw : ∀ n ∈ (DataW.agg [D0 i, D1 i] : DataW H).weights Tryd.prog 51, n ≤ reachBytes := fun n hn => hwt n (by
      rw [hx]
      simp only [DataW.weights, Tryd.underlying37, List.mem_cons, List.mem_append]
      exact .inr (.inl (all_mem hmem n hn)))
    have hw0 : s0.data.toList.length ≤ reachBytes := hw _ (by
      rw [d0.1]
      simp [DataW.weights, Tryd.underlying51, DataW.weightsEach])
    have hw1 : s1.data.toList.length ≤ reachBytes := hw _ (by
      rw [d1.1]
      simp [DataW.weights, Tryd.underlying51, DataW.weightsEach])
    have k0 : s0.data.toList.length = s0.size := Array.length_toList
    have k1 : s1.data.toList.length = s1.size := Array.length_toList
    have hr := reach47
    exact ⟨(s0, s1), by rw [h0, e0], by rw [h1, e1], ⟨z0, z1⟩, by show s0.size ≤ _; omega, by show s1.size ≤ _; omega⟩
  obtain ⟨q, hq⟩ := choose_lt each
  by_cases h0 : len = 0
  · exact ⟨q, .inl h0, by unfold maxLen; omega, fun i hi => by omega⟩
  obtain ⟨b, off, spot⟩ := ad
  have hspot : spot = none := by
    have := (hq 0 (by omega)).1
    simpa [Addr.add] using World.cell?_spot this
  subst hspot
  have hadd : ∀ j, (⟨b, off, none⟩ : Addr).add j = ⟨b, off + j, none⟩ := fun j => by unfold Addr.add; split <;> simp_all
  refine ⟨q, .inr ⟨b, off, rfl, by omega, fun i hi => ?_⟩, by omega, fun i hi => (hq i hi).2.2.2⟩
  obtain ⟨g0, g1, g2, _⟩ := hq i hi
  rw [hadd] at g0 g1
  exact ⟨g0, g1, g2⟩
end Go.Proofs.YtlnglpphlcebdafDoor
