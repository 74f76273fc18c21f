/- A disk: Read. -/
import Derived.Test.YthkecbgifajmmaaDoorDk2
import Derived.Laws.IdiomStrings
namespace Go.Proofs.YthkecbgifajmmaaDoor
open Go.RowKit

set_option maxHeartbeats 1000000 in
set_option maxRecDepth 100000 in
theorem dread_no (q n : Nat) (i : Int) (fp : List Nat) (D : DkS) (w : World) (tE : TypeId) (vE : Value) (h : DAt w q n fp D) (hi : i < 0 ∨ (n : Int) ≤ i) (hE : w.cell? ⟨0, 0, none⟩ = some (.iface tE vE)) :
    Calls Tryd.prog 14 #[.pointer (some ⟨q, 0, none⟩), .int .i64 i] w fun e w' => e = .returned (.tuple #[.string ⟨#[]⟩, .iface tE vE]) ∧ Below w.heap.size w w' := by
  have H := hide h
  have HI := hide hi
  clear h hi
  go_enter Tryd.func14, Tryd.ntmps14
  go_wp2_with fail
  refine (dhas_no q n i fp D _ (unhide H) (unhide HI)).mono ?_
  rintro e w1 ⟨rfl, rfl⟩
  go_wp2_with fail
  go_region
  go_wp2
  go_ret2
  exact ⟨rfl, belowDk (Below.refl _ _)⟩

set_option maxHeartbeats 1000000 in
set_option maxRecDepth 100000 in
theorem dread_yes (q n i : Nat) (fp : List Nat) (D : DkS) (w : World) (h : DAt w q n fp D) (hi : i < n) (hs : (D.now i).size = 64) :
    Calls Tryd.prog 14 #[.pointer (some ⟨q, 0, none⟩), .int .i64 (i : Int)] w fun e w' => e = .returned (.tuple #[.string (D.now i), .nilIface]) ∧ w' = w := by
  have H := hide h
  obtain ⟨g1, c1, g2, c2, sw, cw, z, rfl, hp⟩ := h
  obtain ⟨k0, k1, k2, k3, k4, kf, kq⟩ := hp.cells
  have hc := hp.now.cells i hi
  have hcv : (convert 52 9 (.slice (some ⟨g1, i * 64, none⟩) 64 64)).run Tryd.prog w = .ok (.string (D.now i)) w := by
    have := run_convert_bytes_back (P := Tryd.prog) w 52 9 5 ⟨g1, i * 64, none⟩ 64 (D.now i).data.toList Tryd.underlying52 Tryd.underlying5 Tryd.underlying9 (fun j hj => by
      rw [Addr.add_mid]
      refine hc j _ ?_
      simp [secL, Lib.byteCells, List.getElem?_eq_getElem hj])
    have hl : (D.now i).data.toList.length = 64 := by rw [← hs]; simp
    rw [hl] at this
    simpa using this
  have b1 := hp.b1
  have m1 := hp.m1
  unfold maxLen at m1
  generalize D.now i = s at *
  clear hp hc hs
  go_enter Tryd.func14, Tryd.ntmps14
  go_wp2_with fail
  refine (dhas_yes q n i _ D _ (unhide H) hi).mono ?_
  rintro e w1 ⟨rfl, rfl⟩
  go_wp2
  go_ret2
  exact ⟨rfl, rfl⟩
end Go.Proofs.YthkecbgifajmmaaDoor
