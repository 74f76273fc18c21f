/- A closed fact: a past of texts that was not changed. -/
import Derived.Test.YtkdckcengmkhhajDoorPa1
namespace Go.Proofs.YtkdckcengmkhhajDoor
open Go.RowKit

/-- A past of one text. -/
structure PastS (w : World) (q g : Nat) : Prop where
  box : w.heap[q]? = some (.cells #[.slice (some ⟨g, 0, none⟩) 1 1, .int .i64 0, .int .i64 3] 119)
  row : w.heap[g]? = some (.cells #[.string ⟨#[97]⟩] 9)
theorem PastS.below {w w' : World} {q g : Nat} (h : PastS w q g) (hb : Below w.heap.size w w') : PastS w' q g := ⟨(hb.block q (blk_lt h.box)).trans h.box, (hb.block g (blk_lt h.row)).trans h.row⟩

set_option maxHeartbeats 1000000 in
set_option maxRecDepth 100000 in
theorem snew_any (w : World) :
    Calls Tryd.prog 51 #[.string ⟨#[97]⟩, .int .i64 3] w fun e w' => e = .returned (.tuple #[.pointer (some ⟨w.heap.size + 1, 0, none⟩), .nilIface]) ∧
      PastS w' (w.heap.size + 1) w.heap.size ∧ Below w.heap.size w w' := by
  have HA := hide (al2 w (.cells #[.string ⟨#[97]⟩] 9) (.cells #[.slice (some ⟨w.heap.size, 0, none⟩) 1 1, .int .i64 0, .int .i64 3] 119))
  go_enter Tryd.func51, Tryd.ntmps51
  go_wp2
  go_ret2
  have hA := unhide HA
  exact ⟨rfl, ⟨hA.k1, hA.k0⟩, hA.below⟩

set_option maxHeartbeats 1000000 in
set_option maxRecDepth 100000 in
theorem snow_any (q g : Nat) (w : World) (h : PastS w q g) :
    Calls Tryd.prog 52 #[.pointer (some ⟨q, 0, none⟩)] w fun e w' => e = .returned (.string ⟨#[97]⟩) ∧ Below w.heap.size w w' := by
  have c0 : w.cell? ⟨q, 0, none⟩ = some (.slice (some ⟨g, 0, none⟩) 1 1) := blk_cell h.box 0
  have c1 : w.cell? ⟨q, 1, none⟩ = some (.int .i64 0) := blk_cell h.box 1
  have c3 : w.cell? ⟨g, 0, none⟩ = some (.string ⟨#[97]⟩) := blk_cell h.row 0
  clear h
  go_enter Tryd.func52, Tryd.ntmps52
  go_wp2_with fail
  go_region
  go_wp2
  go_ret
  exact ⟨rfl, belowD (Below.refl _ _)⟩

set_option maxHeartbeats 1000000 in
set_option maxRecDepth 100000 in
theorem smove_any (q g : Nat) (w : World) (h : PastS w q g) :
    Calls Tryd.prog 75 #[.pointer (some ⟨q, 0, none⟩), .int .i64 (-1)] w fun e w' => e = .returned (.bool false) ∧ w' = w := by
  have c1 : w.cell? ⟨q, 1, none⟩ = some (.int .i64 0) := blk_cell h.box 1
  clear h
  go_enter Tryd.func75, Tryd.ntmps75
  go_wp2
  go_ret
  exact ⟨rfl, rfl⟩

set_option maxHeartbeats 1000000 in
set_option maxRecDepth 100000 in
theorem sundo_any (q g : Nat) (w : World) (h : PastS w q g) :
    Calls Tryd.prog 53 #[.pointer (some ⟨q, 0, none⟩)] w fun e w' => e = .returned (.bool false) ∧ w' = w := by
  have H := hide h
  clear h
  go_enter Tryd.func53, Tryd.ntmps53
  go_wp2_with fail
  refine (smove_any q g _ (unhide H)).mono ?_
  rintro e w1 ⟨rfl, rfl⟩
  go_wp2
  go_ret
  exact ⟨rfl, rfl⟩

set_option maxHeartbeats 1000000 in
set_option maxRecDepth 100000 in
theorem first_any (w : World) :
    Calls Tryd.prog 22 #[] w fun e w' => e = .returned (.bool true) ∧ Below w.heap.size w w' := by
  go_enter Tryd.func22, Tryd.ntmps22
  go_wp2_with fail
  refine (snew_any _).mono ?_
  rintro e w1 ⟨rfl, hP, hb1⟩
  have HP := hide hP
  have HB := hide hb1
  have hs := hb1.size
  clear hP hb1
  go_wp2_with fail
  refine (snow_any _ _ _ (unhide HP)).mono ?_
  rintro e w2 ⟨rfl, hb2⟩
  have HP2 := hide ((unhide HP).below hb2)
  have HB2 := hide ((unhide HB).trans (hb2.mono hs))
  clear hb2
  go_wp2_with fail
  refine (sundo_any _ _ _ (unhide HP2)).mono ?_
  rintro e w3 ⟨rfl, rfl⟩
  go_wp2
  go_ret
  exact ⟨rfl, unhide HB2⟩
end Go.Proofs.YtkdckcengmkhhajDoor
