/- Rows of numbers held against each other; a closed fact: a picture of one color has one. -/
import Derived.Test.YtpfobocdbmiagaaDoorMg4
import Derived.Test.YtpfobocdbmiagaaDoorCu5
import Derived.Test.YtpfobocdbmiagaaDoorRo1
namespace Go.Proofs.YtpfobocdbmiagaaDoor
open Go.RowKit

/-- Numbers lie there. -/
def IsNm (w : World) (a : Option Addr) (l : List Nat) : Prop := ∃ g, a = some ⟨g, 0, none⟩ ∧ g < w.heap.size ∧ ∀ j, j < l.length → w.cell? ⟨g, j, none⟩ = some (.int .i64 (l.getD j 0 : Nat))
theorem IsNm.below {w w' : World} {a : Option Addr} {l : List Nat} (h : IsNm w a l) (hb : Below w.heap.size w w') : IsNm w' a l := by
  obtain ⟨g, ha, hg, h⟩ := h
  exact ⟨g, ha, by have := hb.size; omega, fun j hj => (hb.cell (p := ⟨g, j, none⟩) hg).trans (h j hj)⟩
theorem own_nm {w : World} {base n c : Nat} {a : Option Addr} {l : List Nat} (h : w.ownsRow base 3 1 (.slice a n c) n (nV l)) (hl : l.length = n) (h0 : 0 < n) : IsNm w a l := by
  obtain ⟨g, rfl, _, hg⟩ := own_some h h0
  exact ⟨g, rfl, hg, fun j hj => by rw [h.cellAt j (by omega), nV_at l j hj]⟩
theorem sameNm_any (a b : Option Addr) (n c d : Nat) (l : List Nat) (w : World) (hA : IsNm w a l) (hB : IsNm w b l) (hl : l.length = n) (hn : n ≤ 100000) :
    Calls Tryd.prog 17 #[.slice a n c, .slice b n d] w fun e w' => e = .returned (.bool true) ∧ Below w.heap.size w w' := by
  obtain ⟨g1, rfl, _, h1⟩ := hA
  obtain ⟨g2, rfl, _, h2⟩ := hB
  have e : (l.map fun (x : Nat) => (x : Int)).length = n := by rw [List.length_map, hl]
  have hg : ∀ j, j < l.length → (l.map fun (x : Nat) => (x : Int)).getD j 0 = ((l.getD j 0 : Nat) : Int) := fun j hj => by
    rw [List.getD_eq_getElem?_getD, List.getElem?_map, List.getD_eq_getElem?_getD, List.getElem?_eq_getElem hj]
    rfl
  have h := sameInts_yes g1 g2 c d (l.map fun (x : Nat) => (x : Int)) w (by rw [e]; unfold maxLen; omega) (fun j hj => by rw [e, ← hl] at hj; rw [h1 j hj, hg j hj]) (fun j hj => by rw [e, ← hl] at hj; rw [h2 j hj, hg j hj])
  rw [e] at h
  exact h
def pG7 : Px := ⟨0, 7, 0, 0⟩
theorem ulk_G7 : ulk (fun _ => pG7) 4 = [pG7] := by decide
theorem ucnt_G7 : ucnt (fun _ => pG7) 4 = [⟨pG7, 4⟩] := rfl

set_option maxHeartbeats 4000000 in
set_option maxRecDepth 100000 in
theorem grey_any (w : World) :
    Calls Tryd.prog 7 #[] w fun e w' => e = .returned (.bool true) ∧ Below w.heap.size w w' := by
  have HBl := hide (blankP_any 2 2 pG7 w (by omega) (by omega))
  have HC := hide (fun (a : Option Addr) c w' (h : IsPx w' a 4 (fun _ => pG7)) => count_ok 2 2 a 4 c (fun _ => pG7) w' h (by omega) (by decide))
  have hv : pG7.val = .agg #[.int .u8 0, .int .u8 7, .int .u8 0, .int .u8 0] := rfl
  rw [hv] at HBl
  rw [ulk_G7, ucnt_G7] at HC
  go_enter Tryd.func7, Tryd.ntmps7
  go_wp2_with fail
  refine (unhide HBl).mono ?_
  rintro e w1 ⟨g, c, rfl, hg, hp, hb1⟩
  have HP1 := hide (hp.isPx (by omega))
  have HB1 := hide hb1
  clear hp hb1 HBl
  go_wp2_with fail
  refine (unhide HC _ _ _ (unhide HP1)).mono ?_
  rintro e w2 ⟨a1, c1, rfl, ho, hb2⟩
  obtain ⟨g1, rfl, _, _⟩ := own_some ho (by decide)
  have hu := own_usAt (l := [(⟨pG7, 4⟩ : Us)]) ho 0 (by decide) rfl
  obtain ⟨⟨x0, x1, x2, x3⟩, x4⟩ := hu
  have x0 : w2.cell? ⟨g1, 0, none⟩ = some (.int .u8 0) := x0
  have x1 : w2.cell? ⟨g1, 1, none⟩ = some (.int .u8 7) := x1
  have x2 : w2.cell? ⟨g1, 2, none⟩ = some (.int .u8 0) := x2
  have x3 : w2.cell? ⟨g1, 3, none⟩ = some (.int .u8 0) := x3
  have x4 : w2.cell? ⟨g1, 4, none⟩ = some (.int .i64 4) := x4
  have HB2 := hide ((unhide HB1).trans (hb2.mono (unhide HB1).size))
  clear ho hb2 HC HP1 HB1
  go_wp2
  go_ret
  exact ⟨rfl, unhide HB2⟩
end Go.Proofs.YtpfobocdbmiagaaDoor
