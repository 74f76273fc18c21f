/- Rows of numbers held against each other; a closed fact: a picture of one color has one. Pixels copied: slices.Clone. -/
import Derived.Test.YtpfobocdbmiagaaDoorMg11
import Derived.Test.YtpfobocdbmiagaaDoorCu5
import Derived.Test.YtpfobocdbmiagaaDoorMg6
import Derived.Lib.SliceRun
import Derived.OwnWalk
namespace Go.Proofs.YtpfobocdbmiagaaDoor
open Go.RowKit

/-- Numbers lie there. -/
def IsNm (w : World) (a : Option Addr) (l : List Nat) : Prop := ∃ g, a = some ⟨g, 0, none⟩ ∧ g < w.heap.size ∧ ∀ j, j < l.length → w.cell? ⟨g, j, none⟩ = some (.int .i64 (l.getD j 0 : Nat))
theorem IsNm.below {w w' : World} {a : Option Addr} {l : List Nat} (h : IsNm w a l) (hb : Below w.heap.size w w') : IsNm w' a l := by
  obtain ⟨g, ha, hg, h⟩ := h
  exact ⟨g, ha, by have := hb.size; omega, fun j hj => (hb.cell (p := ⟨g, j, none⟩) hg).trans (h j hj)⟩
theorem own_nm {w : World} {base n c : Nat} {a : Option Addr} {l : List Nat} (h : w.ownsRow base 3 1 (.slice a n c) n (nV l)) (hl : l.length = n) (h0 : 0 < n) : IsNm w a l := by
  obtain ⟨g, rfl, _, hg⟩ := own_some h h0
  exact ⟨g, rfl, hg, fun j hj => by rw [h.cellAt j (by omega), nV_at l j hj]⟩
theorem sameNm_any (a b : Option Addr) (n c d : Nat) (l : List Nat) (w : World) (hA : IsNm w a l) (hB : IsNm w b l) (hl : l.length = n) (hn : n ≤ 100000) :
    Calls Tryd.prog 17 #[.slice a n c, .slice b n d] w fun e w' => e = .returned (.bool true) ∧ Below w.heap.size w w' := by
  obtain ⟨g1, rfl, _, h1⟩ := hA
  obtain ⟨g2, rfl, _, h2⟩ := hB
  have e : (l.map fun (x : Nat) => (x : Int)).length = n := by rw [List.length_map, hl]
  have hg : ∀ j, j < l.length → (l.map fun (x : Nat) => (x : Int)).getD j 0 = ((l.getD j 0 : Nat) : Int) := fun j hj => by
    rw [List.getD_eq_getElem?_getD, List.getElem?_map, List.getD_eq_getElem?_getD, List.getElem?_eq_getElem hj]
    rfl
  have h := sameInts_yes g1 g2 c d (l.map fun (x : Nat) => (x : Int)) w (by rw [e]; unfold maxLen; omega) (fun j hj => by rw [e, ← hl] at hj; rw [h1 j hj, hg j hj]) (fun j hj => by rw [e, ← hl] at hj; rw [h2 j hj, hg j hj])
  rw [e] at h
  exact h
def pG7 : Px := ⟨0, 7, 0, 0⟩
theorem ulk_G7 : ulk (fun _ => pG7) 4 = [pG7] := by decide
theorem ucnt_G7 : ucnt (fun _ => pG7) 4 = [⟨pG7, 4⟩] := rfl

set_option maxHeartbeats 4000000 in
set_option maxRecDepth 100000 in
theorem grey_any (w : World) :
    Calls Tryd.prog 7 #[] w fun e w' => e = .returned (.bool true) ∧ Below w.heap.size w w' := by
  have HBl := hide (blankP_any 2 2 pG7 w (by omega) (by omega))
  have HC := hide (fun (a : Option Addr) c w' (h : IsPx w' a 4 (fun _ => pG7)) => count_ok 2 2 a 4 c (fun _ => pG7) w' h (by omega) (by decide))
  have hv : pG7.val = .agg #[.int .u8 0, .int .u8 7, .int .u8 0, .int .u8 0] := rfl
  rw [hv] at HBl
  rw [ulk_G7, ucnt_G7] at HC
  go_enter Tryd.func7, Tryd.ntmps7
  go_wp2_with fail
  refine (unhide HBl).mono ?_
  rintro e w1 ⟨g, c, rfl, hg, hp, hb1⟩
  have HP1 := hide (hp.isPx (by omega))
  have HB1 := hide hb1
  clear hp hb1 HBl
  go_wp2_with fail
  refine (unhide HC _ _ _ (unhide HP1)).mono ?_
  rintro e w2 ⟨a1, c1, rfl, ho, hb2⟩
  obtain ⟨g1, rfl, _, _⟩ := own_some ho (by decide)
  have hu := own_usAt (l := [(⟨pG7, 4⟩ : Us)]) ho 0 (by decide) rfl
  obtain ⟨⟨x0, x1, x2, x3⟩, x4⟩ := hu
  have x0 : w2.cell? ⟨g1, 0, none⟩ = some (.int .u8 0) := x0
  have x1 : w2.cell? ⟨g1, 1, none⟩ = some (.int .u8 7) := x1
  have x2 : w2.cell? ⟨g1, 2, none⟩ = some (.int .u8 0) := x2
  have x3 : w2.cell? ⟨g1, 3, none⟩ = some (.int .u8 0) := x3
  have x4 : w2.cell? ⟨g1, 4, none⟩ = some (.int .i64 4) := x4
  have HB2 := hide ((unhide HB1).trans (hb2.mono (unhide HB1).size))
  clear ho hb2 HC HP1 HB1
  go_wp2
  go_ret
  exact ⟨rfl, unhide HB2⟩
end Go.Proofs.YtpfobocdbmiagaaDoor
namespace Go.Proofs.YtpfobocdbmiagaaDoor
open Go.RowKit

set_option maxHeartbeats 2000000 in
set_option maxRecDepth 100000 in
theorem cloneO_any (a : Option Addr) (n c : Nat) (p : Nat → Px) (w : World) (hP : IsPx w a n p) (hn : n ≤ 100000) :
    Calls Tryd.prog 44 #[.slice a n c] w fun e w' => ∃ a2 c2, e = .returned (.slice a2 n c2) ∧ w'.ownsRow w.heap.size 40 4 (.slice a2 n c2) n (pxVals p n) ∧ Below w.heap.size w w' := by
  obtain ⟨i0, hi, hz0, hz1, hz2⟩ := info_parts px_info
  have q22 : ∀ (w : World) (a : Option Addr) (n c : Nat), (binOp .eql 22 (.slice a n c) (.slice none 0 0)).run Tryd.prog w = .ok (.bool a.isNone) w := fun w a n c => Lib.run_eql_slice_nil w _ _ a n c 0 0 Tryd.underlying22
  rcases a with _ | ⟨b, off, sp⟩
  · have h0 : n = 0 := by
      rcases hP with h | ⟨b, off, e, _⟩
      · exact h
      · cases e
    subst h0
    clear hi hz0 hz1 hz2
    go_enter Tryd.func44, Tryd.ntmps44
    go_wp2
    go_ret
    exact ⟨none, 0, rfl, World.ownsRow_nil _ _ _ _, Below.refl _ _⟩
  · have HL : Hid (∀ j u, (pxVals p n)[j]? = some u → (w.alloc (.cells #[] 40)).cell? ((⟨b, off, sp⟩ : Addr).add j) = some u) := by
      intro j u hj
      rcases hP with h | ⟨b', off', e, _, hc⟩
      · subst h; simp [pxVals] at hj
      · injection e with e
        injection e with e1 e2 e3
        subst e1 e2 e3
        exact Lib.cell?_alloc_some _ (px_lies hc j u hj)
    have HPL := hide (pxVals_length p n)
    have HP1 := hide (fun u (h : u ∈ pxVals p n) => pxVals_one h)
    obtain ⟨xs, hxs⟩ : ∃ xs, xs = pxVals p n := ⟨_, rfl⟩
    rw [← hxs] at HL HPL HP1
    clear hP
    go_enter Tryd.func44, Tryd.ntmps44
    go_wp2_with (at_builtin; refine wpList_append_own _ rfl _ _ 22 rfl w.heap.size 40 i0 (.agg #[.int .u8 0, .int .u8 0, .int .u8 0, .int .u8 0]) 4 4 Tryd.underlying22 hi hz0 hz1 hz2 rfl (by decide) _ _ _ rfl (World.ownsRow_made w #[] 0 (Nat.le_refl _) (Nat.zero_le _) rfl) ⟨b, off, sp⟩ n c xs rfl (unhide HPL) (unhide HL) (unhide HP1) ?qc4 ?qc5 ?qc6 ?_)
    case qc4 => unfold maxLen; omega
    case qc5 => omega
    case qc6 => simp
    intro v' w1 hown hgrow hnil
    have HB := hide (((Below.refl w.heap.size w).alloc (Nat.le_refl _) (.cells #[] 40)).grown hgrow (by simp) (by intro k hk; simp [Value.ownBlock] at hk; omega))
    have hown : w1.ownsRow w.heap.size 40 4 v' n (pxVals p n) := by first | exact hown | simpa using hown
    obtain ⟨a2, c2, rfl⟩ : ∃ a2 c2, v' = .slice a2 n c2 := by
      rcases hown.2 with ⟨e, q⟩ | ⟨g, cap, cur, e, _⟩
      · subst q; exact ⟨none, 0, e⟩
      · exact ⟨_, _, e⟩
    have HX := hide hown
    clear hown hgrow hnil HL HPL HP1
    go_wp2
    go_ret
    exact ⟨a2, c2, rfl, unhide HX, unhide HB⟩
theorem cloneP_any (a : Option Addr) (n c : Nat) (p : Nat → Px) (w : World) (hP : IsPx w a n p) (hn : n ≤ 100000) :
    Calls Tryd.prog 44 #[.slice a n c] w fun e w' => ∃ a2 c2, e = .returned (.slice a2 n c2) ∧ IsPxN w.heap.size w' a2 n p ∧ Below w.heap.size w w' :=
  (cloneO_any a n c p w hP hn).mono fun _ _ ⟨a2, c2, he, ho, hb⟩ => ⟨a2, c2, he, own_pxN ho (by unfold maxLen; omega), hb⟩
end Go.Proofs.YtpfobocdbmiagaaDoor
