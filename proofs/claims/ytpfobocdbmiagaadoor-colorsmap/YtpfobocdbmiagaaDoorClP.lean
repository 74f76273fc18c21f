/- Pixels copied: slices.Clone. -/
import Derived.Test.YtpfobocdbmiagaaDoorRt0
import Derived.Lib.SliceRun
import Derived.OwnWalk
namespace Go.Proofs.YtpfobocdbmiagaaDoor
open Go.RowKit

set_option maxHeartbeats 2000000 in
set_option maxRecDepth 100000 in
theorem cloneO_any (a : Option Addr) (n c : Nat) (p : Nat → Px) (w : World) (hP : IsPx w a n p) (hn : n ≤ 100000) :
    Calls Tryd.prog 44 #[.slice a n c] w fun e w' => ∃ a2 c2, e = .returned (.slice a2 n c2) ∧ w'.ownsRow w.heap.size 40 4 (.slice a2 n c2) n (pxVals p n) ∧ Below w.heap.size w w' := by
  obtain ⟨i0, hi, hz0, hz1, hz2⟩ := info_parts px_info
  have q22 : ∀ (w : World) (a : Option Addr) (n c : Nat), (binOp .eql 22 (.slice a n c) (.slice none 0 0)).run Tryd.prog w = .ok (.bool a.isNone) w := fun w a n c => Lib.run_eql_slice_nil w _ _ a n c 0 0 Tryd.underlying22
  rcases a with _ | ⟨b, off, sp⟩
  · have h0 : n = 0 := by
      rcases hP with h | ⟨b, off, e, _⟩
      · exact h
      · cases e
    subst h0
    clear hi hz0 hz1 hz2
    go_enter Tryd.func44, Tryd.ntmps44
    go_wp2
    go_ret
    exact ⟨none, 0, rfl, World.ownsRow_nil _ _ _ _, Below.refl _ _⟩
  · have HL : Hid (∀ j u, (pxVals p n)[j]? = some u → (w.alloc (.cells #[] 40)).cell? ((⟨b, off, sp⟩ : Addr).add j) = some u) := by
      intro j u hj
      rcases hP with h | ⟨b', off', e, _, hc⟩
      · subst h; simp [pxVals] at hj
      · injection e with e
        injection e with e1 e2 e3
        subst e1 e2 e3
        exact Lib.cell?_alloc_some _ (px_lies hc j u hj)
    have HPL := hide (pxVals_length p n)
    have HP1 := hide (fun u (h : u ∈ pxVals p n) => pxVals_one h)
    obtain ⟨xs, hxs⟩ : ∃ xs, xs = pxVals p n := ⟨_, rfl⟩
    rw [← hxs] at HL HPL HP1
    clear hP
    go_enter Tryd.func44, Tryd.ntmps44
    go_wp2_with (at_builtin; refine wpList_append_own _ rfl _ _ 22 rfl w.heap.size 40 i0 (.agg #[.int .u8 0, .int .u8 0, .int .u8 0, .int .u8 0]) 4 4 Tryd.underlying22 hi hz0 hz1 hz2 rfl (by decide) _ _ _ rfl (World.ownsRow_made w #[] 0 (Nat.le_refl _) (Nat.zero_le _) rfl) ⟨b, off, sp⟩ n c xs rfl (unhide HPL) (unhide HL) (unhide HP1) ?qc4 ?qc5 ?qc6 ?_)
    case qc4 => unfold maxLen; omega
    case qc5 => omega
    case qc6 => simp
    intro v' w1 hown hgrow hnil
    have HB := hide (((Below.refl w.heap.size w).alloc (Nat.le_refl _) (.cells #[] 40)).grown hgrow (by simp) (by intro k hk; simp [Value.ownBlock] at hk; omega))
    have hown : w1.ownsRow w.heap.size 40 4 v' n (pxVals p n) := by first | exact hown | simpa using hown
    obtain ⟨a2, c2, rfl⟩ : ∃ a2 c2, v' = .slice a2 n c2 := by
      rcases hown.2 with ⟨e, q⟩ | ⟨g, cap, cur, e, _⟩
      · subst q; exact ⟨none, 0, e⟩
      · exact ⟨_, _, e⟩
    have HX := hide hown
    clear hown hgrow hnil HL HPL HP1
    go_wp2
    go_ret
    exact ⟨a2, c2, rfl, unhide HX, unhide HB⟩
theorem cloneP_any (a : Option Addr) (n c : Nat) (p : Nat → Px) (w : World) (hP : IsPx w a n p) (hn : n ≤ 100000) :
    Calls Tryd.prog 44 #[.slice a n c] w fun e w' => ∃ a2 c2, e = .returned (.slice a2 n c2) ∧ IsPxN w.heap.size w' a2 n p ∧ Below w.heap.size w w' :=
  (cloneO_any a n c p w hP hn).mono fun _ _ ⟨a2, c2, he, ho, hb⟩ => ⟨a2, c2, he, own_pxN ho (by unfold maxLen; omega), hb⟩
end Go.Proofs.YtpfobocdbmiagaaDoor
