/- Pixels, layers, copied: slices.Clone. -/
import Derived.Test.YtkdckcengmkhhajDoorLyD
import Derived.Lib.SliceRun
import Derived.OwnWalk
namespace Go.Proofs.YtkdckcengmkhhajDoor
open Go.RowKit

theorem ly_row_lies {w : World} {b off n : Nat} {L : Nat → Ly} {a : Nat → Option Addr} {c : Nat → Nat} (h : ∀ i, i < n → LyAt w b (off + i * 9) (L i) (a i) (c i)) : ∀ j u, (lyVals L a c n)[j]? = some u → w.cell? ((⟨b, off, none⟩ : Addr).add j) = some u := fun j u hj => by
  have hjl : j < n * 9 := by
    rcases Nat.lt_or_ge j (n * 9) with q | q
    · exact q
    · rw [List.getElem?_eq_none (by rw [lyVals_length]; exact q)] at hj; cases hj
  have hadd : (⟨b, off, none⟩ : Addr).add j = ⟨b, off + j, none⟩ := by unfold Addr.add; split <;> simp_all
  rw [hadd, ← hj]
  have e := lyVals_at L a c n (j / 9) (j % 9) (by omega) (by omega)
  rw [show j / 9 * 9 + j % 9 = j by omega] at e
  rw [e]
  have hc := h (j / 9) (by omega)
  rcases (show j % 9 = 0 ∨ j % 9 = 1 ∨ j % 9 = 2 ∨ j % 9 = 3 ∨ j % 9 = 4 ∨ j % 9 = 5 ∨ j % 9 = 6 ∨ j % 9 = 7 ∨ j % 9 = 8 by omega) with q | q | q | q | q | q | q | q | q
  · rw [q, show off + j = off + j / 9 * 9 by omega]; exact hc.c0
  · rw [q, show off + j = off + j / 9 * 9 + 1 by omega]; exact hc.c1
  · rw [q, show off + j = off + j / 9 * 9 + 2 by omega]; exact hc.c2
  · rw [q, show off + j = off + j / 9 * 9 + 3 by omega]; exact hc.c3
  · rw [q, show off + j = off + j / 9 * 9 + 4 by omega]; exact hc.c4
  · rw [q, show off + j = off + j / 9 * 9 + 5 by omega]; exact hc.c5
  · rw [q, show off + j = off + j / 9 * 9 + 6 by omega]; exact hc.c6
  · rw [q, show off + j = off + j / 9 * 9 + 7 by omega]; exact hc.c7
  · rw [q, show off + j = off + j / 9 * 9 + 8 by omega]; exact hc.c8
theorem lyVals_one {L : Nat → Ly} {a : Nat → Option Addr} {c : Nat → Nat} {n : Nat} {u : Value} (h : u ∈ lyVals L a c n) : u.oneCell' = true := by
  induction n with
  | zero => simp [lyVals] at h
  | succ n ih =>
    unfold lyVals at h
    rcases List.mem_append.1 h with h | h
    · exact ih h
    · exact ly_one _ _ _ u h

set_option maxHeartbeats 2000000 in
set_option maxRecDepth 100000 in
theorem cloneP_any (a : Option Addr) (n c : Nat) (p : Nat → Px) (w : World) (hP : IsPx w a n p) (hn : n ≤ 100000) :
    Calls Tryd.prog 91 #[.slice a n c] w fun e w' => ∃ a2 c2, e = .returned (.slice a2 n c2) ∧ IsPxN w.heap.size w' a2 n p ∧ Below w.heap.size w w' := by
  obtain ⟨i0, hi, hz0, hz1, hz2⟩ := info_parts px_info
  have q22 : ∀ (w : World) (a : Option Addr) (n c : Nat), (binOp .eql 30 (.slice a n c) (.slice none 0 0)).run Tryd.prog w = .ok (.bool a.isNone) w := fun w a n c => Lib.run_eql_slice_nil w _ _ a n c 0 0 Tryd.underlying30
  rcases a with _ | ⟨b, off, sp⟩
  · have h0 : n = 0 := by
      rcases hP with h | ⟨b, off, e, _⟩
      · exact h
      · cases e
    subst h0
    clear hi hz0 hz1 hz2
    go_enter Tryd.func91, Tryd.ntmps91
    go_wp2
    go_ret
    exact ⟨none, 0, rfl, ⟨.inl rfl, fun q e => by cases e⟩, Below.refl _ _⟩
  · have HL : Hid (∀ j u, (pxVals p n)[j]? = some u → (w.alloc (.cells #[] 42)).cell? ((⟨b, off, sp⟩ : Addr).add j) = some u) := by
      intro j u hj
      rcases hP with h | ⟨b', off', e, _, hc⟩
      · subst h; simp [pxVals] at hj
      · injection e with e
        injection e with e1 e2 e3
        subst e1 e2 e3
        exact Lib.cell?_alloc_some _ (px_lies hc j u hj)
    have HPL := hide (pxVals_length p n)
    have HP1 := hide (fun u (h : u ∈ pxVals p n) => pxVals_one h)
    obtain ⟨xs, hxs⟩ : ∃ xs, xs = pxVals p n := ⟨_, rfl⟩
    rw [← hxs] at HL HPL HP1
    clear hP
    go_enter Tryd.func91, Tryd.ntmps91
    go_wp2_with (at_builtin; refine wpList_append_own _ rfl _ _ 30 rfl w.heap.size 42 i0 (.agg #[.int .u8 0, .int .u8 0, .int .u8 0, .int .u8 0]) 4 4 Tryd.underlying30 hi hz0 hz1 hz2 rfl (by decide) _ _ _ rfl (World.ownsRow_made w #[] 0 (Nat.le_refl _) (Nat.zero_le _) rfl) ⟨b, off, sp⟩ n c xs rfl (unhide HPL) (unhide HL) (unhide HP1) ?qc4 ?qc5 ?qc6 ?_)
    case qc4 => unfold maxLen; omega
    case qc5 => omega
    case qc6 => simp
    intro v' w1 hown hgrow hnil
    have HB := hide (((Below.refl w.heap.size w).alloc (Nat.le_refl _) (.cells #[] 42)).grown hgrow (by simp) (by intro k hk; simp [Value.ownBlock] at hk; omega))
    have hown : w1.ownsRow w.heap.size 42 4 v' n (pxVals p n) := by first | exact hown | simpa using hown
    obtain ⟨a2, c2, rfl⟩ : ∃ a2 c2, v' = .slice a2 n c2 := by
      rcases hown.2 with ⟨e, q⟩ | ⟨g, cap, cur, e, _⟩
      · subst q; exact ⟨none, 0, e⟩
      · exact ⟨_, _, e⟩
    have HX := hide (own_pxN hown (by unfold maxLen; omega))
    clear hown hgrow hnil HL HPL HP1
    go_wp2
    go_ret
    exact ⟨a2, c2, rfl, unhide HX, unhide HB⟩

set_option maxHeartbeats 2000000 in
set_option maxRecDepth 100000 in
theorem cloneL_any (s : Option Addr) (n c : Nat) (L : Nat → Ly) (a : Nat → Option Addr) (cp : Nat → Nat) (w : World) (hL : IsLy w s n L a cp) (hn : n ≤ 1000) :
    Calls Tryd.prog 90 #[.slice s n c] w fun e w' => ∃ s2 c2, e = .returned (.slice s2 n c2) ∧ w'.ownsRow w.heap.size 54 9 (.slice s2 n c2) n (lyVals L a cp n) ∧ Below w.heap.size w w' := by
  obtain ⟨i0, hi, hz0, hz1, hz2⟩ := info_parts ly_info
  have q22 : ∀ (w : World) (a : Option Addr) (n c : Nat), (binOp .eql 37 (.slice a n c) (.slice none 0 0)).run Tryd.prog w = .ok (.bool a.isNone) w := fun w a n c => Lib.run_eql_slice_nil w _ _ a n c 0 0 Tryd.underlying37
  rcases s with _ | ⟨b, off, sp⟩
  · have h0 : n = 0 := by
      rcases hL.row with h | ⟨b, off, e, _⟩
      · exact h
      · cases e
    subst h0
    clear hi hz0 hz1 hz2
    go_enter Tryd.func90, Tryd.ntmps90
    go_wp2
    go_ret
    exact ⟨none, 0, rfl, ⟨rfl, .inl ⟨rfl, rfl⟩⟩, Below.refl _ _⟩
  · have HL : Hid (∀ j u, (lyVals L a cp n)[j]? = some u → (w.alloc (.cells #[] 54)).cell? ((⟨b, off, sp⟩ : Addr).add j) = some u) := by
      intro j u hj
      rcases hL.row with h | ⟨b', off', e, _, hc⟩
      · subst h; simp [lyVals] at hj
      · injection e with e
        injection e with e1 e2 e3
        subst e1 e2 e3
        exact Lib.cell?_alloc_some _ (ly_row_lies hc j u hj)
    have HPL := hide (lyVals_length L a cp n)
    have HP1 := hide (fun u (h : u ∈ lyVals L a cp n) => lyVals_one h)
    obtain ⟨xs, hxs⟩ : ∃ xs, xs = lyVals L a cp n := ⟨_, rfl⟩
    rw [← hxs] at HL HPL HP1 ⊢
    clear hL hxs
    go_enter Tryd.func90, Tryd.ntmps90
    go_wp2_with (at_builtin; refine wpList_append_own _ rfl _ _ 37 rfl w.heap.size 54 i0 (.agg #[.string ⟨#[]⟩, .int .i64 0, .int .i64 0, .bool false, .int .i64 0, .int .i64 0, .int .i64 0, .int .i64 0, .slice none 0 0]) 9 96 Tryd.underlying37 hi hz0 hz1 hz2 rfl (by decide) _ _ _ rfl (World.ownsRow_made w #[] 0 (Nat.le_refl _) (Nat.zero_le _) rfl) ⟨b, off, sp⟩ n c xs rfl (unhide HPL) (unhide HL) (unhide HP1) ?qc4 ?qc5 ?qc6 ?_)
    case qc4 => unfold maxLen; omega
    case qc5 => omega
    case qc6 => simp
    intro v' w1 hown hgrow hnil
    have HB := hide (((Below.refl w.heap.size w).alloc (Nat.le_refl _) (.cells #[] 54)).grown hgrow (by simp) (by intro k hk; simp [Value.ownBlock] at hk; omega))
    have hown : w1.ownsRow w.heap.size 54 9 v' n xs := by simpa using hown
    obtain ⟨a2, c2, rfl⟩ : ∃ a2 c2, v' = .slice a2 n c2 := by
      rcases hown.2 with ⟨e, q⟩ | ⟨g, cap, cur, e, _⟩
      · subst q; exact ⟨none, 0, e⟩
      · exact ⟨_, _, e⟩
    have HX := hide hown
    clear hown hgrow hnil HL HPL HP1
    go_wp2
    go_ret
    exact ⟨a2, c2, rfl, unhide HX, unhide HB⟩
end Go.Proofs.YtkdckcengmkhhajDoor
