/- A disk: slices.Clone of sectors, of writes; Copy; New. -/
import Derived.Test.YthkecbgifajmmaaDoorDk5
import Derived.Lib.SliceRun
namespace Go.Proofs.YthkecbgifajmmaaDoor
open Go.RowKit

def zSec : Array Value := (List.replicate 64 (.int .u8 0)).toArray
theorem zSec_size : zSec.size = 64 := by simp [zSec]
theorem sec_infoZ : (Tryd.prog.info? 67).map (fun i => (i.zero, i.size, i.bytes)) = some (some (.agg zSec), 64, 64) := by kernel_rfl
def secF (f : Nat → ByteArray) : Nat → List Value := fun i => secL (f i)
theorem secF_length {f : Nat → ByteArray} (hf : ∀ i, (f i).size = 64) (i : Nat) : (secF f i).length = 64 := by rw [secF, secL_length, hf]
theorem secV_one (f : Nat → ByteArray) (n : Nat) : ∀ u ∈ rowV (secF f) n, u.oneCell' = true := by
  induction n with
  | zero => intro u hu; cases hu
  | succ n ih =>
    intro u hu
    unfold rowV at hu
    rcases List.mem_append.1 hu with h | h
    · exact ih u h
    · exact secL_one _ u h
theorem SecAt.lies {w : World} {g n : Nat} {f : Nat → ByteArray} (h : SecAt w g n f) (hf : ∀ i, (f i).size = 64) : ∀ j u, (rowV (secF f) n)[j]? = some u → w.cell? ((⟨g, 0, none⟩ : Addr).add j) = some u := fun j u hj => by
  have hjl : j < n * 64 := by
    rcases Nat.lt_or_ge j (n * 64) with q | q
    · exact q
    · rw [List.getElem?_eq_none (by rw [rowV_length (secF_length hf)]; exact q)] at hj; cases hj
  rw [Addr.add_mid, Nat.zero_add]
  have e := rowV_at (secF_length hf) n (j / 64) (j % 64) (by omega) (by omega)
  rw [show j / 64 * 64 + j % 64 = j by omega] at e
  rw [e] at hj
  have := h.cells (j / 64) (by omega) (j % 64) u hj
  rw [show j / 64 * 64 + j % 64 = j by omega] at this
  exact this
theorem SecAt.of_own {w : World} {base n cap : Nat} {s : Option Addr} {f : Nat → ByteArray} (h : w.ownsRow base 67 64 (.slice s n cap) n (rowV (secF f) n)) (hf : ∀ i, (f i).size = 64) (hn : 0 < n) : ∃ g, s = some ⟨g, 0, none⟩ ∧ base ≤ g ∧ SecAt w g n f ∧ n ≤ cap ∧ cap ≤ maxLen := by
  rcases h.2 with ⟨_, e⟩ | ⟨g, cap', cur, hv, hb, hg, hc, hm, _⟩
  · omega
  · injection hv with hv _ hv3
    subst hv hv3
    refine ⟨g, rfl, hb, ⟨fun i hi j v hv => ?_, fun i hi j hj => ⟨?_, blk_frozen hg _⟩, blk_lt hg⟩, hc, hm⟩
    · have hj : j < 64 := by have := (List.getElem?_eq_some_iff.1 hv).1; rwa [secL_length, hf] at this
      rw [h.cellAt (i * 64 + j) (by omega), rowV_at (secF_length hf) n i j hi hj]
      exact hv
    · rw [h.cellAt (i * 64 + j) (by omega), rowV_at (secF_length hf) n i j hi hj, List.getElem?_eq_getElem (by rw [secF_length hf]; exact hj)]
      rfl

set_option maxHeartbeats 2000000 in
set_option maxRecDepth 100000 in
theorem dcloneS_any (g n c : Nat) (f : Nat → ByteArray) (w : World) (h : SecAt w g n f) (hf : ∀ i, (f i).size = 64) (hn0 : 0 < n) (hn : n ≤ 4000) :
    Calls Tryd.prog 28 #[.slice (some ⟨g, 0, none⟩) n c] w fun e w' => ∃ g2 c2, e = .returned (.slice (some ⟨g2, 0, none⟩) n c2) ∧ w.heap.size ≤ g2 ∧ n ≤ c2 ∧ c2 ≤ maxLen ∧ SecAt w' g2 n f ∧ Below w.heap.size w w' := by
  obtain ⟨i0, hi, hz0, hz1, hz2⟩ := info_parts sec_infoZ
  have q22 : ∀ (w : World) (a : Option Addr) (n c : Nat), (binOp .eql 53 (.slice a n c) (.slice none 0 0)).run Tryd.prog w = .ok (.bool a.isNone) w := fun w a n c => Lib.run_eql_slice_nil w _ _ a n c 0 0 Tryd.underlying53
  have HL : Hid (∀ j u, (rowV (secF f) n)[j]? = some u → (w.alloc (.cells #[] 67)).cell? ((⟨g, 0, none⟩ : Addr).add j) = some u) := fun j u hj => Lib.cell?_alloc_some _ (h.lies hf j u hj)
  have HPL := hide (rowV_length (secF_length hf) n)
  have HP1 := hide (secV_one f n)
  have HF := hide hf
  obtain ⟨xs, HXS⟩ : ∃ xs, Hid (xs = rowV (secF f) n) := ⟨_, rfl⟩
  rw [← unhide HXS] at HL HPL HP1
  clear h hf
  go_enter Tryd.func28, Tryd.ntmps28
  go_wp2_with (at_builtin; refine wpList_append_own _ rfl _ _ 53 rfl w.heap.size 67 i0 (.agg zSec) 64 64 Tryd.underlying53 hi hz0 hz1 hz2 zSec_size (by decide) _ _ _ rfl (World.ownsRow_made w #[] 0 (Nat.le_refl _) (Nat.zero_le _) rfl) ⟨g, 0, none⟩ n c xs rfl (unhide HPL) (unhide HL) (unhide HP1) ?qc4 ?qc5 ?qc6 ?_)
  case qc4 => unfold maxLen; omega
  case qc5 => omega
  case qc6 => simp
  intro v' w1 hown hgrow hnil
  have HB := hide (((Below.refl w.heap.size w).alloc (Nat.le_refl _) (.cells #[] 67)).grown hgrow (by simp) (by intro k hk; simp [Value.ownBlock] at hk; omega))
  have hown : w1.ownsRow w.heap.size 67 64 v' n xs := by simpa using hown
  obtain ⟨a2, c2, rfl⟩ : ∃ a2 c2, v' = .slice a2 n c2 := by
    rcases hown.2 with ⟨e, q⟩ | ⟨g, cap, cur, e, _⟩
    · subst q; exact ⟨none, 0, e⟩
    · exact ⟨_, _, e⟩
  rw [unhide HXS] at hown
  obtain ⟨g2, rfl, hgb, hsec, hc, hm⟩ := SecAt.of_own hown (unhide HF) hn0
  have HX := hide (And.intro hgb (And.intro hc (And.intro hm hsec)))
  clear hown hgrow hnil HL HPL HP1 hgb hsec hc hm
  go_wp2
  go_ret
  obtain ⟨x1, x2, x3, x4⟩ := unhide HX
  exact ⟨g2, c2, rfl, x1, x2, x3, x4, unhide HB⟩

theorem own_liesW {w : World} {base n cap g : Nat} {l : List (Nat × ByteArray)} (h : w.ownsRow base 71 65 (.slice (some ⟨g, 0, none⟩) n cap) n (wriV l)) : ∀ j u, (wriV l)[j]? = some u → w.cell? ((⟨g, 0, none⟩ : Addr).add j) = some u := h.cells (g := g) rfl

set_option maxHeartbeats 2000000 in
set_option maxRecDepth 100000 in
theorem dcloneW_any (s : Option Addr) (c : Nat) (l : List (Nat × ByteArray)) (w : World) (h : w.ownsRow 0 71 65 (.slice s l.length c) l.length (wriV l)) (hl : l.length ≤ 1000) :
    Calls Tryd.prog 29 #[.slice s l.length c] w fun e w' => ∃ s2 c2, e = .returned (.slice s2 l.length c2) ∧ w'.ownsRow w.heap.size 71 65 (.slice s2 l.length c2) l.length (wriV l) ∧ Below w.heap.size w w' := by
  obtain ⟨i0, hi, hz0, hz1, hz2⟩ := info_parts wri_infoZ
  have q22 : ∀ (w : World) (a : Option Addr) (n c : Nat), (binOp .eql 56 (.slice a n c) (.slice none 0 0)).run Tryd.prog w = .ok (.bool a.isNone) w := fun w a n c => Lib.run_eql_slice_nil w _ _ a n c 0 0 Tryd.underlying56
  rcases s with _ | ⟨g, off, sp⟩
  · have h0 : l = [] := by
      rcases h.2 with ⟨_, q⟩ | ⟨g, cap, cur, e, _⟩
      · exact List.eq_nil_of_length_eq_zero q
      · cases e
    subst h0
    clear hi hz0 hz1 hz2 h hl
    show Calls _ _ #[.slice none 0 c] _ _
    go_enter Tryd.func29, Tryd.ntmps29
    go_wp2
    go_ret
    exact ⟨none, 0, rfl, World.ownsRow_nil _ _ _ _, Below.refl _ _⟩
  · have HL : Hid (∀ j u, (wriV l)[j]? = some u → (w.alloc (.cells #[] 71)).cell? ((⟨g, off, sp⟩ : Addr).add j) = some u) := by
      intro j u hj
      refine Lib.cell?_alloc_some _ ?_
      rcases h.2 with ⟨q, _⟩ | ⟨g', cap, cur, e, _⟩
      · cases q
      · injection e with e
        injection e with e
        injection e with e1 e2 e3
        subst e1 e2 e3
        exact own_liesW h j u hj
    have HPL := hide h.1
    have HP1 := hide (wriV_one l)
    obtain ⟨xs, HXS⟩ : ∃ xs, Hid (xs = wriV l) := ⟨_, rfl⟩
    rw [← unhide HXS] at HL HPL HP1
    obtain ⟨m, HME⟩ : ∃ m, Hid (m = l.length) := ⟨_, rfl⟩
    rw [← unhide HME] at HPL hl ⊢
    clear h
    go_enter Tryd.func29, Tryd.ntmps29
    go_wp2_with (at_builtin; refine wpList_append_own _ rfl _ _ 56 rfl w.heap.size 71 i0 (.agg Tryd.zeroCells71) 65 72 Tryd.underlying56 hi hz0 hz1 hz2 (by rw [zeros71]; rfl) (by decide) _ _ _ rfl (World.ownsRow_made w #[] 0 (Nat.le_refl _) (Nat.zero_le _) rfl) ⟨g, off, sp⟩ m c xs rfl (unhide HPL) (unhide HL) (unhide HP1) ?qc4 ?qc5 ?qc6 ?_)
    case qc4 => unfold maxLen; omega
    case qc5 => omega
    case qc6 => simp
    intro v' w1 hown hgrow hnil
    have HB := hide (((Below.refl w.heap.size w).alloc (Nat.le_refl _) (.cells #[] 71)).grown hgrow (by simp) (by intro k hk; simp [Value.ownBlock] at hk; omega))
    have hown : w1.ownsRow w.heap.size 71 65 v' m xs := by simpa using hown
    obtain ⟨a2, c2, rfl⟩ : ∃ a2 c2, v' = .slice a2 m c2 := by
      rcases hown.2 with ⟨e, q⟩ | ⟨g, cap, cur, e, _⟩
      · subst q; exact ⟨none, 0, e⟩
      · exact ⟨_, _, e⟩
    rw [unhide HXS] at hown
    have HX := hide hown
    clear hown hgrow hnil HL HPL HP1
    go_wp2
    go_ret
    exact ⟨a2, c2, rfl, unhide HX, unhide HB⟩
end Go.Proofs.YthkecbgifajmmaaDoor
