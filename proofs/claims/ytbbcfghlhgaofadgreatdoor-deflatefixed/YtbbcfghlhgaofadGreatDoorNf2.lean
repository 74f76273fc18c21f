/- Plain facts on what packed texts mean: no more bits than there are, no more bytes than may be; a bound that is wide enough turns nothing, a lesser one is told. -/
import Derived.Test.YtbbcfghlhgaofadGreatDoorMg4
namespace Go.Proofs.YtbbcfghlhgaofadGreatDoor.Nf
open Pm Cn

theorem wd_le {V nb : Nat} {l : Nat → Nat} {N k i : Nat} (h : wd V nb l N k = some i) : k + l i ≤ nb ∧ 0 < l i := ⟨(of_wd h).2.2.1, (of_wd h).2.1⟩
theorem get_le {V nb k d x : Nat} (h : get V nb k d = some x) : k + d ≤ nb := by
  unfold get at h
  split at h
  · assumption
  · cases h

theorem tok_more {V nb most : Nat} {l1 : Nat → Nat} {N1 : Nat} {l2 : Nat → Nat} {N2 : Nat} {s s' : St} (h : tokStep V nb most l1 N1 l2 N2 s = .more s') :
    s.2.length ≤ s'.2.length ∧ s'.2.length ≤ most ∧ s.1 < s'.1 ∧ s'.1 ≤ nb ∧ ∀ most', (s'.2.length ≤ most' → tokStep V nb most' l1 N1 l2 N2 s = .more s') ∧ (most' < s'.2.length → tokStep V nb most' l1 N1 l2 N2 s = .done (.err .bound)) := by
  unfold tokStep at h ⊢
  cases hw : wd V nb l1 N1 s.1 with
  | none => rw [hw] at h; cases h
  | some i =>
    rw [hw] at h
    have hi := wd_le hw
    simp only at h ⊢
    by_cases c1 : i < 256
    · rw [if_pos c1] at h
      simp only [if_pos c1]
      by_cases c2 : s.2.length < most
      · rw [if_pos c2] at h
        injection h with h
        subst h
        simp only [List.length_append, List.length_singleton]
        refine ⟨by omega, by omega, by omega, by omega, fun most' => ⟨fun h => by rw [if_pos (by omega)], fun h => by rw [if_neg (by omega)]⟩⟩
      · rw [if_neg c2] at h; cases h
    · rw [if_neg c1] at h
      simp only [if_neg c1]
      by_cases c2 : i = 256
      · rw [if_pos c2] at h; cases h
      · rw [if_neg c2] at h
        simp only [if_neg c2]
        by_cases c3 : 286 ≤ i
        · rw [if_pos c3] at h; cases h
        · rw [if_neg c3] at h
          simp only [if_neg c3]
          cases hg : get V nb (s.1 + l1 i) (lenBits (i - 257)) with
          | none => rw [hg] at h; cases h
          | some x =>
            rw [hg] at h
            simp only at h ⊢
            cases hw2 : wd V nb l2 N2 (s.1 + l1 i + lenBits (i - 257)) with
            | none => rw [hw2] at h; cases h
            | some d =>
              rw [hw2] at h
              simp only at h ⊢
              by_cases c4 : 30 ≤ d
              · rw [if_pos c4] at h; cases h
              · rw [if_neg c4] at h
                simp only [if_neg c4]
                cases hg2 : get V nb (s.1 + l1 i + lenBits (i - 257) + l2 d) (distBits d) with
                | none => rw [hg2] at h; cases h
                | some y =>
                  rw [hg2] at h
                  have hle := get_le hg2
                  simp only at h ⊢
                  by_cases c5 : s.2.length < dists.getD d 0 + y
                  · rw [if_pos c5] at h; cases h
                  · rw [if_neg c5] at h
                    simp only [if_neg c5]
                    by_cases c6 : most < s.2.length + (lens.getD (i - 257) 0 + x)
                    · rw [if_pos c6] at h; cases h
                    · rw [if_neg c6] at h
                      injection h with h
                      subst h
                      simp only [copied_length]
                      refine ⟨by omega, by omega, by omega, by omega, fun most' => ⟨fun h => by rw [if_neg (by omega)], fun h => by rw [if_pos (by omega)]⟩⟩

theorem tok_done {V nb most : Nat} {l1 : Nat → Nat} {N1 : Nat} {l2 : Nat → Nat} {N2 : Nat} {s : St} {k : Nat} {out : List UInt8} (h : tokStep V nb most l1 N1 l2 N2 s = .done (.ok k out)) :
    out = s.2 ∧ s.1 < k ∧ k ≤ nb ∧ ∀ most', tokStep V nb most' l1 N1 l2 N2 s = .done (.ok k out) := by
  unfold tokStep at h ⊢
  cases hw : wd V nb l1 N1 s.1 with
  | none => rw [hw] at h; cases h
  | some i =>
    rw [hw] at h
    have hi := wd_le hw
    simp only at h ⊢
    by_cases c1 : i < 256
    · rw [if_pos c1] at h
      split at h <;> cases h
    · rw [if_neg c1] at h
      simp only [if_neg c1]
      by_cases c2 : i = 256
      · rw [if_pos c2] at h
        injection h with h
        injection h with h1 h2
        simp only [if_pos c2]
        refine ⟨h2.symm, by omega, by omega, fun _ => by rw [h1, h2]⟩
      · rw [if_neg c2] at h
        split at h
        · cases h
        · split at h
          · cases h
          · split at h
            · cases h
            · split at h
              · cases h
              · split at h
                · cases h
                · split at h
                  · cases h
                  · split at h <;> cases h

theorem tok_run {V nb most : Nat} {l1 : Nat → Nat} {N1 : Nat} {l2 : Nat → Nat} {N2 : Nat} {s : St} {r : Res} (h : Run (tokStep V nb most l1 N1 l2 N2) s r) : ∀ k out, r = .ok k out →
    s.2.length ≤ out.length ∧ (s.2.length ≤ most → out.length ≤ most) ∧ s.1 < k ∧ k ≤ nb ∧ ∀ most', (out.length ≤ most' → Run (tokStep V nb most' l1 N1 l2 N2) s (.ok k out)) ∧ (s.2.length ≤ most' → most' < out.length → Run (tokStep V nb most' l1 N1 l2 N2) s (.err .bound)) := by
  induction h with
  | done e =>
    rintro k out rfl
    obtain ⟨rfl, h1, h2, h3⟩ := tok_done e
    exact ⟨Nat.le_refl _, id, h1, h2, fun most' => ⟨fun _ => .done (h3 most'), fun a b => by omega⟩⟩
  | @more s s' r e _ ih =>
    rintro k out rfl
    obtain ⟨a1, a2, a3, a4, a5⟩ := tok_more e
    obtain ⟨b1, b2, b3, b4, b5⟩ := ih k out rfl
    refine ⟨by omega, fun _ => b2 a2, by omega, b4, fun most' => ⟨fun c => .more ((a5 most').1 (by omega)) ((b5 most').1 c), fun c1 c2 => ?_⟩⟩
    rcases Nat.lt_or_ge most' s'.2.length with c | c
    · exact .done ((a5 most').2 c)
    · exact .more ((a5 most').1 c) ((b5 most').2 c c2)

theorem stored_ok {V nb most k k' : Nat} {out out' : List UInt8} (h : storedOf V nb most k out = .ok k' out') :
    out.length ≤ out'.length ∧ out'.length ≤ most ∧ k < k' ∧ k' ≤ nb ∧ ∀ most', (out'.length ≤ most' → storedOf V nb most' k out = .ok k' out') ∧ (most' < out'.length → storedOf V nb most' k out = .err .bound) := by
  unfold storedOf at h ⊢
  by_cases c1 : ¬ (k + 7) / 8 * 8 + 32 ≤ nb
  · rw [if_pos c1] at h; cases h
  · rw [if_neg c1] at h
    simp only [if_neg c1]
    by_cases c2 : V / 2 ^ ((k + 7) / 8 * 8) % 2 ^ 16 + V / 2 ^ ((k + 7) / 8 * 8 + 16) % 2 ^ 16 ≠ 65535
    · rw [if_pos c2] at h; cases h
    · rw [if_neg c2] at h
      simp only [if_neg c2]
      generalize V / 2 ^ ((k + 7) / 8 * 8) % 2 ^ 16 = n at *
      by_cases c3 : ¬ (k + 7) / 8 * 8 + 32 + 8 * n ≤ nb
      · rw [if_pos c3] at h; cases h
      · rw [if_neg c3] at h
        simp only [if_neg c3]
        by_cases c4 : most < out.length + n
        · rw [if_pos c4] at h; cases h
        · rw [if_neg c4] at h
          injection h with h1 h2
          subst h1 h2
          simp only [List.length_append, bytesOf_length]
          refine ⟨by omega, by omega, by omega, by omega, fun most' => ⟨fun c => by rw [if_neg (by omega)], fun c => by rw [if_pos (by omega)]⟩⟩

theorem dyn_le {V nb k k' many : Nat} {row : List Nat} (h : dyn V nb k = some (k', row, many)) : k < k' := by
  have key : ∀ tot l s r, Run (rowStep V nb tot l) s r → ∀ s', r = some s' → s.1 ≤ s'.1 := fun tot l s r h => by
    induction h with
    | done e =>
      rintro s' rfl
      unfold rowStep at e
      split at e
      · injection e with e; injection e with e; subst e; exact Nat.le_refl _
      · split at e
        · cases e
        · split at e
          · cases e
          · split at e
            · cases e
            · split at e
              · cases e
              · split at e <;> cases e
    | more e _ ih =>
      rintro s' rfl
      have := ih s' rfl
      refine Nat.le_trans ?_ this
      unfold rowStep at e
      split at e
      · cases e
      · split at e
        · cases e
        · split at e
          · injection e with e; subst e; show _ ≤ _ + _; omega
          · split at e
            · cases e
            · split at e
              · cases e
              · split at e
                · cases e
                · injection e with e; subst e; show _ ≤ _ + _ + _; omega
  unfold dyn at h
  split at h
  · cases h
  split at h
  · cases h
  split at h
  · cases h
  split at h
  · cases h
  split at h
  · cases h
  · cases h
  · next e =>
    have := key _ _ _ _ (of_run e) _ rfl
    split at h
    · cases h
    · injection h with h
      injection h with h1 _
      subst h1
      simp only at this
      omega

theorem block_ok {V nb most kind k k' : Nat} {out out' : List UInt8} (h : blockOf V nb most kind k out = some (.ok k' out')) :
    out.length ≤ out'.length ∧ (out.length ≤ most → out'.length ≤ most) ∧ k < k' ∧ k' ≤ nb ∧ ∀ most', (out'.length ≤ most' → blockOf V nb most' kind k out = some (.ok k' out')) ∧ (out.length ≤ most' → most' < out'.length → blockOf V nb most' kind k out = some (.err .bound)) := by
  unfold blockOf at h ⊢
  by_cases c0 : kind = 0
  · rw [if_pos c0] at h
    simp only [if_pos c0]
    injection h with h
    obtain ⟨a1, a2, a3, a4, a5⟩ := stored_ok h
    exact ⟨a1, fun _ => a2, a3, a4, fun m => ⟨fun c => by rw [(a5 m).1 c], fun _ c => by rw [(a5 m).2 c]⟩⟩
  · rw [if_neg c0] at h
    simp only [if_neg c0]
    by_cases c1 : kind = 1
    · rw [if_pos c1] at h
      simp only [if_pos c1]
      obtain ⟨a1, a2, a3, a4, a5⟩ := tok_run (of_run h) _ _ rfl
      exact ⟨a1, a2, a3, a4, fun m => ⟨fun c => run_of ((a5 m).1 c), fun c c' => run_of ((a5 m).2 c c')⟩⟩
    · rw [if_neg c1] at h
      simp only [if_neg c1]
      by_cases c2 : kind = 2
      · rw [if_pos c2] at h
        simp only [if_pos c2]
        cases hd : dyn V nb k with
        | none => rw [hd] at h; cases h
        | some q =>
          obtain ⟨k1, row, many⟩ := q
          rw [hd] at h
          have hk := dyn_le hd
          obtain ⟨a1, a2, a3, a4, a5⟩ := tok_run (of_run h) _ _ rfl
          simp only at a1 a2 a3 a5
          exact ⟨a1, a2, by omega, a4, fun m => ⟨fun c => run_of ((a5 m).1 c), fun c c' => run_of ((a5 m).2 c c')⟩⟩
      · rw [if_neg c2] at h; cases h

theorem blocks_run {V nb most : Nat} {s : St} {r : Res} (h : Run (blockStep V nb most) s r) : ∀ k out, r = .ok k out →
    s.2.length ≤ out.length ∧ (s.2.length ≤ most → out.length ≤ most) ∧ k ≤ nb ∧ ∀ most', (out.length ≤ most' → Run (blockStep V nb most') s (.ok k out)) ∧ (s.2.length ≤ most' → most' < out.length → Run (blockStep V nb most') s (.err .bound)) := by
  induction h with
  | @done s r e =>
    rintro k out rfl
    unfold blockStep at e
    by_cases c1 : ¬ s.1 + 3 ≤ nb
    · rw [if_pos c1] at e; cases e
    · rw [if_neg c1] at e
      split at e
      · cases e
      · cases e
      · next k1 o1 hb =>
        by_cases c2 : V / 2 ^ s.1 % 2 ^ 1 = 1
        · rw [if_pos c2] at e
          injection e with e
          injection e with e1 e2
          subst e1 e2
          obtain ⟨a1, a2, a3, a4, a5⟩ := block_ok hb
          refine ⟨a1, a2, a4, fun m => ⟨fun c => .done ?_, fun c c' => .done ?_⟩⟩
          · unfold blockStep; rw [if_neg c1, (a5 m).1 c]; simp only; rw [if_pos c2]
          · unfold blockStep; rw [if_neg c1, (a5 m).2 c c']
        · rw [if_neg c2] at e; cases e
  | @more s s' r e _ ih =>
    rintro k out rfl
    obtain ⟨b1, b2, b3, b5⟩ := ih k out rfl
    unfold blockStep at e
    by_cases c1 : ¬ s.1 + 3 ≤ nb
    · rw [if_pos c1] at e; cases e
    · rw [if_neg c1] at e
      split at e
      · cases e
      · cases e
      · next k1 o1 hb =>
        by_cases c2 : V / 2 ^ s.1 % 2 ^ 1 = 1
        · rw [if_pos c2] at e; cases e
        · rw [if_neg c2] at e
          injection e with e
          subst e
          obtain ⟨a1, a2, a3, a4, a5⟩ := block_ok hb
          simp only at b1 b2 b5
          refine ⟨by omega, fun c => b2 (a2 c), b3, fun m => ⟨fun c => .more (s' := (k1, o1)) ?_ ((b5 m).1 c), fun c c' => ?_⟩⟩
          · unfold blockStep; rw [if_neg c1, (a5 m).1 (by omega)]; simp only; rw [if_neg c2]
          · rcases Nat.lt_or_ge m o1.length with d | d
            · refine .done ?_
              unfold blockStep; rw [if_neg c1, (a5 m).2 c d]
            · refine .more (s' := (k1, o1)) ?_ ((b5 m).2 d c')
              unfold blockStep; rw [if_neg c1, (a5 m).1 d]; simp only; rw [if_neg c2]

/-- THE BOUND: what fits is told by every bound that it fits, and by no lesser one. -/
theorem infl_most {V nb most k : Nat} {out : List UInt8} (h : infl V nb most = some (.ok k out)) :
    out.length ≤ most ∧ k ≤ nb ∧ infl V nb out.length = some (.ok k out) ∧ ∀ m, m < out.length → infl V nb m = some (.err .bound) := by
  unfold infl at h ⊢
  obtain ⟨a1, a2, a3, a5⟩ := blocks_run (of_run h) _ _ rfl
  exact ⟨a2 (by simp), a3, run_of ((a5 _).1 (Nat.le_refl _)), fun m c => run_of ((a5 m).2 (by simp) c)⟩
end Go.Proofs.YtbbcfghlhgaofadGreatDoor.Nf
