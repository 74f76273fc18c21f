/- Walks of the writer of blocks: which symbol tells a length or a distance; numbers, heads. Walks of the writer of blocks: a symbol by its word. What a walk is told of a slice of tokens that came in; what tokens mean. -/
import Derived.Test.YtfeljhikeddodaeGreatDoorMg17
import Derived.Test.YtfeljhikeddodaeGreatDoorMg15
import Derived.Test.YtfeljhikeddodaeGreatDoorMg1
import Derived.ProofKit
import Derived.OpenShut
import Derived.ChangeArms
import Derived.Deep.Slices
import Derived.Deep.Strs
import Derived.Lib.SmallJoins
namespace Go.Proofs.YtfeljhikeddodaeGreatDoor
open Go.RowKit Pm Cn Nf Ps

set_option maxHeartbeats 1000000 in
theorem symLen_any (n : Nat) (w : World) (hB : Bl w) (hn : 3 ≤ n ∧ n ≤ 258) :
    Calls Tryz.prog 60 #[.int .i64 (n : Int)] w fun e w' => e = .returned (.int .i64 ((257 + pl lens n : Nat) : Int)) ∧ w' = w := by
  have HB := hide hB
  clear hB
  have HX : Hid (∀ j, j ≤ 28 → (∀ i, j < i → i ≤ 28 → n < lens.getD i 0) → lens.getD j 0 ≤ n → j = pl lens n) := fun j hj h1 h2 => (plU_is (row := lens) (k := 28) h2 hj h1).symm
  have h3 : lens.getD 0 0 ≤ n := hn.1
  have H3 := hide h3
  clear h3
  go_enter Tryz.func60, Tryz.ntmps60
  go_wp2
  go_loop [3] (fun v => ∃ j : Nat, j ≤ 28 ∧ v = .int .i64 (j : Int) ∧ Hid (∀ i, j < i → i ≤ 28 → n < lens.getD i 0)) (fun v => (intOf v).toNat)
  case atStart => exact ⟨28, by omega, rfl, fun i h1 h2 => by omega⟩
  case round =>
    obtain ⟨j, hj, rfl, HA⟩ := hrel
    have c10 := (unhide HB).lenF j (by omega)
    have hj29 : (j : Int) < 29 := by omega
    by_cases h0 : 0 < j
    · have g0 : decide ((j : Int) > 0) = true := by simp; omega
      have g0' : decide ((0 : Int) < (j : Int)) = true := g0
      have g0n : decide (0 < j) = true := by simp; omega
      by_cases hlt : n < lens.getD j 0
      · obtain ⟨x, hx⟩ : ∃ x, x = lens.getD j 0 := ⟨_, rfl⟩
        rw [← hx] at c10
        have g1 : decide ((x : Int) > (n : Int)) = true := by simp; omega
        have g1' : decide ((n : Int) < (x : Int)) = true := g1
        have g1n : decide (n < x) = true := by simp; omega
        obtain ⟨k, hk⟩ : ∃ k, k + 1 = j := ⟨j - 1, by omega⟩
        have zk : (j : Int) - 1 = (k : Int) := by omega
        have HA2 : Hid (∀ i, k < i → i ≤ 28 → n < lens.getD i 0) := fun i h1 h2 => by
          by_cases e : i = j
          · subst e; exact hlt
          · exact unhide HA i (by omega) h2
        have hkl : k ≤ 28 := by omega
        have hkj : k < j := by omega
        clear hk hlt hx
        go_wp2
        go_round
        case rel => exact ⟨k, hkl, rfl, HA2⟩
        case measure => simp [intOf]; omega
      · obtain ⟨x, hx⟩ : ∃ x, x = lens.getD j 0 := ⟨_, rfl⟩
        have HE := hide (unhide HX j hj (unhide HA) (by omega))
        rw [← hx] at c10
        have g1 : decide ((x : Int) > (n : Int)) = false := by simp; omega
        have g1' : decide ((n : Int) < (x : Int)) = false := g1
        have g1n : decide (n < x) = false := by simp; omega
        obtain ⟨r, hr⟩ : ∃ r, r = 257 + j := ⟨_, rfl⟩
        have zr : (257 : Int) + (j : Int) = (r : Int) := by omega
        have hrl : r ≤ 300 := by omega
        have HR := hide hr
        clear hlt hx hr
        go_wp2
        go_ret
        exact ⟨ret_int (by have := unhide HR; have := unhide HE; omega), rfl⟩
    · have : j = 0 := by omega
      subst this
      have HE := hide (unhide HX 0 hj (unhide HA) (unhide H3))
      clear c10
      go_wp2
      go_ret
      exact ⟨ret_int (by rw [← unhide HE]; rfl), rfl⟩

set_option maxHeartbeats 1000000 in
theorem symDist_any (n : Nat) (w : World) (hB : Bl w) (hn : 1 ≤ n ∧ n ≤ 32768) :
    Calls Tryz.prog 61 #[.int .i64 (n : Int)] w fun e w' => e = .returned (.int .i64 ((pl dists n : Nat) : Int)) ∧ w' = w := by
  have HB := hide hB
  clear hB
  have HX : Hid (∀ j, j ≤ 29 → (∀ i, j < i → i ≤ 29 → n < dists.getD i 0) → dists.getD j 0 ≤ n → j = pl dists n) := fun j hj h1 h2 => (plU_is (row := dists) (k := 29) h2 hj h1).symm
  have h3 : dists.getD 0 0 ≤ n := hn.1
  have H3 := hide h3
  clear h3
  go_enter Tryz.func61, Tryz.ntmps61
  go_wp2
  go_loop [3] (fun v => ∃ j : Nat, j ≤ 29 ∧ v = .int .i64 (j : Int) ∧ Hid (∀ i, j < i → i ≤ 29 → n < dists.getD i 0)) (fun v => (intOf v).toNat)
  case atStart => exact ⟨29, by omega, rfl, fun i h1 h2 => by omega⟩
  case round =>
    obtain ⟨j, hj, rfl, HA⟩ := hrel
    have c10 := (unhide HB).distF j (by omega)
    have hj29 : (j : Int) < 30 := by omega
    by_cases h0 : 0 < j
    · have g0 : decide ((j : Int) > 0) = true := by simp; omega
      have g0' : decide ((0 : Int) < (j : Int)) = true := g0
      have g0n : decide (0 < j) = true := by simp; omega
      by_cases hlt : n < dists.getD j 0
      · obtain ⟨x, hx⟩ : ∃ x, x = dists.getD j 0 := ⟨_, rfl⟩
        rw [← hx] at c10
        have g1 : decide ((x : Int) > (n : Int)) = true := by simp; omega
        have g1' : decide ((n : Int) < (x : Int)) = true := g1
        have g1n : decide (n < x) = true := by simp; omega
        obtain ⟨k, hk⟩ : ∃ k, k + 1 = j := ⟨j - 1, by omega⟩
        have zk : (j : Int) - 1 = (k : Int) := by omega
        have HA2 : Hid (∀ i, k < i → i ≤ 29 → n < dists.getD i 0) := fun i h1 h2 => by
          by_cases e : i = j
          · subst e; exact hlt
          · exact unhide HA i (by omega) h2
        have hkl : k ≤ 29 := by omega
        have hkj : k < j := by omega
        clear hk hlt hx
        go_wp2
        go_round
        case rel => exact ⟨k, hkl, rfl, HA2⟩
        case measure => simp [intOf]; omega
      · obtain ⟨x, hx⟩ : ∃ x, x = dists.getD j 0 := ⟨_, rfl⟩
        have HE := hide (unhide HX j hj (unhide HA) (by omega))
        rw [← hx] at c10
        have g1 : decide ((x : Int) > (n : Int)) = false := by simp; omega
        have g1' : decide ((n : Int) < (x : Int)) = false := g1
        have g1n : decide (n < x) = false := by simp; omega
        clear hlt hx
        go_wp2
        go_ret
        exact ⟨ret_int (by rw [unhide HE]), rfl⟩
    · have : j = 0 := by omega
      subst this
      have HE := hide (unhide HX 0 hj (unhide HA) (unhide H3))
      clear c10
      go_wp2
      go_ret
      exact ⟨ret_int (by rw [← unhide HE]; rfl), rfl⟩

end Go.Proofs.YtfeljhikeddodaeGreatDoor
namespace Go.Proofs.YtfeljhikeddodaeGreatDoor
open Go.RowKit Pm Cn Nf Ps

/-- A code as a value: lengths and words in memory, apart from the writer at p. -/
structure CV (w : World) (p : Nat) (v : Value) (l : Nat → Nat) (N : Nat) : Prop where
  is : ∃ b1 o1 c1 b2 o2 c2, v = .agg #[.slice (some ⟨b1, o1, none⟩) N c1, .slice (some ⟨b2, o2, none⟩) N c2] ∧
    (∀ i, i < N → w.cell? ⟨b1, o1 + i, none⟩ = some (.int .i64 (l i : Nat))) ∧ (∀ i, i < N → w.cell? ⟨b2, o2 + i, none⟩ = some (.int .u32 (code l N i : Nat))) ∧ (b1 ≠ p ∧ b1 ≠ rowOf w p) ∧ b2 ≠ p ∧ b2 ≠ rowOf w p
  pos : 0 < N
  few : N ≤ 300

theorem CV.kept {w w' : World} {p N : Nat} {v : Value} {l : Nat → Nat} (h : CV w p v l N) (hk : Kept p w w') : CV w' p v l N := by
  have hN := h.pos
  obtain ⟨b1, o1, c1, b2, o2, c2, hv, h1, h2, h3, h4⟩ := h.is
  have g1 := World.block_lt_of_cell? _ _ (h1 0 hN)
  have g2 := World.block_lt_of_cell? _ _ (h2 0 hN)
  simp only at g1 g2
  refine ⟨⟨b1, o1, c1, b2, o2, c2, hv, fun i hi => (hk.cell (a := ⟨b1, o1 + i, none⟩) g1 h3.1 h3.2).trans (h1 i hi), fun i hi => (hk.cell (a := ⟨b2, o2 + i, none⟩) g2 h4.1 h4.2).trans (h2 i hi), ⟨h3.1, ?_⟩, h4.1, ?_⟩, hN, h.few⟩
  · rcases hk.row with e | e
    · rw [e]; exact h3.2
    · omega
  · rcases hk.row with e | e
    · rw [e]; exact h4.2
    · omega

set_option maxHeartbeats 1000000 in
set_option maxRecDepth 100000 in
theorem wsymbol_any (p : Nat) (ls : List Pc) (v : Value) (l : Nat → Nat) (N i : Nat) (w : World) (hW : WP w p ls) (hC : CV w p v l N) (hi : i < N) (h15 : l i ≤ 15) (hcd : code l N i < 2 ^ l i) (hc : len ls + 40 ≤ 4000000) :
    Calls Tryz.prog 59 #[.pointer (some ⟨p, 0, none⟩), v, .int .i64 (i : Int)] w fun e w' => e = .returned (.tuple #[]) ∧ WP w' p (ls ++ [word l N i]) ∧ Kept p w w' := by
  have hN := hC.few
  obtain ⟨b1, o1, c1, b2, o2, c2, rfl, h1, h2, h3, h4⟩ := hC.is
  have k1 := h1 i hi
  have k2 := h2 i hi
  have hb1 := World.block_lt_of_cell? _ _ k1
  have hb2 := World.block_lt_of_cell? _ _ k2
  simp only at hb1 hb2
  have hil : (i : Int) < (N : Int) := by omega
  have hlt := hW.lt
  have hrow := hW.row
  have ba : Below w.heap.size w (w.alloc (.cells #[.slice (some ⟨b1, o1, none⟩) N c1, .slice (some ⟨b2, o2, none⟩) N c2] 78)).drew := ((Below.refl _ _).alloc (Nat.le_refl _) _).drew
  have hWa := hW.below ba
  have hka := hW.keep ba
  have hra : rowOf (w.alloc (.cells #[.slice (some ⟨b1, o1, none⟩) N c1, .slice (some ⟨b2, o2, none⟩) N c2] 78)).drew p = rowOf w p := rowOf_same (ba.cell hlt)
  have HT : Hid (Calls Tryz.prog 85 #[.pointer (some ⟨p, 0, none⟩), .int .u32 (code l N i : Int), .int .i64 (l i : Int)] (w.alloc (.cells #[.slice (some ⟨b1, o1, none⟩) N c1, .slice (some ⟨b2, o2, none⟩) N c2] 78)).drew fun e w' => e = .returned .nilIface ∧ WAt w' p (len ls + l i) (val ls + 2 ^ len ls * Bt.rev (code l N i) (l i)) ∧ Kept p (w.alloc (.cells #[.slice (some ⟨b1, o1, none⟩) N c1, .slice (some ⟨b2, o2, none⟩) N c2] 78)).drew w') := turned_yes p (len ls) (val ls) (code l N i) (l i) _ hWa (by omega) hcd hc
  have HFIN : Hid (∀ w2, WAt w2 p (len ls + l i) (val ls + 2 ^ len ls * Bt.rev (code l N i) (l i)) → WP w2 p (ls ++ [word l N i])) := fun w2 h => by
    show WAt _ _ _ _
    rw [len_append, val_append]
    simpa [len, val, word] using h
  have entT : ∀ args w, (callFunc 85 args).run Tryz.prog w = .ok (.enter 85 args) w := enters_of Tryz.func85 (by kernel_rfl) rfl
  have hcu : (code l N i : Int) < 4294967296 := by
    have : 2 ^ l i ≤ 2 ^ 15 := Nat.pow_le_pow_right (by omega) h15
    omega
  generalize code l N i = cd at *
  generalize l i = li at *
  obtain ⟨q, hq⟩ : ∃ q, q = w.heap.size := ⟨_, rfl⟩
  have S1 : (w.alloc (.cells #[.slice (some ⟨b1, o1, none⟩) N c1, .slice (some ⟨b2, o2, none⟩) N c2] 78)).cell? ⟨q, 0, none⟩ = some (.slice (some ⟨b1, o1, none⟩) N c1) := by rw [hq]; simp
  have S2 : (w.alloc (.cells #[.slice (some ⟨b1, o1, none⟩) N c1, .slice (some ⟨b2, o2, none⟩) N c2] 78)).cell? ⟨q, 1, none⟩ = some (.slice (some ⟨b2, o2, none⟩) N c2) := by rw [hq]; simp
  have S3 := (ba.cell (p := ⟨b1, o1 + i, none⟩) hb1).trans k1
  have S4 := (ba.cell (p := ⟨b2, o2 + i, none⟩) hb2).trans k2
  have hqn : q < (w.alloc (.cells #[.slice (some ⟨b1, o1, none⟩) N c1, .slice (some ⟨b2, o2, none⟩) N c2] 78)).drew.heap.size := World.block_lt_of_cell? _ _ S1
  have hsz : w.heap.size ≤ (w.alloc (.cells #[.slice (some ⟨b1, o1, none⟩) N c1, .slice (some ⟨b2, o2, none⟩) N c2] 78)).drew.heap.size := ba.size
  have HQ : Hid (∀ w2, Kept p (w.alloc (.cells #[.slice (some ⟨b1, o1, none⟩) N c1, .slice (some ⟨b2, o2, none⟩) N c2] 78)).drew w2 → (w2.cell? ⟨q, 0, none⟩ = some (.slice (some ⟨b1, o1, none⟩) N c1) ∧ w2.cell? ⟨q, 1, none⟩ = some (.slice (some ⟨b2, o2, none⟩) N c2) ∧ w2.cell? ⟨b1, o1 + i, none⟩ = some (.int .i64 (li : Nat)) ∧ w2.cell? ⟨b2, o2 + i, none⟩ = some (.int .u32 (cd : Nat)))) := fun w2 hk =>
    ⟨(hk.cell (a := ⟨q, 0, none⟩) hqn (by show q ≠ p; omega) (by show q ≠ _; rw [hra]; omega)).trans S1, (hk.cell (a := ⟨q, 1, none⟩) hqn (by show q ≠ p; omega) (by show q ≠ _; rw [hra]; omega)).trans S2, (hk.cell (a := ⟨b1, o1 + i, none⟩) (by show b1 < _; omega) h3.1 (by rw [hra]; exact h3.2)).trans S3, (hk.cell (a := ⟨b2, o2 + i, none⟩) (by show b2 < _; omega) h4.1 (by rw [hra]; exact h4.2)).trans S4⟩
  have HS := hide (And.intro S1 (And.intro S2 (And.intro S3 S4)))
  have Hka := hide hka
  clear hW hC h1 h2 k1 k2 h3 h4 ba hWa hka hra hc S1 S2 S3 S4 hrow
  go_enter Tryz.func59, Tryz.ntmps59
  go_wp2_with fail
  rw [← hq]
  rw [← hq] at *
  refine wp_region_held_drew (S := fun w' => w'.cell? ⟨q, 0, none⟩ = some (.slice (some ⟨b1, o1, none⟩) N c1) ∧ w'.cell? ⟨q, 1, none⟩ = some (.slice (some ⟨b2, o2, none⟩) N c2) ∧ w'.cell? ⟨b1, o1 + i, none⟩ = some (.int .i64 (li : Nat)) ∧ w'.cell? ⟨b2, o2 + i, none⟩ = some (.int .u32 (cd : Nat))) (by kernel_rfl) (unhide HS) (fun hHeld => ?_)
  refine wpAnyH_take (i := 0) (v := .pointer (some ⟨p, 0, none⟩)) rfl (by kernel_rfl) (by kernel_rfl) (by kernel_rfl) (fun _ _ _ h => h) (Or.inl ⟨by rfl, ?_⟩) hHeld ?_
  · intro w' hSw
    obtain ⟨s1, s2, s3, s4⟩ := hSw
    go_simp
  simp only [Act.put, List.setIfInBounds_toArray]
  refine wpAnyH_take (i := 1) (v := .pointer (some ⟨p, 0, none⟩)) rfl (by kernel_rfl) (by kernel_rfl) (by kernel_rfl) (fun _ _ _ h => h) (Or.inl ⟨by rfl, ?_⟩) hHeld ?_
  · intro w' hSw
    obtain ⟨s1, s2, s3, s4⟩ := hSw
    go_simp
  simp only [Act.put]
  refine wpAnyH_take (i := 2) (v := .pointer (some ⟨p, 0, none⟩)) rfl (by kernel_rfl) (by kernel_rfl) (by kernel_rfl) (fun _ _ _ h => h) (Or.inl ⟨by rfl, ?_⟩) hHeld ?_
  · intro w' hSw
    obtain ⟨s1, s2, s3, s4⟩ := hSw
    go_simp
  simp only [Act.put]
  refine wpAnyH_take (i := 3) (v := .pointer (some ⟨q, 1, none⟩)) rfl (by kernel_rfl) (by kernel_rfl) (by kernel_rfl) (fun _ _ _ h => h) (Or.inl ⟨by rfl, ?_⟩) hHeld ?_
  · intro w' hSw
    obtain ⟨s1, s2, s3, s4⟩ := hSw
    go_simp
  simp only [Act.put]
  refine wpAnyH_take (i := 4) (v := .slice (some ⟨b2, o2, none⟩) N c2) rfl (by kernel_rfl) (by kernel_rfl) (by kernel_rfl) (fun _ _ _ h => h) (Or.inl ⟨by rfl, ?_⟩) hHeld ?_
  · intro w' hSw
    obtain ⟨s1, s2, s3, s4⟩ := hSw
    go_simp
  simp only [Act.put]
  refine wpAnyH_take (i := 5) (v := .int .i64 (i : Int)) rfl (by kernel_rfl) (by kernel_rfl) (by kernel_rfl) (fun _ _ _ h => h) (Or.inl ⟨by rfl, ?_⟩) hHeld ?_
  · intro w' hSw
    obtain ⟨s1, s2, s3, s4⟩ := hSw
    go_simp
  simp only [Act.put]
  refine wpAnyH_take (i := 6) (v := .pointer (some ⟨b2, o2 + i, none⟩)) rfl (by kernel_rfl) (by kernel_rfl) (by kernel_rfl) (fun _ _ _ h => h) (Or.inl ⟨by rfl, ?_⟩) hHeld ?_
  · intro w' hSw
    obtain ⟨s1, s2, s3, s4⟩ := hSw
    go_simp
  simp only [Act.put]
  refine wpAnyH_take (i := 7) (v := .int .u32 (cd : Nat)) rfl (by kernel_rfl) (by kernel_rfl) (by kernel_rfl) (fun _ _ _ h => h) (Or.inl ⟨by rfl, ?_⟩) hHeld ?_
  · intro w' hSw
    obtain ⟨s1, s2, s3, s4⟩ := hSw
    go_simp
  simp only [Act.put]
  refine wpAnyH_take (i := 8) (v := .pointer (some ⟨q, 0, none⟩)) rfl (by kernel_rfl) (by kernel_rfl) (by kernel_rfl) (fun _ _ _ h => h) (Or.inl ⟨by rfl, ?_⟩) hHeld ?_
  · intro w' hSw
    obtain ⟨s1, s2, s3, s4⟩ := hSw
    go_simp
  simp only [Act.put]
  refine wpAnyH_take (i := 9) (v := .slice (some ⟨b1, o1, none⟩) N c1) rfl (by kernel_rfl) (by kernel_rfl) (by kernel_rfl) (fun _ _ _ h => h) (Or.inl ⟨by rfl, ?_⟩) hHeld ?_
  · intro w' hSw
    obtain ⟨s1, s2, s3, s4⟩ := hSw
    go_simp
  simp only [Act.put]
  refine wpAnyH_take (i := 10) (v := .int .i64 (i : Int)) rfl (by kernel_rfl) (by kernel_rfl) (by kernel_rfl) (fun _ _ _ h => h) (Or.inl ⟨by rfl, ?_⟩) hHeld ?_
  · intro w' hSw
    obtain ⟨s1, s2, s3, s4⟩ := hSw
    go_simp
  simp only [Act.put]
  refine wpAnyH_take (i := 11) (v := .pointer (some ⟨b1, o1 + i, none⟩)) rfl (by kernel_rfl) (by kernel_rfl) (by kernel_rfl) (fun _ _ _ h => h) (Or.inl ⟨by rfl, ?_⟩) hHeld ?_
  · intro w' hSw
    obtain ⟨s1, s2, s3, s4⟩ := hSw
    go_simp
  simp only [Act.put]
  refine wpAnyH_take (i := 12) (v := .int .i64 (li : Nat)) rfl (by kernel_rfl) (by kernel_rfl) (by kernel_rfl) (fun _ _ _ h => h) (Or.inl ⟨by rfl, ?_⟩) hHeld ?_
  · intro w' hSw
    obtain ⟨s1, s2, s3, s4⟩ := hSw
    go_simp
  simp only [Act.put]
  refine wpAnyH_ready (rs := [13]) (by kernel_rfl) (by simp) ?_
  refine AllReadyH.cons rfl (fun K hK => ?_) AllReadyH.nil
  refine step_calls rfl 85 [.tmp 8, .tmp 13, .tmp 18] #[71, 45, 3] rfl [.pointer (some ⟨p, 0, none⟩), .int .u32 (cd : Int), .int .i64 (li : Int)] (by simp [Act.eval]) entT ?_
  refine (unhide HT).mono ?_
  rintro e w2 ⟨rfl, hW2, hk2⟩
  refine .inl ⟨_, rfl, ?_⟩
  have HW2 := hide (unhide HFIN w2 hW2)
  have hkw := (unhide Hka).trans hk2
  refine hK.out _ _ (unhide HQ w2 hk2) (fun hHeld => ?_)
  clear hK K HT hW2 HFIN HQ
  simp only [Act.put]
  refine wpAnyH_done (by kernel_rfl) ?_ _
  go_wp2
  go_end0
  exact ⟨rfl, unhide HW2, hkw⟩
end Go.Proofs.YtfeljhikeddodaeGreatDoor
namespace Go.Proofs.YtfeljhikeddodaeGreatDoor
open Go.ChangeShapes Go.WideShapes Go.RowKit Go.Deep

/-- Tokens: bytes, lengths, how far behind. -/
structure Tks where
  b : Nat → Nat
  l : Nat → Int
  d : Nat → Int

/-- It is empty; or it leads to a row of tokens. -/
def IsTokens (w : World) (a : Option Addr) (len : Nat) (t : Tks) : Prop :=
  len = 0 ∨ ∃ b off, a = some ⟨b, off, none⟩ ∧ len ≤ maxLen ∧ ∀ i, i < len →
    w.cell? ⟨b, off + i * 3, none⟩ = some (.int .u8 (t.b i : Nat)) ∧ w.cell? ⟨b, off + i * 3 + 1, none⟩ = some (.int .i64 (t.l i)) ∧
    w.cell? ⟨b, off + i * 3 + 2, none⟩ = some (.int .i64 (t.d i)) ∧
    t.b i < 256 ∧ (-9223372036854775808 ≤ t.l i ∧ t.l i ≤ 9223372036854775807) ∧ (-9223372036854775808 ≤ t.d i ∧ t.d i ≤ 9223372036854775807)

theorem IsTokens.below {w w' : World} {a : Option Addr} {len : Nat} {t : Tks} (h : IsTokens w a len t) (hb : Below w.heap.size w w') : IsTokens w' a len t := by
  rcases h with h | ⟨b, off, ha, hl, h⟩
  · exact .inl h
  · refine .inr ⟨b, off, ha, hl, fun i hi => ?_⟩
    obtain ⟨h0, h1, h2, h3⟩ := h i hi
    have hlt : b < w.heap.size := World.block_lt_of_cell? _ _ h0
    exact ⟨(hb.cell (p := ⟨b, off + i * 3, none⟩) hlt).trans h0, (hb.cell (p := ⟨b, off + i * 3 + 1, none⟩) hlt).trans h1, (hb.cell (p := ⟨b, off + i * 3 + 2, none⟩) hlt).trans h2, h3⟩

theorem tokens_cells : Tryz.prog.cellsOf 38 = 3 := by kernel_rfl
theorem tok_cells_u8 : Tryz.prog.cellsOf 5 = 1 := by kernel_rfl
theorem tok_cells_int : Tryz.prog.cellsOf 3 = 1 := by kernel_rfl

theorem three_of {α : Type} (l : List α) (h : l.length = 3) : ∃ a b c, l = [a, b, c] :=
  match l, h with
  | [a, b, c], _ => ⟨a, b, c, rfl⟩

theorem open_tokens {H : Type} {enc : TypeId × Value → H} {w : World} {base : Nat} {spare : Nat → Bool} {held : Bool} {fuel : Nat} {a : Option Addr} {len cap : Nat} {x : DataW H × List MemPlace}
    (h : DataW.trod enc Tryz.prog w base spare held fuel 23 [.slice a len cap] = some x) :
    ∃ t : Tks, IsTokens w a len t := by
  rcases open_slice Tryz.underlying23 h with ⟨hcs, _⟩ | ⟨x, l, c, m, n, D, Pl, hcs, _, hl, hm, hmm, _, hx⟩
  · simp at hcs
    exact ⟨⟨fun _ => 0, fun _ => 0, fun _ => 0⟩, .inl hcs.2.1⟩
  simp at hcs
  obtain ⟨rfl, rfl, rfl⟩ := hcs
  have hlm : len ≤ m := by rw [hmm]; split <;> omega
  by_cases h0 : len = 0
  · exact ⟨⟨fun _ => 0, fun _ => 0, fun _ => 0⟩, .inl h0⟩
  have each : ∀ i, i < len → ∃ q : Nat × Int × Int, w.cell? (x.add (3 * i)) = some (.int .u8 (q.1 : Nat)) ∧ w.cell? (x.add (3 * i + 1)) = some (.int .i64 q.2.1) ∧
      w.cell? (x.add (3 * i + 2)) = some (.int .i64 q.2.2) ∧ q.1 < 256 ∧ (-9223372036854775808 ≤ q.2.1 ∧ q.2.1 ≤ 9223372036854775807) ∧ (-9223372036854775808 ≤ q.2.2 ∧ q.2.2 ≤ 9223372036854775807) := by
    intro i hi
    obtain ⟨cs', h1, h2⟩ := hx i (by omega)
    rw [tokens_cells] at h1
    obtain ⟨_, hlen, hcell⟩ := World.cells?_some h1
    obtain ⟨y0, y1, y2, k, _, _, g0, g1, g2⟩ := trod_struct3 Tryz.underlying38 h2
    obtain ⟨v0, v1, v2, rfl⟩ := three_of cs' hlen
    · simp [tok_cells_u8, tok_cells_int] at g0 g1 g2
      obtain ⟨n0, e0, _, wf0⟩ := DataW.trod_int Tryz.underlying5 g0
      obtain ⟨n1, e1, _, wf1⟩ := DataW.trod_int Tryz.underlying3 g1
      obtain ⟨n2, e2, _, wf2⟩ := DataW.trod_int Tryz.underlying3 g2
      simp at e0 e1 e2
      subst e0 e1 e2
      have k0 := hcell 0 (by omega)
      have k1 := hcell 1 (by omega)
      have k2 := hcell 2 (by omega)
      rw [add_add, Nat.mul_comm] at k0 k1 k2
      have u0 := bounds_u8 wf0
      have u1 := bounds_i64 wf1
      have u2 := bounds_i64 wf2
      obtain ⟨m0, rfl⟩ := Int.eq_ofNat_of_zero_le u0.1
      exact ⟨(m0, n1, n2), by simpa using k0, by simpa using k1, by simpa using k2, by show m0 < 256; omega, by show _ ∧ _; omega, by show _ ∧ _; omega⟩
  obtain ⟨q, hq⟩ := choose_lt each
  obtain ⟨b, off, spot⟩ := x
  have hspot : spot = none := by
    have := (hq 0 (by omega)).1
    simpa [Addr.add] using World.cell?_spot this
  subst hspot
  refine ⟨⟨fun i => (q i).1, fun i => (q i).2.1, fun i => (q i).2.2⟩, .inr ⟨b, off, rfl, by omega, fun i hi => ?_⟩⟩
  have hadd : ∀ j, (⟨b, off, none⟩ : Addr).add j = ⟨b, off + j, none⟩ := fun j => by unfold Addr.add; split <;> simp_all
  have := hq i hi
  simpa [hadd, Nat.add_assoc, Nat.mul_comm] using this

/-- So many bytes more, each as one that stands so far back. -/
def cpy (out : List UInt8) (back : Nat) : Nat → List UInt8
  | 0 => out
  | n + 1 => cpy out back n ++ [(cpy out back n).getD ((cpy out back n).length - back) 0]
theorem cpy_length (out : List UInt8) (back n : Nat) : (cpy out back n).length = out.length + n := by
  induction n with
  | zero => rfl
  | succ n ih => unfold cpy; rw [List.length_append, ih]; simp; omega

/-- What the first of them mean. -/
def Tks.out (t : Tks) : Nat → List UInt8
  | 0 => []
  | i + 1 => if t.l i = 0 then t.out i ++ [UInt8.ofNat (t.b i)] else cpy (t.out i) (t.d i).toNat (t.l i).toNat
/-- A byte, or a match. -/
def Tks.shaped (t : Tks) (i : Nat) : Prop :=
  if t.l i = 0 then t.d i = 0 else t.b i = 0 ∧ (3 ≤ t.l i ∧ t.l i ≤ 258) ∧ 1 ≤ t.d i ∧ t.d i ≤ 32768
/-- It is one, and does not reach back ahead of the beginning. -/
def Tks.good (t : Tks) (i : Nat) : Prop := t.shaped i ∧ t.d i ≤ (t.out i).length
/-- Bytes of matches, at most. -/
def Tks.wide (t : Tks) : Nat → Int
  | 0 => 0
  | i + 1 => t.wide i + if 0 < t.l i ∧ t.l i ≤ 258 then t.l i else 0

theorem Tks.wide_le (t : Tks) (i : Nat) : 0 ≤ t.wide i ∧ t.wide i ≤ 258 * i := by
  induction i with
  | zero => exact ⟨Int.le_refl _, Int.le_refl _⟩
  | succ i ih => unfold wide; split <;> omega
theorem Tks.wide_mono (t : Tks) {i j : Nat} (h : i ≤ j) : t.wide i ≤ t.wide j := by
  induction j with
  | zero => have : i = 0 := by omega
            subst this; exact Int.le_refl _
  | succ j ih =>
    by_cases e : i = j + 1
    · subst e; exact Int.le_refl _
    · have := ih (by omega)
      have h2 : t.wide (j + 1) = t.wide j + if 0 < t.l j ∧ t.l j ≤ 258 then t.l j else 0 := rfl
      rw [h2]; split <;> omega

theorem Tks.out_next (t : Tks) {i : Nat} (h : t.shaped i) : ((t.out (i + 1)).length : Int) = (t.out i).length + (if t.l i = 0 then 1 else t.l i) := by
  show (((if t.l i = 0 then t.out i ++ [UInt8.ofNat (t.b i)] else cpy (t.out i) (t.d i).toNat (t.l i).toNat) : List UInt8).length : Int) = _
  unfold shaped at h
  split at h
  · rename_i e; rw [if_pos e, if_pos e]; simp
  · rename_i e; rw [if_neg e, if_neg e, cpy_length]; omega
theorem Tks.out_le (t : Tks) {i : Nat} (h : ∀ j, j < i → t.shaped j) : ((t.out i).length : Int) ≤ i + t.wide i := by
  induction i with
  | zero => show ((0 : Nat) : Int) ≤ _; simp [wide]
  | succ i ih =>
    have h1 := ih (fun j hj => h j (by omega))
    have h2 := h i (by omega)
    rw [t.out_next h2]
    have h3 : t.wide (i + 1) = t.wide i + if 0 < t.l i ∧ t.l i ≤ 258 then t.l i else 0 := rfl
    rw [h3]
    unfold shaped at h2
    split at h2
    · rename_i e; rw [if_pos e]; split <;> omega
    · rename_i e; rw [if_neg e, if_pos (by omega)]; omega

end Go.Proofs.YtfeljhikeddodaeGreatDoor
