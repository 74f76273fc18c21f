/- Walk of the program's pairs of packages. -/
import Derived.Test.YtfeljhikeddodadGreatDoorMh13
import Derived.Deep.RegionHeld
namespace Go.Proofs.YtfeljhikeddodadGreatDoor
open Go.Shelf Go.RowKit Go.Lib Go.Sort St Pm
variable {Bq : Nat}

theorem new_pk {w6 : World} {sg c : Nat → Nat} {base gc cc l12 : Nat} {F1 F2 : List Nat} (hcat : w6.ownsRow base 3 1 (.slice (some ⟨gc, 0, none⟩) (F1.length + F2.length) cc) (F1.length + F2.length) (natVals (F1.map sg) ++ natVals (F2.map sg))) (hl : l12 = Pm.load c (F1 ++ F2)) (hp : 0 < F1.length) (hq : Bq ≤ gc) :
    PkAt Bq w6 sg c ((l12 : Int), some ⟨gc, 0, none⟩, F1.length + F2.length, cc) (F1 ++ F2) := by
  refine ⟨by rw [hl], by simp, by simp; omega, gc, 0, rfl, hq, fun j hj => ?_⟩
  have e : natVals (F1.map sg) ++ natVals (F2.map sg) = natVals ((F1 ++ F2).map sg) := by simp [natVals]
  rw [e] at hcat
  have h := hcat.cellAt j (by simpa using hj)
  rw [natVals_at, List.getElem?_map, List.getElem?_eq_getElem hj] at h
  rw [Nat.zero_add]
  exact h
set_option maxHeartbeats 4000000 in
set_option maxRecDepth 100000 in
theorem pairs_some (sg c : Nat → Nat) (g cap : Nat) (xs : List PkV) (Q : List (List Nat)) (w : World) (ha : AllP Bq w sg c xs Q)
    (hx : ∀ i, (h : i < xs.length) → w.cell? ⟨g, i * 2, none⟩ = some (.int .i64 xs[i].1) ∧ w.cell? ⟨g, i * 2 + 1, none⟩ = some (.slice xs[i].2.1 xs[i].2.2.1 xs[i].2.2.2)) (hlen : xs.length ≤ 1000) (hsm : ∀ F ∈ Q, F.length ≤ 40000 ∧ Pm.load c F ≤ 1000000000000) (hq : Bq ≤ w.heap.size) :
    Calls Tryz.prog 129 #[.slice (some ⟨g, 0, none⟩) xs.length cap] w fun e w' => ∃ v, e = .returned v ∧ IsPk Bq w' sg c v (cat Q) ∧ Below w.heap.size w w' := by
  have hl := ha.length
  have HA := hide ha
  have HX := hide hx
  have HSM := hide hsm
  have HL := hide hl
  obtain ⟨n, hn⟩ : ∃ n, n = xs.length / 2 := ⟨_, rfl⟩
  have zn : (xs.length : Int) / 2 = (n : Int) := by omega
  have ln1 : 2 * n ≤ xs.length := by omega
  have ln2 : xs.length ≤ 2 * n + 1 := by omega
  clear ha hx hsm hl hn
  go_enter Tryz.func129, Tryz.ntmps129
  go_wp2
  go_loopw [3, 10] (fun v i wr => ∃ (k : Nat) (ys : List PkV), k ≤ n ∧ i = .int .i64 k ∧ Hid (wr.ownsRow w.heap.size 125 2 v k (pkCells ys)) ∧ Hid (AllP Bq wr sg c ys ((cat Q).take k)) ∧ Below w.heap.size w wr ∧ Hid (∀ y ∈ ys, ∀ ad : Addr, y.2.1 = some ad → v.ownBlock ≠ some ad.block)) (fun _ i _ => n - (intOf i).toNat)
  case atStart => exact ⟨0, [], by omega, rfl, World.ownsRow_nil _ _ _ _, (trivial : AllP Bq w sg c [] []), Below.refl _ _, (fun y hy => by cases hy)⟩
  case round =>
    obtain ⟨k, ys, hk, rfl, Ho, HY, hbr, HAP⟩ := hrel
    by_cases hlt : k < n
    · have d1 : decide ((k : Int) < (n : Int)) = true := by simp; omega
      obtain ⟨k2, hk2⟩ : ∃ q, q = 2 * k := ⟨_, rfl⟩
      obtain ⟨k3, hk3⟩ : ∃ q, q = 2 * k + 1 := ⟨_, rfl⟩
      have l2 : k2 < xs.length := by omega
      have l3 : k3 < xs.length := by omega
      have z2 : 2 * (k : Int) = (k2 : Int) := by omega
      have z3 : (k2 : Int) + 1 = (k3 : Int) := by omega
      have b2 : (k2 : Int) < (xs.length : Int) := by omega
      have b3 : (k3 : Int) < (xs.length : Int) := by omega
      obtain ⟨c1, c2⟩ := unhide HX k2 l2
      obtain ⟨c3, c4⟩ := unhide HX k3 l3
      have q2 : k2 < Q.length := by have := unhide HL; omega
      have q3 : k3 < Q.length := by have := unhide HL; omega
      have px := ((unhide HA).at k2 l2 q2).below hbr
      have py := ((unhide HA).at k3 l3 q3).below hbr
      obtain ⟨F1, hF1⟩ : ∃ F, F = Q[k2] := ⟨_, rfl⟩
      obtain ⟨F2, hF2⟩ : ∃ F, F = Q[k3] := ⟨_, rfl⟩
      have s1 := unhide HSM Q[k2] (List.getElem_mem q2)
      have s2 := unhide HSM Q[k3] (List.getElem_mem q3)
      obtain ⟨x, hx⟩ : ∃ x, x = xs[k2] := ⟨_, rfl⟩
      obtain ⟨y, hy⟩ : ∃ y, y = xs[k3] := ⟨_, rfl⟩
      rw [← hx] at c1 c2 px
      rw [← hy] at c3 c4 py
      rw [← hF1] at px s1
      rw [← hF2] at py s2
      rw [← hbr.cell (World.block_lt_of_cell? _ _ c1)] at c1
      rw [← hbr.cell (World.block_lt_of_cell? _ _ c2)] at c2
      rw [← hbr.cell (World.block_lt_of_cell? _ _ c3)] at c3
      rw [← hbr.cell (World.block_lt_of_cell? _ _ c4)] at c4
      have hgl : g < wr.heap.size := World.block_lt_of_cell? _ _ c1
      have hgl2 : g < wr.heap.size + 1 := by omega
      obtain ⟨cx, ax, lx, kx⟩ := x
      obtain ⟨cy, ay, ly, ky⟩ := y
      obtain ⟨e1, e2, p1, bx, ox, e3, _, r1⟩ := px
      obtain ⟨e4, e5, p2, by_, oy, e6, _, r2⟩ := py
      simp only at e1 e2 e3 e4 e5 e6 c1 c2 c3 c4
      subst e1 e2 e3 e4 e5 e6
      have hcat : k < (cat Q).length := by rw [cat_length]; have := unhide HL; omega
      have HNEXT : Hid ((cat Q).take (k + 1) = (cat Q).take k ++ [F1 ++ F2]) := by
        show _ = _
        rw [List.take_succ_eq_append_getElem hcat, cat_at Q k hcat (by omega) (by omega), hF1, hF2]
        congr 3
        all_goals (congr 1; omega)
      obtain ⟨l12, hl12⟩ : ∃ q, q = Pm.load c (F1 ++ F2) := ⟨_, rfl⟩
      have zl : (Pm.load c F1 : Int) + (Pm.load c F2 : Int) = (l12 : Int) := by rw [hl12]; simp [Pm.load]
      have hl12b : l12 ≤ 2000000000000 := by have : (l12 : Int) = _ := zl.symm; omega
      have hw12 : IntKind.i64.wrap (l12 : Int) = (l12 : Int) := by rw [IntKind.wrap_i64]; omega
      have Hl12 := hide hl12
      have H1 := hide r1
      have H2 := hide r2
      have hlt3 := (unhide Ho).lt
      have hwz := hbr.size
      clear hl12 hk2 hk3 hx hy hF1 hF2 hcat r1 r2
      go_wp2_with fail
      go_region
      · have a1 : ((wr.alloc (.cells #[.int .i64 (Pm.load c F1 : Nat), .slice (some ⟨bx, ox, none⟩) F1.length kx] 125)).alloc (.cells #[.int .i64 (Pm.load c F2 : Nat), .slice (some ⟨by_, oy, none⟩) F2.length ky] 125)).drew.cell? ⟨wr.heap.size, 0, none⟩ = some (.int .i64 (Pm.load c F1 : Nat)) := by simp
        have a2 : ((wr.alloc (.cells #[.int .i64 (Pm.load c F1 : Nat), .slice (some ⟨bx, ox, none⟩) F1.length kx] 125)).alloc (.cells #[.int .i64 (Pm.load c F2 : Nat), .slice (some ⟨by_, oy, none⟩) F2.length ky] 125)).drew.cell? ⟨wr.heap.size, 1, none⟩ = some (.slice (some ⟨bx, ox, none⟩) F1.length kx) := by simp
        have a3 : ((wr.alloc (.cells #[.int .i64 (Pm.load c F1 : Nat), .slice (some ⟨bx, ox, none⟩) F1.length kx] 125)).alloc (.cells #[.int .i64 (Pm.load c F2 : Nat), .slice (some ⟨by_, oy, none⟩) F2.length ky] 125)).drew.cell? ⟨wr.heap.size + 1, 0, none⟩ = some (.int .i64 (Pm.load c F2 : Nat)) := by simp
        have a4 : ((wr.alloc (.cells #[.int .i64 (Pm.load c F1 : Nat), .slice (some ⟨bx, ox, none⟩) F1.length kx] 125)).alloc (.cells #[.int .i64 (Pm.load c F2 : Nat), .slice (some ⟨by_, oy, none⟩) F2.length ky] 125)).drew.cell? ⟨wr.heap.size + 1, 1, none⟩ = some (.slice (some ⟨by_, oy, none⟩) F2.length ky) := by simp
        have hb5 : Below wr.heap.size wr ((wr.alloc (.cells #[.int .i64 (Pm.load c F1 : Nat), .slice (some ⟨bx, ox, none⟩) F1.length kx] 125)).alloc (.cells #[.int .i64 (Pm.load c F2 : Nat), .slice (some ⟨by_, oy, none⟩) F2.length ky] 125)).drew := (((Below.refl _ _).alloc (Nat.le_refl _) _).alloc (by simp) _).drew
        have hsz5 : ((wr.alloc (.cells #[.int .i64 (Pm.load c F1 : Nat), .slice (some ⟨bx, ox, none⟩) F1.length kx] 125)).alloc (.cells #[.int .i64 (Pm.load c F2 : Nat), .slice (some ⟨by_, oy, none⟩) F2.length ky] 125)).drew.heap.size = wr.heap.size + 2 := by show ((wr.alloc _).alloc _).heap.size = _; simp
        generalize ((wr.alloc (.cells #[.int .i64 (Pm.load c F1 : Nat), .slice (some ⟨bx, ox, none⟩) F1.length kx] 125)).alloc (.cells #[.int .i64 (Pm.load c F2 : Nat), .slice (some ⟨by_, oy, none⟩) F2.length ky] 125)).drew = w5 at *
        obtain ⟨P, hP⟩ : ∃ q, q = wr.heap.size := ⟨_, rfl⟩
        obtain ⟨R, hR⟩ : ∃ q, q = wr.heap.size + 1 := ⟨_, rfl⟩
        rw [← hR] at a3 a4 ⊢
        rw [← hP] at a1 a2 ⊢
        have hPl : P < w5.heap.size := by rw [hsz5]; omega
        have hRl : R < w5.heap.size := by rw [hsz5]; omega
        have hPg : wr.heap.size ≤ P := by omega
        have hRg : wr.heap.size ≤ R := by omega
        have hPg : wr.heap.size ≤ P := by omega
        have hRg : wr.heap.size ≤ R := by omega
        clear hP hR
        have Ho5 := hide (own_below (unhide Ho) hb5)
        have HY5 := hide ((unhide HY).below hb5)
        have hY5 := (unhide HY).lt
        have h5 := hbr.trans (hb5.mono hwz)
        have t1 := natSrc (kx := kx) (unhide H1)
        have t2 := natSrc (kx := ky) (unhide H2)
        have ba : Below wr.heap.size wr (w5.drew.alloc (.cells #[.slice (some ⟨bx, ox, none⟩) F1.length kx, .slice (some ⟨by_, oy, none⟩) F2.length ky] 38)) := hb5.drew.alloc (by show wr.heap.size ≤ w5.heap.size; rw [hsz5]; omega) _
        have HCC := hide (concatI_any w5.heap.size _ _ F1.length F2.length _ _ (w5.drew.alloc (.cells #[.slice (some ⟨bx, ox, none⟩) F1.length kx, .slice (some ⟨by_, oy, none⟩) F2.length ky] 38)) (cell_new w5.drew _ _ _).1 (cell_new w5.drew _ _ _).2 (t1.below ba) (t2.below ba) (natVals_one _) (natVals_one _) (by omega) (by omega))
        have ent : ∀ args w, (callFunc 120 args).run Tryz.prog w = .ok (.enter 120 args) w := enters_of Tryz.func120 (by kernel_rfl) rfl
        have hza : (w5.drew.alloc (.cells #[.slice (some ⟨bx, ox, none⟩) F1.length kx, .slice (some ⟨by_, oy, none⟩) F2.length ky] 38)).heap.size = wr.heap.size + 3 := by show (w5.drew.alloc _).heap.size = _; rw [show wr.heap.size + 3 = w5.drew.heap.size + 1 by show _ = w5.heap.size + 1; omega]; simp
        have bz : Below w5.heap.size w5 (w5.drew.alloc (.cells #[.slice (some ⟨bx, ox, none⟩) F1.length kx, .slice (some ⟨by_, oy, none⟩) F2.length ky] 38)) := (Below.refl _ _).drew.alloc (Nat.le_refl _) _
        have hPa : P < (w5.drew.alloc (.cells #[.slice (some ⟨bx, ox, none⟩) F1.length kx, .slice (some ⟨by_, oy, none⟩) F2.length ky] 38)).heap.size := by rw [hza]; omega
        have hRa : R < (w5.drew.alloc (.cells #[.slice (some ⟨bx, ox, none⟩) F1.length kx, .slice (some ⟨by_, oy, none⟩) F2.length ky] 38)).heap.size := by rw [hza]; omega
        have ba2 := bz.cell (p := ⟨P, 0, none⟩) hPl
        have ba3 := bz.cell (p := ⟨P, 1, none⟩) hPl
        have ba4 := bz.cell (p := ⟨R, 0, none⟩) hRl
        have ba5 := bz.cell (p := ⟨R, 1, none⟩) hRl
        have Hsz5 := hide hsz5
        clear t1 t2 c1 c2 c3 c4 Ho HY hsz5
        go_wp2_with fail
        refine wp_region_held_drew (S := fun w' => w'.cell? ⟨P, 0, none⟩ = some (.int .i64 (Pm.load c F1 : Nat)) ∧ w'.cell? ⟨P, 1, none⟩ = some (.slice (some ⟨bx, ox, none⟩) F1.length kx) ∧ w'.cell? ⟨R, 0, none⟩ = some (.int .i64 (Pm.load c F2 : Nat)) ∧ w'.cell? ⟨R, 1, none⟩ = some (.slice (some ⟨by_, oy, none⟩) F2.length ky)) (by kernel_rfl) ⟨a1, a2, a3, a4⟩ (fun hHeld => ?_)
        refine wpAnyH_take (i := 0) (v := u3) rfl (by kernel_rfl) (by kernel_rfl) (by kernel_rfl) (fun _ _ _ h => h) (Or.inl ⟨by rfl, ?_⟩) hHeld ?_
        · intro w' hSw
          obtain ⟨q1, q2, q3, q4⟩ := hSw
          go_simp
        simp only [Act.put, List.setIfInBounds_toArray]
        refine wpAnyH_take (i := 1) (v := .pointer (some ⟨P, 0, none⟩)) rfl (by kernel_rfl) (by kernel_rfl) (by kernel_rfl) (fun _ _ _ h => h) (Or.inl ⟨by rfl, ?_⟩) hHeld ?_
        · intro w' hSw
          obtain ⟨q1, q2, q3, q4⟩ := hSw
          go_simp
        simp only [Act.put]
        refine wpAnyH_take (i := 2) (v := .int .i64 (Pm.load c F1 : Nat)) rfl (by kernel_rfl) (by kernel_rfl) (by kernel_rfl) (fun _ _ _ h => h) (Or.inl ⟨by rfl, ?_⟩) hHeld ?_
        · intro w' hSw
          obtain ⟨q1, q2, q3, q4⟩ := hSw
          go_simp
        simp only [Act.put]
        refine wpAnyH_take (i := 3) (v := .pointer (some ⟨R, 0, none⟩)) rfl (by kernel_rfl) (by kernel_rfl) (by kernel_rfl) (fun _ _ _ h => h) (Or.inl ⟨by rfl, ?_⟩) hHeld ?_
        · intro w' hSw
          obtain ⟨q1, q2, q3, q4⟩ := hSw
          go_simp
        simp only [Act.put]
        refine wpAnyH_take (i := 4) (v := .int .i64 (Pm.load c F2 : Nat)) rfl (by kernel_rfl) (by kernel_rfl) (by kernel_rfl) (fun _ _ _ h => h) (Or.inl ⟨by rfl, ?_⟩) hHeld ?_
        · intro w' hSw
          obtain ⟨q1, q2, q3, q4⟩ := hSw
          go_simp
        simp only [Act.put]
        refine wpAnyH_take (i := 5) (v := .int .i64 (l12 : Int)) rfl (by kernel_rfl) (by kernel_rfl) (by kernel_rfl) (fun _ _ _ h => h) (Or.inl ⟨by rfl, ?_⟩) hHeld ?_
        · intro w' hSw
          obtain ⟨q1, q2, q3, q4⟩ := hSw
          go_simp
        simp only [Act.put]
        refine wpAnyH_take (i := 6) (v := .pointer (some ⟨P, 1, none⟩)) rfl (by kernel_rfl) (by kernel_rfl) (by kernel_rfl) (fun _ _ _ h => h) (Or.inl ⟨by rfl, ?_⟩) hHeld ?_
        · intro w' hSw
          obtain ⟨q1, q2, q3, q4⟩ := hSw
          go_simp
        simp only [Act.put]
        refine wpAnyH_take (i := 7) (v := .slice (some ⟨bx, ox, none⟩) F1.length kx) rfl (by kernel_rfl) (by kernel_rfl) (by kernel_rfl) (fun _ _ _ h => h) (Or.inl ⟨by rfl, ?_⟩) hHeld ?_
        · intro w' hSw
          obtain ⟨q1, q2, q3, q4⟩ := hSw
          go_simp
        simp only [Act.put]
        refine wpAnyH_take (i := 8) (v := .pointer (some ⟨R, 1, none⟩)) rfl (by kernel_rfl) (by kernel_rfl) (by kernel_rfl) (fun _ _ _ h => h) (Or.inl ⟨by rfl, ?_⟩) hHeld ?_
        · intro w' hSw
          obtain ⟨q1, q2, q3, q4⟩ := hSw
          go_simp
        simp only [Act.put]
        refine wpAnyH_take (i := 9) (v := .slice (some ⟨by_, oy, none⟩) F2.length ky) rfl (by kernel_rfl) (by kernel_rfl) (by kernel_rfl) (fun _ _ _ h => h) (Or.inl ⟨by rfl, ?_⟩) hHeld ?_
        · intro w' hSw
          obtain ⟨q1, q2, q3, q4⟩ := hSw
          go_simp
        simp only [Act.put]
        refine wpAnyH_ready (rs := [10]) (by kernel_rfl) (by simp) ?_
        refine AllReadyH.cons rfl (fun K hK => ?_) AllReadyH.nil
        go_simp
        refine hK.out _ (w5.drew.alloc (.cells #[.slice (some ⟨bx, ox, none⟩) F1.length kx, .slice (some ⟨by_, oy, none⟩) F2.length ky] 38)) ⟨ba2.trans a1, ba3.trans a2, ba4.trans a3, ba5.trans a4⟩ (fun hHeld => ?_)
        clear hK K
        refine wpAnyH_ready (rs := [11]) (by kernel_rfl) (by simp) ?_
        refine AllReadyH.cons rfl (fun K hK => ?_) AllReadyH.nil
        refine step_call rfl 120 (.tmp 34) 221 rfl (.slice (some ⟨w5.heap.size, 0, none⟩) 2 2) (by simp [Act.eval]) ent ?_
        refine (unhide HCC).mono ?_
        rintro e w6 ⟨vc, rfl, hcat, hbc⟩
        refine ⟨vc, rfl, ?_⟩
        obtain ⟨gc, cc, rfl, hgc⟩ := own_at hcat (by omega)
        have Ho6 : Hid (w6.ownsRow w.heap.size 125 2 u3 k (pkCells ys)) := own_below ((unhide Ho5).drew.alloc _) hbc
        have HY6 : Hid (AllP Bq w6 sg c ys ((cat Q).take k)) := ((unhide HY5).below bz).below hbc
        have hz6 : wr.heap.size + 3 ≤ w6.heap.size := by have := hbc.size; rw [hza] at this; exact this
        have hgcl := (hcat.lt gc rfl).2
        rw [hza] at hgc
        have g1 := (hbc.cell (p := ⟨P, 0, none⟩) hPa).trans (ba2.trans a1)
        have g2 := (hbc.cell (p := ⟨P, 1, none⟩) hPa).trans (ba3.trans a2)
        have g3 := (hbc.cell (p := ⟨R, 0, none⟩) hRa).trans (ba4.trans a3)
        have g4 := (hbc.cell (p := ⟨R, 1, none⟩) hRa).trans (ba5.trans a4)
        have hnew6 := hide (new_pk (Bq := Bq) (cc := cc) (gc := gc) hcat (unhide Hl12) p1 (by omega))
        have hb6 : Below w.heap.size w w6 := h5.trans ((bz.mono (by rw [unhide Hsz5]; omega)).trans (hbc.mono (by rw [hza]; omega)))
        refine hK.out _ _ ⟨g1, g2, g3, g4⟩ (fun hHeld => ?_)
        clear hK K hcat HCC
        simp only [Act.put, List.setIfInBounds_toArray]
        refine wpAnyH_take (i := 12) (v := .agg #[.int .i64 (l12 : Int), .slice (some ⟨gc, 0, none⟩) (F1.length + F2.length) cc]) rfl (by kernel_rfl) (by kernel_rfl) (by kernel_rfl) (fun _ _ _ h => h) (Or.inl ⟨by rfl, ?_⟩) hHeld ?_
        · intro w' hSw
          obtain ⟨q1, q2, q3, q4⟩ := hSw
          go_simp
        simp only [Act.put]
        refine wpAnyH_ready (rs := [13]) (by kernel_rfl) (by simp) ?_
        refine AllReadyH.cons rfl (fun K hK => ?_) AllReadyH.nil
        go_simp
        have b7 : Below w6.heap.size w6 (w6.alloc (.cells #[.int .i64 (l12 : Int), .slice (some ⟨gc, 0, none⟩) (F1.length + F2.length) cc] 125)) := (Below.refl _ _).alloc (Nat.le_refl _) _
        have f1 := (b7.cell (p := ⟨P, 0, none⟩) (World.block_lt_of_cell? _ _ g1)).trans g1
        have f2 := (b7.cell (p := ⟨P, 1, none⟩) (World.block_lt_of_cell? _ _ g2)).trans g2
        have f3 := (b7.cell (p := ⟨R, 0, none⟩) (World.block_lt_of_cell? _ _ g3)).trans g3
        have f4 := (b7.cell (p := ⟨R, 1, none⟩) (World.block_lt_of_cell? _ _ g4)).trans g4
        refine hK.out _ _ ⟨f1, f2, f3, f4⟩ (fun hHeld => ?_)
        clear hK K
        refine wpAnyH_ready (rs := [14]) (by kernel_rfl) (by simp) ?_
        refine AllReadyH.cons rfl (fun K hK => ?_) AllReadyH.nil
        refine step_appP rfl (.tmp 24) (.tmp 37) rfl w.heap.size u3 (.slice (some ⟨w6.heap.size, 0, none⟩) 1 1) k 1 (pkCells ys) [.int .i64 (l12 : Int), .slice (some ⟨gc, 0, none⟩) (F1.length + F2.length) cc] (by simp [Act.eval]) (by simp [Act.eval]) ((unhide Ho6).alloc _) (src_pk w6 _ _ _) (pkCells_one [((l12 : Int), some ⟨gc, 0, none⟩, F1.length + F2.length, cc)]) (by omega) (by have := hb6.size; simp; omega) ?_
        intro v8 w8 hown8 hgr8 hat8
        have hrow : ∀ b, u3.ownBlock = some b → b < wr.heap.size := fun b hb => (hlt3 b hb).2
        have hP8 : w8.heap[P]? = (w6.alloc (.cells #[.int .i64 (l12 : Int), .slice (some ⟨gc, 0, none⟩) (F1.length + F2.length) cc] 125)).heap[P]? := hgr8.block P (World.block_lt_of_cell? _ _ f1) (fun e => by have := hrow P e.symm; omega)
        have hR8 : w8.heap[R]? = (w6.alloc (.cells #[.int .i64 (l12 : Int), .slice (some ⟨gc, 0, none⟩) (F1.length + F2.length) cc] 125)).heap[R]? := hgr8.block R (World.block_lt_of_cell? _ _ f3) (fun e => by have := hrow R e.symm; omega)
        have HY8 : Hid (AllP Bq w8 sg c (ys ++ [((l12 : Int), some ⟨gc, 0, none⟩, F1.length + F2.length, cc)]) ((cat Q).take (k + 1))) := by
          show AllP _ _ _ _ _ _
          rw [unhide HNEXT]
          refine AllP.append (((unhide HY6).below b7).grown hgr8 (unhide HAP)) ⟨((unhide hnew6).below b7).grown hgr8 (fun ad e => ?_), trivial⟩
          injection e with e
          intro q
          have := hrow _ q
          rw [← e] at this
          show False
          have : gc < wr.heap.size := this
          omega
        have HAP8 : Hid (∀ y ∈ ys ++ [(((l12 : Int), some ⟨gc, 0, none⟩, F1.length + F2.length, cc) : PkV)], ∀ ad : Addr, y.2.1 = some ad → v8.ownBlock ≠ some ad.block) := by
          intro y hy ad e q
          have hs7 : (w6.alloc (.cells #[.int .i64 (l12 : Int), .slice (some ⟨gc, 0, none⟩) (F1.length + F2.length) cc] 125)).heap.size = w6.heap.size + 1 := by simp
          rcases List.mem_append.1 hy with hy | hy
          · have hl := (unhide HY6).lt y hy ad e
            rcases hat8 with q2 | q2
            · exact unhide HAP y hy ad e (q2.symm.trans q)
            · rw [q2, hs7] at q
              injection q with q
              omega
          · rw [List.mem_singleton] at hy
            subst hy
            injection e with e
            rw [← e] at q
            rcases hat8 with q2 | q2
            · have := hrow gc (q2.symm.trans q)
              omega
            · rw [q2, hs7] at q
              injection q with q
              have q : w6.heap.size + 1 = gc := q
              omega
        have Ho8 : Hid (w8.ownsRow w.heap.size 125 2 v8 (k + 1) (pkCells (ys ++ [((l12 : Int), some ⟨gc, 0, none⟩, F1.length + F2.length, cc)]))) := by
          show World.ownsRow _ _ _ _ _ _ _
          rw [pkCells_append]
          exact hown8
        have hb8 : Below w.heap.size w w8 := (hb6.trans (b7.mono (by have := hb6.size; exact this))).grown hgr8 (by have := hb6.size; simp; omega) (fun b hb => (hlt3 b hb).1)
        refine hK.out _ _ ⟨(World.cell?_of_block hP8).trans f1, (World.cell?_of_block hP8).trans f2, (World.cell?_of_block hR8).trans f3, (World.cell?_of_block hR8).trans f4⟩ (fun hHeld => ?_)
        clear hK K hown8 hgr8 hat8 hP8 hR8
        simp only [Act.put, List.setIfInBounds_toArray]
        refine wpAnyH_ready (rs := [15]) (by kernel_rfl) (by simp) ?_
        refine AllReadyH.cons rfl (fun K hK => ?_) AllReadyH.nil
        go_simp
        refine hK.out _ _ hHeld (fun hHeld => ?_)
        clear hK K
        refine wpAnyH_done (by kernel_rfl) ?_ _
        go_wp2
        go_roundw
        case rel => exact ⟨k + 1, _, by omega, by go_num, Ho8, HY8, hb8, HAP8⟩
        case measure => simp [intOf]; omega
      · have a1 : ((wr.alloc (.cells #[.int .i64 (Pm.load c F2 : Nat), .slice (some ⟨by_, oy, none⟩) F2.length ky] 125)).alloc (.cells #[.int .i64 (Pm.load c F1 : Nat), .slice (some ⟨bx, ox, none⟩) F1.length kx] 125)).drew.cell? ⟨wr.heap.size + 1, 0, none⟩ = some (.int .i64 (Pm.load c F1 : Nat)) := by simp
        have a2 : ((wr.alloc (.cells #[.int .i64 (Pm.load c F2 : Nat), .slice (some ⟨by_, oy, none⟩) F2.length ky] 125)).alloc (.cells #[.int .i64 (Pm.load c F1 : Nat), .slice (some ⟨bx, ox, none⟩) F1.length kx] 125)).drew.cell? ⟨wr.heap.size + 1, 1, none⟩ = some (.slice (some ⟨bx, ox, none⟩) F1.length kx) := by simp
        have a3 : ((wr.alloc (.cells #[.int .i64 (Pm.load c F2 : Nat), .slice (some ⟨by_, oy, none⟩) F2.length ky] 125)).alloc (.cells #[.int .i64 (Pm.load c F1 : Nat), .slice (some ⟨bx, ox, none⟩) F1.length kx] 125)).drew.cell? ⟨wr.heap.size, 0, none⟩ = some (.int .i64 (Pm.load c F2 : Nat)) := by simp
        have a4 : ((wr.alloc (.cells #[.int .i64 (Pm.load c F2 : Nat), .slice (some ⟨by_, oy, none⟩) F2.length ky] 125)).alloc (.cells #[.int .i64 (Pm.load c F1 : Nat), .slice (some ⟨bx, ox, none⟩) F1.length kx] 125)).drew.cell? ⟨wr.heap.size, 1, none⟩ = some (.slice (some ⟨by_, oy, none⟩) F2.length ky) := by simp
        have hb5 : Below wr.heap.size wr ((wr.alloc (.cells #[.int .i64 (Pm.load c F2 : Nat), .slice (some ⟨by_, oy, none⟩) F2.length ky] 125)).alloc (.cells #[.int .i64 (Pm.load c F1 : Nat), .slice (some ⟨bx, ox, none⟩) F1.length kx] 125)).drew := (((Below.refl _ _).alloc (Nat.le_refl _) _).alloc (by simp) _).drew
        have hsz5 : ((wr.alloc (.cells #[.int .i64 (Pm.load c F2 : Nat), .slice (some ⟨by_, oy, none⟩) F2.length ky] 125)).alloc (.cells #[.int .i64 (Pm.load c F1 : Nat), .slice (some ⟨bx, ox, none⟩) F1.length kx] 125)).drew.heap.size = wr.heap.size + 2 := by show ((wr.alloc _).alloc _).heap.size = _; simp
        generalize ((wr.alloc (.cells #[.int .i64 (Pm.load c F2 : Nat), .slice (some ⟨by_, oy, none⟩) F2.length ky] 125)).alloc (.cells #[.int .i64 (Pm.load c F1 : Nat), .slice (some ⟨bx, ox, none⟩) F1.length kx] 125)).drew = w5 at *
        obtain ⟨P, hP⟩ : ∃ q, q = wr.heap.size + 1 := ⟨_, rfl⟩
        obtain ⟨R, hR⟩ : ∃ q, q = wr.heap.size := ⟨_, rfl⟩
        rw [← hP] at a1 a2 ⊢
        rw [← hR] at a3 a4 ⊢
        have hPl : P < w5.heap.size := by rw [hsz5]; omega
        have hRl : R < w5.heap.size := by rw [hsz5]; omega
        have hPg : wr.heap.size ≤ P := by omega
        have hRg : wr.heap.size ≤ R := by omega
        have hPg : wr.heap.size ≤ P := by omega
        have hRg : wr.heap.size ≤ R := by omega
        clear hP hR
        have Ho5 := hide (own_below (unhide Ho) hb5)
        have HY5 := hide ((unhide HY).below hb5)
        have hY5 := (unhide HY).lt
        have h5 := hbr.trans (hb5.mono hwz)
        have t1 := natSrc (kx := kx) (unhide H1)
        have t2 := natSrc (kx := ky) (unhide H2)
        have ba : Below wr.heap.size wr (w5.drew.alloc (.cells #[.slice (some ⟨bx, ox, none⟩) F1.length kx, .slice (some ⟨by_, oy, none⟩) F2.length ky] 38)) := hb5.drew.alloc (by show wr.heap.size ≤ w5.heap.size; rw [hsz5]; omega) _
        have HCC := hide (concatI_any w5.heap.size _ _ F1.length F2.length _ _ (w5.drew.alloc (.cells #[.slice (some ⟨bx, ox, none⟩) F1.length kx, .slice (some ⟨by_, oy, none⟩) F2.length ky] 38)) (cell_new w5.drew _ _ _).1 (cell_new w5.drew _ _ _).2 (t1.below ba) (t2.below ba) (natVals_one _) (natVals_one _) (by omega) (by omega))
        have ent : ∀ args w, (callFunc 120 args).run Tryz.prog w = .ok (.enter 120 args) w := enters_of Tryz.func120 (by kernel_rfl) rfl
        have hza : (w5.drew.alloc (.cells #[.slice (some ⟨bx, ox, none⟩) F1.length kx, .slice (some ⟨by_, oy, none⟩) F2.length ky] 38)).heap.size = wr.heap.size + 3 := by show (w5.drew.alloc _).heap.size = _; rw [show wr.heap.size + 3 = w5.drew.heap.size + 1 by show _ = w5.heap.size + 1; omega]; simp
        have bz : Below w5.heap.size w5 (w5.drew.alloc (.cells #[.slice (some ⟨bx, ox, none⟩) F1.length kx, .slice (some ⟨by_, oy, none⟩) F2.length ky] 38)) := (Below.refl _ _).drew.alloc (Nat.le_refl _) _
        have hPa : P < (w5.drew.alloc (.cells #[.slice (some ⟨bx, ox, none⟩) F1.length kx, .slice (some ⟨by_, oy, none⟩) F2.length ky] 38)).heap.size := by rw [hza]; omega
        have hRa : R < (w5.drew.alloc (.cells #[.slice (some ⟨bx, ox, none⟩) F1.length kx, .slice (some ⟨by_, oy, none⟩) F2.length ky] 38)).heap.size := by rw [hza]; omega
        have ba2 := bz.cell (p := ⟨P, 0, none⟩) hPl
        have ba3 := bz.cell (p := ⟨P, 1, none⟩) hPl
        have ba4 := bz.cell (p := ⟨R, 0, none⟩) hRl
        have ba5 := bz.cell (p := ⟨R, 1, none⟩) hRl
        have Hsz5 := hide hsz5
        clear t1 t2 c1 c2 c3 c4 Ho HY hsz5
        go_wp2_with fail
        refine wp_region_held_drew (S := fun w' => w'.cell? ⟨P, 0, none⟩ = some (.int .i64 (Pm.load c F1 : Nat)) ∧ w'.cell? ⟨P, 1, none⟩ = some (.slice (some ⟨bx, ox, none⟩) F1.length kx) ∧ w'.cell? ⟨R, 0, none⟩ = some (.int .i64 (Pm.load c F2 : Nat)) ∧ w'.cell? ⟨R, 1, none⟩ = some (.slice (some ⟨by_, oy, none⟩) F2.length ky)) (by kernel_rfl) ⟨a1, a2, a3, a4⟩ (fun hHeld => ?_)
        refine wpAnyH_take (i := 0) (v := u3) rfl (by kernel_rfl) (by kernel_rfl) (by kernel_rfl) (fun _ _ _ h => h) (Or.inl ⟨by rfl, ?_⟩) hHeld ?_
        · intro w' hSw
          obtain ⟨q1, q2, q3, q4⟩ := hSw
          go_simp
        simp only [Act.put, List.setIfInBounds_toArray]
        refine wpAnyH_take (i := 1) (v := .pointer (some ⟨P, 0, none⟩)) rfl (by kernel_rfl) (by kernel_rfl) (by kernel_rfl) (fun _ _ _ h => h) (Or.inl ⟨by rfl, ?_⟩) hHeld ?_
        · intro w' hSw
          obtain ⟨q1, q2, q3, q4⟩ := hSw
          go_simp
        simp only [Act.put]
        refine wpAnyH_take (i := 2) (v := .int .i64 (Pm.load c F1 : Nat)) rfl (by kernel_rfl) (by kernel_rfl) (by kernel_rfl) (fun _ _ _ h => h) (Or.inl ⟨by rfl, ?_⟩) hHeld ?_
        · intro w' hSw
          obtain ⟨q1, q2, q3, q4⟩ := hSw
          go_simp
        simp only [Act.put]
        refine wpAnyH_take (i := 3) (v := .pointer (some ⟨R, 0, none⟩)) rfl (by kernel_rfl) (by kernel_rfl) (by kernel_rfl) (fun _ _ _ h => h) (Or.inl ⟨by rfl, ?_⟩) hHeld ?_
        · intro w' hSw
          obtain ⟨q1, q2, q3, q4⟩ := hSw
          go_simp
        simp only [Act.put]
        refine wpAnyH_take (i := 4) (v := .int .i64 (Pm.load c F2 : Nat)) rfl (by kernel_rfl) (by kernel_rfl) (by kernel_rfl) (fun _ _ _ h => h) (Or.inl ⟨by rfl, ?_⟩) hHeld ?_
        · intro w' hSw
          obtain ⟨q1, q2, q3, q4⟩ := hSw
          go_simp
        simp only [Act.put]
        refine wpAnyH_take (i := 5) (v := .int .i64 (l12 : Int)) rfl (by kernel_rfl) (by kernel_rfl) (by kernel_rfl) (fun _ _ _ h => h) (Or.inl ⟨by rfl, ?_⟩) hHeld ?_
        · intro w' hSw
          obtain ⟨q1, q2, q3, q4⟩ := hSw
          go_simp
        simp only [Act.put]
        refine wpAnyH_take (i := 6) (v := .pointer (some ⟨P, 1, none⟩)) rfl (by kernel_rfl) (by kernel_rfl) (by kernel_rfl) (fun _ _ _ h => h) (Or.inl ⟨by rfl, ?_⟩) hHeld ?_
        · intro w' hSw
          obtain ⟨q1, q2, q3, q4⟩ := hSw
          go_simp
        simp only [Act.put]
        refine wpAnyH_take (i := 7) (v := .slice (some ⟨bx, ox, none⟩) F1.length kx) rfl (by kernel_rfl) (by kernel_rfl) (by kernel_rfl) (fun _ _ _ h => h) (Or.inl ⟨by rfl, ?_⟩) hHeld ?_
        · intro w' hSw
          obtain ⟨q1, q2, q3, q4⟩ := hSw
          go_simp
        simp only [Act.put]
        refine wpAnyH_take (i := 8) (v := .pointer (some ⟨R, 1, none⟩)) rfl (by kernel_rfl) (by kernel_rfl) (by kernel_rfl) (fun _ _ _ h => h) (Or.inl ⟨by rfl, ?_⟩) hHeld ?_
        · intro w' hSw
          obtain ⟨q1, q2, q3, q4⟩ := hSw
          go_simp
        simp only [Act.put]
        refine wpAnyH_take (i := 9) (v := .slice (some ⟨by_, oy, none⟩) F2.length ky) rfl (by kernel_rfl) (by kernel_rfl) (by kernel_rfl) (fun _ _ _ h => h) (Or.inl ⟨by rfl, ?_⟩) hHeld ?_
        · intro w' hSw
          obtain ⟨q1, q2, q3, q4⟩ := hSw
          go_simp
        simp only [Act.put]
        refine wpAnyH_ready (rs := [10]) (by kernel_rfl) (by simp) ?_
        refine AllReadyH.cons rfl (fun K hK => ?_) AllReadyH.nil
        go_simp
        refine hK.out _ (w5.drew.alloc (.cells #[.slice (some ⟨bx, ox, none⟩) F1.length kx, .slice (some ⟨by_, oy, none⟩) F2.length ky] 38)) ⟨ba2.trans a1, ba3.trans a2, ba4.trans a3, ba5.trans a4⟩ (fun hHeld => ?_)
        clear hK K
        refine wpAnyH_ready (rs := [11]) (by kernel_rfl) (by simp) ?_
        refine AllReadyH.cons rfl (fun K hK => ?_) AllReadyH.nil
        refine step_call rfl 120 (.tmp 34) 221 rfl (.slice (some ⟨w5.heap.size, 0, none⟩) 2 2) (by simp [Act.eval]) ent ?_
        refine (unhide HCC).mono ?_
        rintro e w6 ⟨vc, rfl, hcat, hbc⟩
        refine ⟨vc, rfl, ?_⟩
        obtain ⟨gc, cc, rfl, hgc⟩ := own_at hcat (by omega)
        have Ho6 : Hid (w6.ownsRow w.heap.size 125 2 u3 k (pkCells ys)) := own_below ((unhide Ho5).drew.alloc _) hbc
        have HY6 : Hid (AllP Bq w6 sg c ys ((cat Q).take k)) := ((unhide HY5).below bz).below hbc
        have hz6 : wr.heap.size + 3 ≤ w6.heap.size := by have := hbc.size; rw [hza] at this; exact this
        have hgcl := (hcat.lt gc rfl).2
        rw [hza] at hgc
        have g1 := (hbc.cell (p := ⟨P, 0, none⟩) hPa).trans (ba2.trans a1)
        have g2 := (hbc.cell (p := ⟨P, 1, none⟩) hPa).trans (ba3.trans a2)
        have g3 := (hbc.cell (p := ⟨R, 0, none⟩) hRa).trans (ba4.trans a3)
        have g4 := (hbc.cell (p := ⟨R, 1, none⟩) hRa).trans (ba5.trans a4)
        have hnew6 := hide (new_pk (Bq := Bq) (cc := cc) (gc := gc) hcat (unhide Hl12) p1 (by omega))
        have hb6 : Below w.heap.size w w6 := h5.trans ((bz.mono (by rw [unhide Hsz5]; omega)).trans (hbc.mono (by rw [hza]; omega)))
        refine hK.out _ _ ⟨g1, g2, g3, g4⟩ (fun hHeld => ?_)
        clear hK K hcat HCC
        simp only [Act.put, List.setIfInBounds_toArray]
        refine wpAnyH_take (i := 12) (v := .agg #[.int .i64 (l12 : Int), .slice (some ⟨gc, 0, none⟩) (F1.length + F2.length) cc]) rfl (by kernel_rfl) (by kernel_rfl) (by kernel_rfl) (fun _ _ _ h => h) (Or.inl ⟨by rfl, ?_⟩) hHeld ?_
        · intro w' hSw
          obtain ⟨q1, q2, q3, q4⟩ := hSw
          go_simp
        simp only [Act.put]
        refine wpAnyH_ready (rs := [13]) (by kernel_rfl) (by simp) ?_
        refine AllReadyH.cons rfl (fun K hK => ?_) AllReadyH.nil
        go_simp
        have b7 : Below w6.heap.size w6 (w6.alloc (.cells #[.int .i64 (l12 : Int), .slice (some ⟨gc, 0, none⟩) (F1.length + F2.length) cc] 125)) := (Below.refl _ _).alloc (Nat.le_refl _) _
        have f1 := (b7.cell (p := ⟨P, 0, none⟩) (World.block_lt_of_cell? _ _ g1)).trans g1
        have f2 := (b7.cell (p := ⟨P, 1, none⟩) (World.block_lt_of_cell? _ _ g2)).trans g2
        have f3 := (b7.cell (p := ⟨R, 0, none⟩) (World.block_lt_of_cell? _ _ g3)).trans g3
        have f4 := (b7.cell (p := ⟨R, 1, none⟩) (World.block_lt_of_cell? _ _ g4)).trans g4
        refine hK.out _ _ ⟨f1, f2, f3, f4⟩ (fun hHeld => ?_)
        clear hK K
        refine wpAnyH_ready (rs := [14]) (by kernel_rfl) (by simp) ?_
        refine AllReadyH.cons rfl (fun K hK => ?_) AllReadyH.nil
        refine step_appP rfl (.tmp 24) (.tmp 37) rfl w.heap.size u3 (.slice (some ⟨w6.heap.size, 0, none⟩) 1 1) k 1 (pkCells ys) [.int .i64 (l12 : Int), .slice (some ⟨gc, 0, none⟩) (F1.length + F2.length) cc] (by simp [Act.eval]) (by simp [Act.eval]) ((unhide Ho6).alloc _) (src_pk w6 _ _ _) (pkCells_one [((l12 : Int), some ⟨gc, 0, none⟩, F1.length + F2.length, cc)]) (by omega) (by have := hb6.size; simp; omega) ?_
        intro v8 w8 hown8 hgr8 hat8
        have hrow : ∀ b, u3.ownBlock = some b → b < wr.heap.size := fun b hb => (hlt3 b hb).2
        have hP8 : w8.heap[P]? = (w6.alloc (.cells #[.int .i64 (l12 : Int), .slice (some ⟨gc, 0, none⟩) (F1.length + F2.length) cc] 125)).heap[P]? := hgr8.block P (World.block_lt_of_cell? _ _ f1) (fun e => by have := hrow P e.symm; omega)
        have hR8 : w8.heap[R]? = (w6.alloc (.cells #[.int .i64 (l12 : Int), .slice (some ⟨gc, 0, none⟩) (F1.length + F2.length) cc] 125)).heap[R]? := hgr8.block R (World.block_lt_of_cell? _ _ f3) (fun e => by have := hrow R e.symm; omega)
        have HY8 : Hid (AllP Bq w8 sg c (ys ++ [((l12 : Int), some ⟨gc, 0, none⟩, F1.length + F2.length, cc)]) ((cat Q).take (k + 1))) := by
          show AllP _ _ _ _ _ _
          rw [unhide HNEXT]
          refine AllP.append (((unhide HY6).below b7).grown hgr8 (unhide HAP)) ⟨((unhide hnew6).below b7).grown hgr8 (fun ad e => ?_), trivial⟩
          injection e with e
          intro q
          have := hrow _ q
          rw [← e] at this
          show False
          have : gc < wr.heap.size := this
          omega
        have HAP8 : Hid (∀ y ∈ ys ++ [(((l12 : Int), some ⟨gc, 0, none⟩, F1.length + F2.length, cc) : PkV)], ∀ ad : Addr, y.2.1 = some ad → v8.ownBlock ≠ some ad.block) := by
          intro y hy ad e q
          have hs7 : (w6.alloc (.cells #[.int .i64 (l12 : Int), .slice (some ⟨gc, 0, none⟩) (F1.length + F2.length) cc] 125)).heap.size = w6.heap.size + 1 := by simp
          rcases List.mem_append.1 hy with hy | hy
          · have hl := (unhide HY6).lt y hy ad e
            rcases hat8 with q2 | q2
            · exact unhide HAP y hy ad e (q2.symm.trans q)
            · rw [q2, hs7] at q
              injection q with q
              omega
          · rw [List.mem_singleton] at hy
            subst hy
            injection e with e
            rw [← e] at q
            rcases hat8 with q2 | q2
            · have := hrow gc (q2.symm.trans q)
              omega
            · rw [q2, hs7] at q
              injection q with q
              have q : w6.heap.size + 1 = gc := q
              omega
        have Ho8 : Hid (w8.ownsRow w.heap.size 125 2 v8 (k + 1) (pkCells (ys ++ [((l12 : Int), some ⟨gc, 0, none⟩, F1.length + F2.length, cc)]))) := by
          show World.ownsRow _ _ _ _ _ _ _
          rw [pkCells_append]
          exact hown8
        have hb8 : Below w.heap.size w w8 := (hb6.trans (b7.mono (by have := hb6.size; exact this))).grown hgr8 (by have := hb6.size; simp; omega) (fun b hb => (hlt3 b hb).1)
        refine hK.out _ _ ⟨(World.cell?_of_block hP8).trans f1, (World.cell?_of_block hP8).trans f2, (World.cell?_of_block hR8).trans f3, (World.cell?_of_block hR8).trans f4⟩ (fun hHeld => ?_)
        clear hK K hown8 hgr8 hat8 hP8 hR8
        simp only [Act.put, List.setIfInBounds_toArray]
        refine wpAnyH_ready (rs := [15]) (by kernel_rfl) (by simp) ?_
        refine AllReadyH.cons rfl (fun K hK => ?_) AllReadyH.nil
        go_simp
        refine hK.out _ _ hHeld (fun hHeld => ?_)
        clear hK K
        refine wpAnyH_done (by kernel_rfl) ?_ _
        go_wp2
        go_roundw
        case rel => exact ⟨k + 1, _, by omega, by go_num, Ho8, HY8, hb8, HAP8⟩
        case measure => simp [intOf]; omega
    · have hk2 : k = n := by omega
      subst hk2
      have d1 : decide ((k : Int) < (k : Int)) = false := by simp
      have e : (cat Q).take k = cat Q := List.take_of_length_le (by rw [cat_length]; have := unhide HL; omega)
      go_wp2
      go_ret
      rw [unhide (hide e)] at HY
      exact ⟨_, rfl, IsPk.own (unhide Ho) (unhide HY) hq, hbr⟩
end Go.Proofs.YtfeljhikeddodadGreatDoor
