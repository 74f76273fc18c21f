/- Walks of the packer of numbers: one number further. -/
import Derived.Test.YtjcoahahponabaaGreatDoorMg7
import Derived.Test.YtjcoahahponabaaGreatDoorMg3
namespace Go.Proofs.YtjcoahahponabaaGreatDoor
open Go.RowKit Lz Ps

theorem fitS_size2 (S c : Nat) : fitS S c = size' S c := by
  unfold fitS size'
  by_cases h : S < 12 ∧ c = 2 ^ S
  · rw [if_pos h, if_pos ⟨h.2, h.1⟩]
  · rw [if_neg h, if_neg (fun q => h ⟨q.2, q.1⟩)]

theorem look_push (W : Nat) (P : List (Nat × Nat)) (x y : Nat) (h : Lz.look W P x y = none) (a b : Nat) : (if a = x ∧ b = y then some (2 ^ W + 2 + P.length) else Lz.look W P a b) = Lz.look W (P ++ [(x, y)]) a b := by
  have hn : (x, y) ∉ P := fun q => by unfold Lz.look at h; rw [if_pos q] at h; cases h
  by_cases e : a = x ∧ b = y
  · obtain ⟨rfl, rfl⟩ := e
    rw [if_pos ⟨rfl, rfl⟩, Lz.look, if_pos (by simp), List.idxOf_append, if_neg hn]
    simp
  · rw [if_neg e]
    unfold Lz.look
    have hne : (a, b) ≠ (x, y) := fun q => e (by injection q with q1 q2; exact ⟨q1, q2⟩)
    by_cases hm : (a, b) ∈ P
    · rw [if_pos hm, if_pos (List.mem_append.2 (.inl hm)), List.idxOf_append, if_pos hm]
    · rw [if_neg hm, if_neg (by simp [hm]; exact fun q1 q2 => e ⟨q1, q2⟩)]

/-- A packer at block p, its list at block bm. -/
structure PK (w : World) (p bm W S : Nat) (Pl : List (Nat × Nat)) (ls : List Pc) : Prop where
  wp : WP w p ls
  cd : CD w p 2 W S (2 ^ W + 2 + Pl.length)
  mp : w.cell? ⟨p, 5, none⟩ = some (.map (some bm))
  lp : ∃ nn, nn ≤ Pl.length ∧ LP w bm nn (Lz.look W Pl)
  lt : bm < p

section
variable {w w' : World} {p bm W S : Nat} {Pl : List (Nat × Nat)} {ls ls' : List Pc}
theorem PK.ltp (h : PK w p bm W S Pl ls) : p < w.heap.size := h.wp.lt
theorem PK.below (h : PK w p bm W S Pl ls) (hb : Below w.heap.size w w') : PK w' p bm W S Pl ls := by
  have hl := h.ltp
  have h1 := h.lt
  obtain ⟨nn, hn, hL⟩ := h.lp
  exact ⟨h.wp.below hb, h.cd.same (fun j _ => hb.cell hl) (fun j _ => hb.frozen hl), (hb.cell hl).trans h.mp, ⟨nn, hn, hL.same (hb.block bm (by omega))⟩, h1⟩
theorem PK.kept (h : PK w p bm W S Pl ls) (hk : Kept p w w') (hw : WP w' p ls') : PK w' p bm W S Pl ls' := by
  have hl := h.ltp
  have h1 := h.lt
  obtain ⟨nn, hn, hL⟩ := h.lp
  have hr := h.wp.row
  exact ⟨hw, h.cd.kept hk, (hk.rest 5 (by omega)).1.trans h.mp, ⟨nn, hn, hL.same (hk.block bm (by omega) (by omega) (by omega))⟩, h1⟩
theorem PK.kc {S' N' : Nat} (h : PK w p bm W S Pl ls) (hk : KC p 2 w w') (hc : CD w' p 2 W S' N') (hN : N' = 2 ^ W + 2 + Pl.length) : PK w' p bm W S' Pl ls := by
  obtain ⟨nn, hn, hL⟩ := h.lp
  have h1 := h.lt
  subst hN
  exact ⟨h.wp.kc hk, hc, (hk.cell 5 (by omega) (by omega)).trans h.mp, ⟨nn, hn, hL.same (hk.block bm (by omega))⟩, h1⟩
theorem PK.map {P2 : List (Nat × Nat)} {N' : Nat} (hw : WP w p ls) (hc : CD w p 2 W S N') (hm : w.cell? ⟨p, 5, none⟩ = some (.map (some bm))) (hlt : bm < p) (hg : w.grownBy w' (some bm)) (hN : N' = 2 ^ W + 2 + P2.length) (hL : ∃ nn, nn ≤ P2.length ∧ LP w' bm nn (Lz.look W P2)) : PK w' p bm W S P2 ls ∧ Below bm w w' := by
  have hl := hw.lt
  have hb : ∀ i, i ≠ bm → i < w.heap.size → w'.heap[i]? = w.heap[i]? := fun i hi hlt => hg.block i hlt (fun e => hi (by injection e))
  have hp := hb p (by omega) hl
  have c : ∀ j, w'.cell? ⟨p, j, none⟩ = w.cell? ⟨p, j, none⟩ := fun j => World.cell?_of_block (a := ⟨p, j, none⟩) hp
  have f : ∀ j, w'.frozen? ⟨p, j, none⟩ = w.frozen? ⟨p, j, none⟩ := fun j => World.frozen?_of_block (a := ⟨p, j, none⟩) hp
  subst hN
  refine ⟨⟨?_, hc.same (fun j _ => c j) (fun j _ => f j), (c 5).trans hm, hL, hlt⟩, ⟨hg.os, hg.tape, hg.output, hg.size, fun i hi => hb i (by omega) (by omega)⟩⟩
  obtain ⟨⟨v, hv, hown⟩, hcnt, f0, f1, hfit, hsm⟩ := hw
  refine ⟨⟨v, (c 0).trans hv, hown.kept hg ?_⟩, (c 1).trans hcnt, (f 0).trans f0, (f 1).trans f1, hfit, hsm⟩
  cases e : v.ownBlock with
  | none => exact .inl rfl
  | some b => exact .inr (fun q => by injection q with q; have := (hown.lt b e).1; omega)
end

set_option maxHeartbeats 2000000 in
set_option maxRecDepth 100000 in
theorem further_some {p bm W S : Nat} {Pl : List (Nat × Nat)} {ls : List Pc} (c b c' : Nat) (w : World) (h : PK w p bm W S Pl ls) (hc : c ≤ 5000) (hb : b ≤ 255) (hl : Lz.look W Pl c b = some c') :
    Calls Tryz.prog 169 #[.pointer (some ⟨p, 0, none⟩), .int .i64 (c : Int), .int .i64 (b : Int)] w fun e w' => e = .returned (.int .i64 (c' : Int)) ∧ PK w' p bm W S Pl ls ∧ Below bm w w' := by
  have hlt := h.ltp
  have h1 := h.lt
  have b0 : Below w.heap.size w (w.alloc (.cells #[.int .i64 (c : Int), .int .i64 (b : Int)] 257)) := (Below.refl _ _).alloc (Nat.le_refl _) _
  have hP := h.below b0
  obtain ⟨nn, hn, hL⟩ := hP.lp
  have hlook : ∀ n, (Instr.lookup 221 (.map (some bm)) (.agg #[.int .i64 (c : Int), .int .i64 (b : Int)]) true).run Tryz.prog ((w.alloc (.cells #[.int .i64 (c : Int), .int .i64 (b : Int)] 257)).drewN n) = .ok (.tuple #[.int .i64 (c' : Int), .bool true]) ((w.alloc (.cells #[.int .i64 (c : Int), .int .i64 (b : Int)] 257)).drewN n) := fun n => by
    have := (hL.same (w' := (w.alloc (.cells #[.int .i64 (c : Int), .int .i64 (b : Int)] 257)).drewN n) rfl).look c b (by omega) (by omega)
    rw [hl] at this
    exact this
  have hm5 := hP.mp
  have HP := hide hP
  clear h hP hL
  go_enter Tryz.func169, Tryz.ntmps169
  go_wp2
  go_quiet (fail)
  go_wp2
  go_ret
  exact ⟨rfl, (unhide HP).below (below_drewN (Below.refl _ _) _), below_drewN (b0.mono (by omega)) _⟩

theorem step_put {w w1 : World} {ops : Array Oper} {o : Oper} {a : Act} {K : Act → World → Prop} {Q : Exit → Act → World → Prop} {E : Prop} (hgd : o.guard = none) (m x v : Operand) (t : TypeId) (ho : o.op = Op.mapUpdate t m x v) (vm vx vv : Value) (hm : a.eval m = vm) (hx : a.eval x = vx) (hv : a.eval v = vv)
    (hrun : (Instr.mapUpdate t vm vx vv).run Tryz.prog w = .ok () w1) (h : K (a.put o.dst undef) w1) : if Region.wanted o (yielded ops a.tmps) = true then Oper.wp Tryz.prog o a w K Q else E := by
  have hw : Region.wanted o (yielded ops a.tmps) = true := by simp [Region.wanted, hgd]
  rw [if_pos hw]
  unfold Oper.wp
  simp [execOp, ho, hm, hx, hv, hrun, Result.andThen]
  exact h
set_option maxHeartbeats 4000000 in
set_option maxRecDepth 100000 in
theorem further_none {p bm W S : Nat} {Pl : List (Nat × Nat)} {ls : List Pc} (c b : Nat) (w : World) (h : PK w p bm W S Pl ls) (hW2 : 2 ≤ W) (hW : W ≤ 8) (hcS : c < 2 ^ S) (hS : S ≤ 12) (hb : b ≤ 255) (hl : Lz.look W Pl c b = none) (hlen : len ls + 100 ≤ 4000000) (hf : 2 ^ W + 2 + Pl.length ≤ 4095) (hWS : W + 1 ≤ S) :
    Calls Tryz.prog 169 #[.pointer (some ⟨p, 0, none⟩), .int .i64 (c : Int), .int .i64 (b : Int)] w fun e w' => e = .returned (.int .i64 (b : Int)) ∧ Below bm w w' ∧
      (2 ^ W + 2 + Pl.length ≠ 4095 → PK w' p bm W (size' S (2 ^ W + 2 + Pl.length)) (Pl ++ [(c, b)]) (ls ++ [(c, S)])) ∧
      (2 ^ W + 2 + Pl.length = 4095 → PK w' p bm W (W + 1) [] (ls ++ [(c, S)] ++ [(2 ^ W, size' S 4095)])) := by
  have hlt := h.ltp
  have h1 := h.lt
  have hc4 : c < 4096 := Nat.lt_of_lt_of_le hcS (Nat.pow_le_pow_right (n := 2) (j := 12) (by omega) hS)
  have hp2 := pow_two W hW2 hW
  obtain ⟨N, hN⟩ : ∃ N, N = 2 ^ W + 2 + Pl.length := ⟨_, rfl⟩
  obtain ⟨q, hq⟩ : ∃ q, q = w.heap.size := ⟨_, rfl⟩
  have b0 : Below w.heap.size w (w.alloc (.cells #[.int .i64 (c : Int), .int .i64 (b : Int)] 257)) := (Below.refl _ _).alloc (Nat.le_refl _) _
  have hP := h.below b0
  obtain ⟨nn, hn, hL⟩ := hP.lp
  have hlook : ∀ n, (Instr.lookup 221 (.map (some bm)) (.agg #[.int .i64 (c : Int), .int .i64 (b : Int)]) true).run Tryz.prog ((w.alloc (.cells #[.int .i64 (c : Int), .int .i64 (b : Int)] 257)).drewN n) = .ok (.tuple #[.int .i64 0, .bool false]) ((w.alloc (.cells #[.int .i64 (c : Int), .int .i64 (b : Int)] 257)).drewN n) := fun n => by
    have := (hL.same (w' := (w.alloc (.cells #[.int .i64 (c : Int), .int .i64 (b : Int)] 257)).drewN n) rfl).look c b (by omega) (by omega)
    rw [hl] at this
    exact this
  have hm5 := hP.mp
  have q0 : (w.alloc (.cells #[.int .i64 (c : Int), .int .i64 (b : Int)] 257)).cell? ⟨q, 0, none⟩ = some (.int .i64 (c : Int)) := by rw [hq]; simp
  have q1 : (w.alloc (.cells #[.int .i64 (c : Int), .int .i64 (b : Int)] 257)).cell? ⟨q, 1, none⟩ = some (.int .i64 (b : Int)) := by rw [hq]; simp
  have hrow := h.wp.row
  have hrow2 : rowOf (w.alloc (.cells #[.int .i64 (c : Int), .int .i64 (b : Int)] 257)) p = rowOf w p := rowOf_same (b0.cell hlt)
  have HP := hide hP
  have HB0 := hide (b0.mono (show bm ≤ w.heap.size by omega))
  have HN := hide hN
  have Hq := hide hq
  have hqp : p < q := by omega
  have hqr : rowOf w p < q := by omega
  have hN4 : N ≤ 4095 := by omega
  have HP2W := hide hp2
  have hnl0 : Pl.length ≤ 4095 := by omega
  clear h hP hL b0 hrow hN hf hp2 hn
  go_enter Tryz.func169, Tryz.ntmps169
  go_wp2
  go_quiet (fail)
  rw [← hq]
  rw [← hq] at *
  generalize w.alloc (.cells #[.int .i64 (c : Int), .int .i64 (b : Int)] 257) = wa at *
  clear hlook hm5 hq
  obtain ⟨w1, hw1⟩ : ∃ w1, w1 = wa.drewN nq := ⟨_, rfl⟩
  have bq : Below wa.heap.size wa (wa.drewN nq) := below_drewN (Below.refl _ _) nq
  have HP1 := hide ((unhide HP).below bq)
  have HB1 := hide ((unhide HB0).trans (bq.mono (by have := (unhide HP).ltp; omega)))
  have c0 : w1.cell? ⟨q, 0, none⟩ = some (.int .i64 (c : Int)) := by rw [hw1]; exact q0
  have c1 : w1.cell? ⟨q, 1, none⟩ = some (.int .i64 (b : Int)) := by rw [hw1]; exact q1
  have hro : rowOf w1 p = rowOf w p := by rw [hw1, ← hrow2]; exact rowOf_same rfl
  rw [← hw1] at HP1 HB1 ⊢
  clear HP HB0 hw1 bq q0 q1 hrow2
  have HT := hide (tell_any p ls c S w1 (unhide HP1).wp (unhide HP1).cd.size hS hcS (by omega))
  go_wp2_with fail
  refine (unhide HT).mono ?_; rintro e w2 ⟨rfl, hW2', hk2⟩
  have HP2 := hide ((unhide HP1).kept hk2 hW2')
  have HB2 := hide ((unhide HB1).trans (hk2.below (unhide HP1).wp (by omega)))
  have hql : q < w1.heap.size := World.block_lt_of_cell? _ _ c0
  have d0 : w2.cell? ⟨q, 0, none⟩ = some (.int .i64 (c : Int)) := (hk2.cell (a := ⟨q, 0, none⟩) hql (by show q ≠ p; omega) (by show q ≠ _; rw [hro]; omega)).trans c0
  have d1 : w2.cell? ⟨q, 1, none⟩ = some (.int .i64 (b : Int)) := (hk2.cell (a := ⟨q, 1, none⟩) hql (by show q ≠ p; omega) (by show q ≠ _; rw [hro]; omega)).trans c1
  have HGV := hide (give_any p 2 W S _ w2 (unhide HP2).cd (by rw [← unhide HN]; omega))
  rw [← unhide HN] at HGV
  clear HT hW2' hk2 HP1 HB1 c0 c1 hro hql
  go_wp2_with fail
  refine (unhide HGV).mono ?_; rintro e w3 ⟨rfl, hC3, hk3⟩
  have hw3 := (unhide HP2).wp.kc hk3
  have hm3 : w3.cell? ⟨p, 5, none⟩ = some (.map (some bm)) := (hk3.cell 5 (by omega) (by omega)).trans (unhide HP2).mp
  have HB3 := hide ((unhide HB2).trans (hk3.below.mono (by omega)))
  have e0 : w3.cell? ⟨q, 0, none⟩ = some (.int .i64 (c : Int)) := (World.cell?_of_block (a := ⟨q, 0, none⟩) (hk3.block q (by omega))).trans d0
  have e1 : w3.cell? ⟨q, 1, none⟩ = some (.int .i64 (b : Int)) := (World.cell?_of_block (a := ⟨q, 1, none⟩) (hk3.block q (by omega))).trans d1
  obtain ⟨nn3, hn3, hL2⟩ := (unhide HP2).lp
  have hL3 : LP w3.drew bm nn3 (Lz.look W Pl) := hL2.same (hk3.block bm (by omega))
  obtain ⟨w4, hrun4, hL4, hg4⟩ := hL3.put c b N (by omega) (by omega) (by omega) (by omega)
  have HG4 := hide hg4
  have hne4 : ∀ i, i ≠ bm → i < w3.heap.size → w4.heap[i]? = w3.heap[i]? := fun i hi hl => hg4.block i hl (fun e => hi (by injection e))
  have hz3 : p < w3.heap.size := hw3.lt
  have hq3 : q < w3.heap.size := World.block_lt_of_cell? _ _ e0
  have m4 : w4.cell? ⟨p, 5, none⟩ = some (.map (some bm)) := (World.cell?_of_block (a := ⟨p, 5, none⟩) (hne4 p (by omega) hz3)).trans hm3
  have a0 : w4.cell? ⟨q, 0, none⟩ = some (.int .i64 (c : Int)) := (World.cell?_of_block (a := ⟨q, 0, none⟩) (hne4 q (by omega) hq3)).trans e0
  have a1 : w4.cell? ⟨q, 1, none⟩ = some (.int .i64 (b : Int)) := (World.cell?_of_block (a := ⟨q, 1, none⟩) (hne4 q (by omega) hq3)).trans e1
  have HS4 := hide (And.intro m4 (And.intro a0 a1))
  have HS3 : Hid (w3.drew.cell? ⟨p, 5, none⟩ = some (.map (some bm)) ∧ w3.drew.cell? ⟨q, 0, none⟩ = some (.int .i64 (c : Int)) ∧ w3.drew.cell? ⟨q, 1, none⟩ = some (.int .i64 (b : Int))) := ⟨hm3, e0, e1⟩
  have hpk := PK.map (P2 := Pl ++ [(c, b)]) (ls := ls ++ [(c, S)]) (w := w3.drew) (w' := w4) (N' := N + 1) (hw3.below (Below.refl _ _).drew) hC3.drew hm3 h1 hg4 (by rw [unhide HN, List.length_append]; rfl) ⟨nn3 + 1, by rw [List.length_append]; show nn3 + 1 ≤ Pl.length + 1; omega, hL4.congr (fun x y => by rw [unhide HN]; exact look_push W Pl c b hl x y)⟩
  have HP4 := hide hpk.1
  have HB4 := hide ((unhide HB3).drew.trans hpk.2)
  clear HGV hC3 hk3 hw3 hm3 HB3 e0 e1 d0 d1 hL2 hL3 hL4 hg4 hne4 hz3 hq3 m4 a0 a1 hpk HP2 HB2 HG4
  go_wp2_with fail
  refine wp_region_held_drew (S := fun w' => w'.cell? ⟨p, 5, none⟩ = some (.map (some bm)) ∧ w'.cell? ⟨q, 0, none⟩ = some (.int .i64 (c : Int)) ∧ w'.cell? ⟨q, 1, none⟩ = some (.int .i64 (b : Int))) (by kernel_rfl) (unhide HS3) (fun hHeld => ?_)
  refine wpAnyH_take (i := 0) (v := .pointer (some ⟨p, 0, none⟩)) rfl (by kernel_rfl) (by kernel_rfl) (by kernel_rfl) (fun _ _ _ h => h) (Or.inl ⟨by rfl, ?_⟩) hHeld ?_
  · intro w' hSw
    obtain ⟨s1, s2, s3⟩ := hSw
    go_simp
  simp only [Act.put, List.setIfInBounds_toArray]
  refine wpAnyH_take (i := 1) (v := .pointer (some ⟨p, 0, none⟩)) rfl (by kernel_rfl) (by kernel_rfl) (by kernel_rfl) (fun _ _ _ h => h) (Or.inl ⟨by rfl, ?_⟩) hHeld ?_
  · intro w' hSw
    obtain ⟨s1, s2, s3⟩ := hSw
    go_simp
  simp only [Act.put]
  refine wpAnyH_take (i := 2) (v := .pointer (some ⟨p, 5, none⟩)) rfl (by kernel_rfl) (by kernel_rfl) (by kernel_rfl) (fun _ _ _ h => h) (Or.inl ⟨by rfl, ?_⟩) hHeld ?_
  · intro w' hSw
    obtain ⟨s1, s2, s3⟩ := hSw
    go_simp
  simp only [Act.put]
  refine wpAnyH_take (i := 3) (v := .map (some bm)) rfl (by kernel_rfl) (by kernel_rfl) (by kernel_rfl) (fun _ _ _ h => h) (Or.inl ⟨by rfl, ?_⟩) hHeld ?_
  · intro w' hSw
    obtain ⟨s1, s2, s3⟩ := hSw
    go_simp
  simp only [Act.put]
  refine wpAnyH_take (i := 4) (v := .agg #[.int .i64 (c : Int), .int .i64 (b : Int)]) rfl (by kernel_rfl) (by kernel_rfl) (by kernel_rfl) (fun _ _ _ h => h) (Or.inl ⟨by rfl, ?_⟩) hHeld ?_
  · intro w' hSw
    obtain ⟨s1, s2, s3⟩ := hSw
    go_simp
  simp only [Act.put]
  refine wpAnyH_take (i := 5) (v := .int .i64 (N : Int)) rfl (by kernel_rfl) (by kernel_rfl) (by kernel_rfl) (fun _ _ _ h => h) (Or.inl ⟨by rfl, ?_⟩) hHeld ?_
  · intro w' hSw
    obtain ⟨s1, s2, s3⟩ := hSw
    go_simp
  simp only [Act.put]
  refine wpAnyH_ready (rs := [6]) (by kernel_rfl) (by simp) ?_
  refine AllReadyH.cons rfl (fun K hK => ?_) AllReadyH.nil
  refine step_put rfl (.tmp 35) (.tmp 36) (.tmp 37) 221 rfl (.map (some bm)) (.agg #[.int .i64 (c : Int), .int .i64 (b : Int)]) (.int .i64 (N : Int)) (by simp [Act.eval]) (by simp [Act.eval]) (by simp [Act.eval]) hrun4 ?_
  refine hK.out _ _ (unhide HS4) (fun hHeld => ?_)
  clear hK K hrun4 HS3 HS4 hHeld
  simp only [Act.put, List.getElem_toArray, List.getElem_cons_succ, List.getElem_cons_zero, List.setIfInBounds_toArray, List.set_cons_succ, List.set_cons_zero]
  refine wpAnyH_done (by kernel_rfl) ?_ _
  have HFT := hide (fit_any p 2 W S _ N w4 (unhide HP4).cd hS)
  go_wp2_with fail
  refine (unhide HFT).mono ?_; rintro e w5 ⟨rfl, hC5, hk5⟩
  have HP5 := hide ((unhide HP4).kc hk5 hC5 rfl)
  have HB5 := hide ((unhide HB4).trans (hk5.below.mono (by omega)))
  rw [fitS_size2] at HP5
  clear HFT hC5 hk5 HP4 HB4
  by_cases hfull : N = 4095
  · have g9 : ((N : Int) == 4095) = true := by simp; omega
    obtain ⟨X, hX⟩ : ∃ X, X = 2 ^ W := ⟨_, rfl⟩
    obtain ⟨S1, hS1⟩ : ∃ S1, S1 = size' S N := ⟨_, rfl⟩
    rw [← hS1] at HP5
    have hs1 : S1 ≤ 12 := by rw [hS1]; exact (size'_le S N hS).2
    have hxs : 2 ^ W < 2 ^ S1 := by
      have a1 : 2 ^ W < 2 ^ (W + 1) := by rw [Nat.pow_succ]; have := Nat.two_pow_pos W; omega
      have a2 : 2 ^ (W + 1) ≤ 2 ^ S := Nat.pow_le_pow_right (by omega) hWS
      have a3 : 2 ^ S ≤ 2 ^ S1 := by rw [hS1]; exact Nat.pow_le_pow_right (by omega) (size'_le S N hS).1
      omega
    have HCL := hide (clearCode_any p 2 W S1 _ w5 (unhide HP5).cd (by omega))
    have HT2 := hide (tell_any p (ls ++ [(c, S)]) (2 ^ W) S1 w5 (unhide HP5).wp (unhide HP5).cd.size hs1 hxs (by rw [len_append]; simp only [len]; omega))
    have HS1 := hide hS1
    have HX := hide hX
    rw [← hX] at HCL HT2
    have HFU := hide hfull
    clear hX hS1 hxs hfull
    go_wp2_with fail
    refine (unhide HCL).mono ?_; rintro e w6 ⟨rfl, rfl⟩
    clear HCL
    go_wp2_with fail
    refine (unhide HT2).mono ?_; rintro e w7 ⟨rfl, hW7, hk7⟩
    have HP7 := hide ((unhide HP5).kept hk7 hW7)
    have HB7 := hide ((unhide HB5).trans (hk7.below (unhide HP5).wp (by omega)))
    have HRS := hide (restart_any p 2 W S1 _ w7 (unhide HP7).cd (by omega))
    clear HT2 hW7 hk7 HP5 HB5
    go_wp2_with fail
    refine (unhide HRS).mono ?_; rintro e w8 ⟨rfl, hC8, hk8⟩
    have hw8 := (unhide HP7).wp.kc hk8
    have hm8 : w8.cell? ⟨p, 5, none⟩ = some (.map (some bm)) := (hk8.cell 5 (by omega) (by omega)).trans (unhide HP7).mp
    have HB8 := hide ((unhide HB7).trans (hk8.below.mono (by omega)))
    obtain ⟨nn8, _, hL7⟩ := (unhide HP7).lp
    have hL8 : LP w8 bm nn8 (Lz.look W (Pl ++ [(c, b)])) := hL7.same (hk8.block bm (by omega))
    obtain ⟨w9, hrun9, hL9, hg9⟩ := hL8.cleared 3
    have hrun9' : ∀ ty, (Builtin.clear_ #[221] ty #[.map (some bm)]).run Tryz.prog w8 = .ok (.tuple #[]) w9 := fun ty => hrun9
    have hpk := PK.map (P2 := []) (ls := ls ++ [(c, S)] ++ [(X, S1)]) (w := w8) (w' := w9) (N' := 2 ^ W + 2) hw8 hC8 hm8 h1 hg9 rfl ⟨0, Nat.le_refl _, hL9.congr (fun x y => by simp [Lz.look])⟩
    have HP9 := hide hpk.1
    have HB9 := hide ((unhide HB8).trans hpk.2)
    have HR9 := hide hrun9'
    clear HRS hC8 hk8 hw8 HB8 hL7 hL8 hL9 hg9 hpk HP7 HB7 hrun9 hrun9'
    have hr9 := unhide HR9 0
    go_wp2
    go_ret
    refine ⟨rfl, unhide HB9, fun q => absurd ((unhide HN).symm.trans (unhide HFU)) q, fun _ => ?_⟩
    have := unhide HP9
    rw [unhide HX, unhide HS1, unhide HFU] at this
    exact this
  · have g9 : ((N : Int) == 4095) = false := by rw [beq_eq_false_iff_ne]; intro q; exact hfull (by omega)
    go_wp2
    go_ret
    exact ⟨rfl, unhide HB5, fun _ => by rw [← unhide HN]; exact unhide HP5, fun q => absurd (by rw [unhide HN]; exact q) hfull⟩
end Go.Proofs.YtjcoahahponabaaGreatDoor
