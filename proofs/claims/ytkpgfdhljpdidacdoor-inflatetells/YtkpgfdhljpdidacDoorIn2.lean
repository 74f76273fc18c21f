/- Walks of the program's reader of packed texts: lengths and distances of matches. -/
import Derived.Test.YtkpgfdhljpdidacDoorMC
import Derived.Deep.RegionHeld
namespace Go.Proofs.YtkpgfdhljpdidacDoor
open Go.RowKit Pm Cn Cd Nf

set_option maxRecDepth 100000 in
/-- A call of a Go function, as one step of a statement that draws its order. -/
theorem step_calls {ops : Array Oper} {o : Oper} {a : Act} {w : World} {K : Act → World → Prop} {Q : Exit → Act → World → Prop} {E : Prop} (hgd : o.guard = none) (f : Nat) (xs : List Operand) (ts : Array TypeId)
    (ho : o.op = .call { callee := .value (.func f), args := xs.toArray, argTypes := ts }) (us : List Value) (hx : xs.map a.eval = us) (ent : ∀ args w, (callFunc f args).run Tryd.prog w = .ok (.enter f args) w)
    (h : Calls Tryd.prog f us.toArray w fun e w' => (∃ v, e = .returned v ∧ K (a.put o.dst v) w') ∨ ∃ ch, e = .panicked ch ∧ Q (.panic ch) a w') : if Region.wanted o (yielded ops a.tmps) = true then Oper.wp Tryd.prog o a w K Q else E := by
  have hw : Region.wanted o (yielded ops a.tmps) = true := by simp [Region.wanted, hgd]
  rw [if_pos hw]
  unfold Oper.wp execOp
  have e1 : a.eval (.func f) = Value.func (.func f) #[] #[] := rfl
  have e2 : ∀ ar : Array Value, ar ++ #[] = ar := fun ar => by simp
  have e3 : ∀ ar : Array Value, #[] ++ ar = ar := fun ar => by simp
  simp only [ho, resolve, invoke, Deferred.ofValue, e1, e2, e3, Sem.run_bind, Sem.run_pure, Result.andThen_ok, List.map_toArray, hx, ent]
  rw [Oper.upon_enter]
  refine h.mono ?_
  rintro e w' (⟨v, rfl, hk⟩ | ⟨ch, rfl, hq⟩)
  · exact hk
  · exact hq

theorem lengthBits_any (c : Nat) (w : World) (hc : c < 29) :
    Calls Tryd.prog 100 #[.int .i64 (c : Int)] w fun e w' => e = .returned (.int .i64 (lenBits c : Nat)) ∧ w' = w := by
  rcases (show c = 0 ∨ c = 1 ∨ c = 2 ∨ c = 3 ∨ c = 4 ∨ c = 5 ∨ c = 6 ∨ c = 7 ∨ c = 8 ∨ c = 9 ∨ c = 10 ∨ c = 11 ∨ c = 12 ∨ c = 13 ∨ c = 14 ∨ c = 15 ∨ c = 16 ∨ c = 17 ∨ c = 18 ∨ c = 19 ∨ c = 20 ∨ c = 21 ∨ c = 22 ∨ c = 23 ∨ c = 24 ∨ c = 25 ∨ c = 26 ∨ c = 27 ∨ c = 28 by omega) with rfl | rfl | rfl | rfl | rfl | rfl | rfl | rfl | rfl | rfl | rfl | rfl | rfl | rfl | rfl | rfl | rfl | rfl | rfl | rfl | rfl | rfl | rfl | rfl | rfl | rfl | rfl | rfl | rfl <;>
  (go_enter Tryd.func100, Tryd.ntmps100
   go_wp2
   go_ret
   exact ⟨rfl, rfl⟩)

theorem distanceBits_any (c : Nat) (w : World) (hc : c < 30) :
    Calls Tryd.prog 101 #[.int .i64 (c : Int)] w fun e w' => e = .returned (.int .i64 (distBits c : Nat)) ∧ w' = w := by
  rcases (show c = 0 ∨ c = 1 ∨ c = 2 ∨ c = 3 ∨ c = 4 ∨ c = 5 ∨ c = 6 ∨ c = 7 ∨ c = 8 ∨ c = 9 ∨ c = 10 ∨ c = 11 ∨ c = 12 ∨ c = 13 ∨ c = 14 ∨ c = 15 ∨ c = 16 ∨ c = 17 ∨ c = 18 ∨ c = 19 ∨ c = 20 ∨ c = 21 ∨ c = 22 ∨ c = 23 ∨ c = 24 ∨ c = 25 ∨ c = 26 ∨ c = 27 ∨ c = 28 ∨ c = 29 by omega) with rfl | rfl | rfl | rfl | rfl | rfl | rfl | rfl | rfl | rfl | rfl | rfl | rfl | rfl | rfl | rfl | rfl | rfl | rfl | rfl | rfl | rfl | rfl | rfl | rfl | rfl | rfl | rfl | rfl | rfl <;>
  (go_enter Tryd.func101, Tryd.ntmps101
   go_wp2
   go_ret
   exact ⟨rfl, rfl⟩)

theorem lenBits_le (c : Nat) (h : c < 29) : lenBits c ≤ 5 := by unfold lenBits; split <;> omega
theorem distBits_le (c : Nat) (h : c < 30) : distBits c ≤ 13 := by unfold distBits; split <;> omega
set_option maxRecDepth 10000 in
theorem lens_le : ∀ c, c < 29 → 3 ≤ lens.getD c 0 ∧ lens.getD c 0 ≤ 258 := by decide
set_option maxRecDepth 10000 in
theorem dists_le : ∀ c, c < 30 → 1 ≤ dists.getD c 0 ∧ dists.getD c 0 ≤ 24577 := by decide

section
variable {P p : Nat} {s : ByteArray} {k : Nat} {out : List UInt8} {most : Nat} {fx : Value} {t : TypeId} {xT xB xS : Value}

set_option maxHeartbeats 1000000 in
set_option maxRecDepth 100000 in
theorem length_any (c : Nat) (w : World) (h : IA w P p s k out most fx) (hG : Gl w t xT xB xS) (hc : c < 100) :
    Calls Tryd.prog 90 #[.pointer (some ⟨P, 0, none⟩), .int .i64 (c : Int)] w fun e w' =>
      (c < 29 ∧ k + lenBits c ≤ 8 * s.size ∧ e = .returned (.int .i64 ((lens.getD c 0 + tv s / 2 ^ k % 2 ^ lenBits c : Nat) : Int)) ∧ IA w' P p s (k + lenBits c) out most fx ∧ But (· = p) w w' ∧ rowT w' P = rowT w P) ∨
      ((29 ≤ c ∨ ¬ k + lenBits c ≤ 8 * s.size) ∧ e = .panicked (thrown t xT) ∧ But (· = p) w w') := by
  by_cases h29 : 29 ≤ c
  · have d1 : decide ((29 : Int) ≤ (c : Int)) = true := by simp; omega
    have d2 : decide ((c : Int) ≥ 29) = true := d1
    have ht := hG.text
    clear h hG
    go_enter Tryd.func90, Tryd.ntmps90
    go_wp2_with fail
    refine (throw_any t xT _).mono ?_; rintro e w2 ⟨rfl, rfl⟩
    go_wp2
    exact ⟨rfl, .inr ⟨.inl h29, rfl, But.refl _ _⟩⟩
  · have d1 : decide ((29 : Int) ≤ (c : Int)) = false := by simp; omega
    have d2 : decide ((c : Int) ≥ 29) = false := d1
    have hc29 : (c : Int) < 29 := by omega
    have c10 := hG.lenF c (by omega)
    have hbl := lenBits_le c (by omega)
    have hll := lens_le c (by omega)
    have hgl := h.glob
    have hlt := h.lt
    have hpp := h.ltp
    have HL := hide (lengthBits_any c w.drew (by omega))
    have hI : IA w.drew P p s k out most fx := (h.still ((Below.refl _ _).drew)).1
    have hrow : rowT w.drew P = rowT w P := (h.still ((Below.refl _ _).drew)).2
    have HN := hide (number_any (lenBits c) w.drew hI (hG.but (But.refl (fun _ => False) w).drew (fun _ _ q => q)) (by omega))
    have entL : ∀ args w, (callFunc 100 args).run Tryd.prog w = .ok (.enter 100 args) w := enters_of Tryd.func100 (by kernel_rfl) rfl
    have entN : ∀ args w, (callFunc 63 args).run Tryd.prog w = .ok (.enter 63 args) w := enters_of Tryd.func63 (by kernel_rfl) rfl
    obtain ⟨lc, hlc⟩ : ∃ q, q = lens.getD c 0 := ⟨_, rfl⟩
    obtain ⟨lb, hlb⟩ : ∃ q, q = lenBits c := ⟨_, rfl⟩
    have hyl : tv s / 2 ^ k % 2 ^ lenBits c < 32 := Nat.lt_of_lt_of_le (Nat.mod_lt _ (Nat.two_pow_pos _)) (Nat.pow_le_pow_right (n := 2) (j := 5) (by omega) hbl)
    rw [← hlc] at c10 hll ⊢
    rw [← hlb] at HL HN hyl ⊢
    obtain ⟨y, hy⟩ : ∃ q, q = tv s / 2 ^ k % 2 ^ lb := ⟨_, rfl⟩
    rw [← hy] at HN hyl ⊢
    obtain ⟨sm, hsm⟩ : ∃ q, q = lc + y := ⟨_, rfl⟩
    have zs : (lc : Int) + (y : Int) = (sm : Int) := by omega
    have hsl : sm ≤ 1000 := by omega
    have hws : IntKind.i64.wrap (sm : Int) = (sm : Int) := by rw [IntKind.wrap_i64]; omega
    rw [← hsm]
    have Hc10 := hide c10
    clear h hG hI hlc hlb hy hsm
    go_enter Tryd.func90, Tryd.ntmps90
    go_wp2_with fail
    refine wp_region_held_drew (S := fun w' => w'.cell? ⟨10, c, none⟩ = some (.int .i64 (lc : Int))) (by kernel_rfl) c10 (fun hHeld => ?_)
    refine wpAnyH_take (i := 0) (v := .int .i64 (c : Int)) rfl (by kernel_rfl) (by kernel_rfl) (by kernel_rfl) (fun _ _ _ h => h) (Or.inl ⟨by rfl, ?_⟩) hHeld ?_
    · intro w' hSw
      go_simp
    simp only [Act.put, List.setIfInBounds_toArray]
    refine wpAnyH_take (i := 1) (v := .pointer (some ⟨10, c, none⟩)) rfl (by kernel_rfl) (by kernel_rfl) (by kernel_rfl) (fun _ _ _ h => h) (Or.inl ⟨by rfl, ?_⟩) hHeld ?_
    · intro w' hSw
      go_simp
    simp only [Act.put]
    refine wpAnyH_take (i := 2) (v := .int .i64 (lc : Int)) rfl (by kernel_rfl) (by kernel_rfl) (by kernel_rfl) (fun _ _ _ h => h) (Or.inl ⟨by rfl, ?_⟩) hHeld ?_
    · intro w' hSw
      go_simp
    simp only [Act.put]
    refine wpAnyH_take (i := 3) (v := .pointer (some ⟨P, 0, none⟩)) rfl (by kernel_rfl) (by kernel_rfl) (by kernel_rfl) (fun _ _ _ h => h) (Or.inl ⟨by rfl, ?_⟩) hHeld ?_
    · intro w' hSw
      go_simp
    simp only [Act.put]
    refine wpAnyH_take (i := 4) (v := .int .i64 (c : Int)) rfl (by kernel_rfl) (by kernel_rfl) (by kernel_rfl) (fun _ _ _ h => h) (Or.inl ⟨by rfl, ?_⟩) hHeld ?_
    · intro w' hSw
      go_simp
    simp only [Act.put]
    refine wpAnyH_ready (rs := [5]) (by kernel_rfl) (by simp) ?_
    refine AllReadyH.cons rfl (fun K hK => ?_) AllReadyH.nil
    refine step_calls rfl 100 [.tmp 13] #[3] rfl [.int .i64 (c : Int)] (by simp [Act.eval]) entL ?_
    refine (unhide HL).mono ?_
    rintro e w1 ⟨rfl, rfl⟩
    refine .inl ⟨_, rfl, ?_⟩
    refine hK.out _ _ hHeld (fun hHeld => ?_)
    clear hK K
    simp only [Act.put]
    refine wpAnyH_ready (rs := [6]) (by kernel_rfl) (by simp) ?_
    refine AllReadyH.cons rfl (fun K hK => ?_) AllReadyH.nil
    refine step_calls rfl 63 [.tmp 12, .tmp 14] #[79, 3] rfl [.pointer (some ⟨P, 0, none⟩), .int .i64 (lb : Int)] (by simp [Act.eval]) entN ?_
    refine (unhide HN).mono ?_
    rintro e w2 (⟨hfit, rfl, hI2, hb2, hr2⟩ | ⟨hfit, rfl, hb2⟩)
    · refine .inl ⟨_, rfl, ?_⟩
      have HI2 := hide hI2
      have c10b := (hb2.cell (p := ⟨10, c, none⟩) (World.block_lt_of_cell? _ _ (unhide Hc10)) (by show ¬ 10 = p; omega)).trans (unhide Hc10)
      have hbw : But (· = p) w w2 := (But.refl _ w).drew.trans hb2
      refine hK.out _ _ c10b (fun hHeld => ?_)
      clear hK K hI2 HN HL
      simp only [Act.put]
      refine wpAnyH_take (i := 7) (v := .int .i64 (sm : Int)) rfl (by kernel_rfl) (by kernel_rfl) (by kernel_rfl) (fun _ _ _ h => h) (Or.inl ⟨by rfl, ?_⟩) hHeld ?_
      · intro w' hSw
        go_simp
      simp only [Act.put]
      refine wpAnyH_ready (rs := [8]) (by kernel_rfl) (by simp) ?_
      refine AllReadyH.cons rfl (fun K hK => ?_) AllReadyH.nil
      go_simp
      refine hK.out _ _ hHeld (fun hHeld => ?_)
      clear hK K
      refine wpAnyH_done (by kernel_rfl) ?_ _
      go_wp2
      go_ret
      exact .inl ⟨by omega, hfit, rfl, unhide HI2, hbw, hr2.trans hrow⟩
    · have hbw : But (· = p) w w2 := (But.refl _ w).drew.trans hb2
      refine .inr ⟨_, rfl, ?_⟩
      have HF := hide hfit
      clear hK K hfit
      go_wp2
      exact ⟨rfl, .inr ⟨by have := unhide HF; omega, rfl, hbw⟩⟩

set_option maxHeartbeats 1000000 in
set_option maxRecDepth 100000 in
theorem distance_any (T G N : Nat) (z : Nat → Int) (sy : List Nat) (w : World) (h : IA w P p s k out most fx) (hG : Gl w t xT xB xS) (hT : Tr w T G (nat z) sy) (hTp : T ≠ p) (hGp : G ≠ p) (hpm : sy.Perm (syms z N)) (hso : sy.Pairwise (Ahead z)) (hz : ∀ i, i < N → 0 ≤ z i ∧ z i ≤ 15) (hN : N ≤ 300) :
    Calls Tryd.prog 92 #[.pointer (some ⟨P, 0, none⟩), .pointer (some ⟨T, 0, none⟩)] w fun e w' =>
      (∃ d, Wd (tv s) (8 * s.size) (nat z) N k d ∧ d < 30 ∧ k + nat z d + distBits d ≤ 8 * s.size ∧ e = .returned (.int .i64 ((dists.getD d 0 + tv s / 2 ^ (k + nat z d) % 2 ^ distBits d : Nat) : Int)) ∧ IA w' P p s (k + nat z d + distBits d) out most fx ∧ But (· = p) w w' ∧ rowT w' P = rowT w P) ∨
      (((¬ ∃ d, Wd (tv s) (8 * s.size) (nat z) N k d) ∨ ∃ d, Wd (tv s) (8 * s.size) (nat z) N k d ∧ (30 ≤ d ∨ ¬ k + nat z d + distBits d ≤ 8 * s.size)) ∧ e = .panicked (thrown t xT) ∧ But (· = p) w w') := by
  have HSY := hide (symbol_any T G N z sy w h hG hT hTp hGp hpm hso hz hN)
  have HG := hide hG
  have HI := hide h
  have hgl := h.glob
  clear h hG hT hpm hso hz
  go_enter Tryd.func92, Tryd.ntmps92
  go_wp2_with fail
  refine (unhide HSY).mono ?_
  rintro e w1 (⟨d, hd, rfl, hI, hb, hr⟩ | ⟨hd, rfl, hb⟩)
  · have hG1 := (unhide HG).bits hb (unhide HI)
    have HD := hide hd
    have ht := hG1.text
    have hdN := hd.1
    clear hd HSY
    by_cases h30 : 30 ≤ d
    · have d1 : decide ((30 : Int) ≤ (d : Int)) = true := by simp; omega
      have d2 : decide ((d : Int) ≥ 30) = true := d1
      clear hI hG1
      go_wp2_with fail
      refine (throw_any t xT _).mono ?_; rintro e w2 ⟨rfl, rfl⟩
      go_wp2
      exact ⟨rfl, .inr ⟨.inr ⟨d, unhide HD, .inl h30⟩, rfl, hb⟩⟩
    · have d1 : decide ((30 : Int) ≤ (d : Int)) = false := by simp; omega
      have d2 : decide ((d : Int) ≥ 30) = false := d1
      have hc30 : (d : Int) < 30 := by omega
      have c10 := hG1.distF d (by omega)
      have hbl := distBits_le d (by omega)
      have hll := dists_le d (by omega)
      have HL := hide (distanceBits_any d w1.drew (by omega))
      have hI2 : IA w1.drew P p s (k + nat z d) out most fx := (hI.still ((Below.refl _ _).drew)).1
      have hrow : rowT w1.drew P = rowT w P := (hI.still ((Below.refl _ _).drew)).2.trans hr
      have HN := hide (number_any (distBits d) w1.drew hI2 (hG1.but (But.refl (fun _ => False) w1).drew (fun _ _ q => q)) (by omega))
      have entL : ∀ args w, (callFunc 101 args).run Tryd.prog w = .ok (.enter 101 args) w := enters_of Tryd.func101 (by kernel_rfl) rfl
      have entN : ∀ args w, (callFunc 63 args).run Tryd.prog w = .ok (.enter 63 args) w := enters_of Tryd.func63 (by kernel_rfl) rfl
      have hyl : tv s / 2 ^ (k + nat z d) % 2 ^ distBits d < 8192 := Nat.lt_of_lt_of_le (Nat.mod_lt _ (Nat.two_pow_pos _)) (Nat.pow_le_pow_right (n := 2) (j := 13) (by omega) hbl)
      obtain ⟨lc, hlc⟩ : ∃ q, q = dists.getD d 0 := ⟨_, rfl⟩
      obtain ⟨lb, hlb⟩ : ∃ q, q = distBits d := ⟨_, rfl⟩
      rw [← hlc] at c10 hll
      rw [← hlb] at HL HN hyl
      obtain ⟨y, hy⟩ : ∃ q, q = tv s / 2 ^ (k + nat z d) % 2 ^ lb := ⟨_, rfl⟩
      rw [← hy] at HN hyl
      obtain ⟨sm, hsm⟩ : ∃ q, q = lc + y := ⟨_, rfl⟩
      have zs : (lc : Int) + (y : Int) = (sm : Int) := by omega
      have hsl : sm ≤ 100000 := by omega
      have hws : IntKind.i64.wrap (sm : Int) = (sm : Int) := by rw [IntKind.wrap_i64]; omega
      have Hc10 := hide c10
      have HLB := hide hlb
      have HSM : Hid (sm = dists.getD d 0 + tv s / 2 ^ (k + nat z d) % 2 ^ distBits d) := by show _ = _; rw [hsm, hy, hlc, hlb]
      clear hI hG1 hI2 hlc hlb hy hsm
      go_wp2_with fail
      refine wp_region_held_drew (S := fun w' => w'.cell? ⟨11, d, none⟩ = some (.int .i64 (lc : Int))) (by kernel_rfl) c10 (fun hHeld => ?_)
      refine wpAnyH_take (i := 0) (v := .int .i64 (d : Int)) rfl (by kernel_rfl) (by kernel_rfl) (by kernel_rfl) (fun _ _ _ h => h) (Or.inl ⟨by rfl, ?_⟩) hHeld ?_
      · intro w' hSw
        go_simp
      simp only [Act.put, List.setIfInBounds_toArray]
      refine wpAnyH_take (i := 1) (v := .pointer (some ⟨11, d, none⟩)) rfl (by kernel_rfl) (by kernel_rfl) (by kernel_rfl) (fun _ _ _ h => h) (Or.inl ⟨by rfl, ?_⟩) hHeld ?_
      · intro w' hSw
        go_simp
      simp only [Act.put]
      refine wpAnyH_take (i := 2) (v := .int .i64 (lc : Int)) rfl (by kernel_rfl) (by kernel_rfl) (by kernel_rfl) (fun _ _ _ h => h) (Or.inl ⟨by rfl, ?_⟩) hHeld ?_
      · intro w' hSw
        go_simp
      simp only [Act.put]
      refine wpAnyH_take (i := 3) (v := .pointer (some ⟨P, 0, none⟩)) rfl (by kernel_rfl) (by kernel_rfl) (by kernel_rfl) (fun _ _ _ h => h) (Or.inl ⟨by rfl, ?_⟩) hHeld ?_
      · intro w' hSw
        go_simp
      simp only [Act.put]
      refine wpAnyH_take (i := 4) (v := .int .i64 (d : Int)) rfl (by kernel_rfl) (by kernel_rfl) (by kernel_rfl) (fun _ _ _ h => h) (Or.inl ⟨by rfl, ?_⟩) hHeld ?_
      · intro w' hSw
        go_simp
      simp only [Act.put]
      refine wpAnyH_ready (rs := [5]) (by kernel_rfl) (by simp) ?_
      refine AllReadyH.cons rfl (fun K hK => ?_) AllReadyH.nil
      refine step_calls rfl 101 [.tmp 17] #[3] rfl [.int .i64 (d : Int)] (by simp [Act.eval]) entL ?_
      refine (unhide HL).mono ?_
      rintro e w1' ⟨rfl, rfl⟩
      refine .inl ⟨_, rfl, ?_⟩
      refine hK.out _ _ hHeld (fun hHeld => ?_)
      clear hK K
      simp only [Act.put]
      refine wpAnyH_ready (rs := [6]) (by kernel_rfl) (by simp) ?_
      refine AllReadyH.cons rfl (fun K hK => ?_) AllReadyH.nil
      refine step_calls rfl 63 [.tmp 16, .tmp 18] #[79, 3] rfl [.pointer (some ⟨P, 0, none⟩), .int .i64 (lb : Int)] (by simp [Act.eval]) entN ?_
      refine (unhide HN).mono ?_
      rintro e w2 (⟨hfit, rfl, hI2, hb2, hr2⟩ | ⟨hfit, rfl, hb2⟩)
      · refine .inl ⟨_, rfl, ?_⟩
        have HI2 := hide hI2
        have c10b := (hb2.cell (p := ⟨11, d, none⟩) (World.block_lt_of_cell? _ _ (unhide Hc10)) (by show ¬ 11 = p; omega)).trans (unhide Hc10)
        have hbw : But (· = p) w w2 := hb.drew.trans hb2
        refine hK.out _ _ c10b (fun hHeld => ?_)
        clear hK K hI2 HN HL
        simp only [Act.put]
        refine wpAnyH_take (i := 7) (v := .int .i64 (sm : Int)) rfl (by kernel_rfl) (by kernel_rfl) (by kernel_rfl) (fun _ _ _ h => h) (Or.inl ⟨by rfl, ?_⟩) hHeld ?_
        · intro w' hSw
          go_simp
        simp only [Act.put]
        refine wpAnyH_ready (rs := [8]) (by kernel_rfl) (by simp) ?_
        refine AllReadyH.cons rfl (fun K hK => ?_) AllReadyH.nil
        go_simp
        refine hK.out _ _ hHeld (fun hHeld => ?_)
        clear hK K
        refine wpAnyH_done (by kernel_rfl) ?_ _
        go_wp2
        go_ret
        exact .inl ⟨d, unhide HD, by omega, by rw [← unhide HLB]; exact hfit, by rw [← unhide HSM]; rfl, by rw [← unhide HLB]; exact unhide HI2, hbw, hr2.trans hrow⟩
      · have hbw : But (· = p) w w2 := hb.drew.trans hb2
        refine .inr ⟨_, rfl, ?_⟩
        have HF := hide hfit
        clear hK K hfit
        go_wp2
        exact ⟨rfl, .inr ⟨.inr ⟨d, unhide HD, .inr (by have h1 := unhide HF; have h2 := unhide HLB; omega)⟩, rfl, hbw⟩⟩
  · have HD := hide hd
    clear hd HSY
    go_wp2
    exact ⟨rfl, .inr ⟨.inl (unhide HD), rfl, hb⟩⟩
end
end Go.Proofs.YtkpgfdhljpdidacDoor
