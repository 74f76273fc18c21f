/- Walks of the program's reader of packed texts: lengths of a dynamic block, one run. -/
import Derived.Test.YtkpgfdhljpdidacDoorIn6
namespace Go.Proofs.YtkpgfdhljpdidacDoor
open Go.RowKit Pm Cn Cd Nf

section
variable {P p : Nat} {s : ByteArray} {k : Nat} {out : List UInt8} {most : Nat} {fx : Value} {t : TypeId} {xT xB xS : Value}

theorem num_any (d : Nat) (w : World) (h : IA w P p s k out most fx) (hG : Gl w t xT xB xS) (hd : d ≤ 16) :
    Calls Tryd.prog 63 #[.pointer (some ⟨P, 0, none⟩), .int .i64 (d : Int)] w fun e w' =>
      (∃ x, get (tv s) (8 * s.size) k d = some x ∧ x < 65536 ∧ e = .returned (.int .i64 (x : Nat)) ∧ IA w' P p s (k + d) out most fx ∧ Gl w' t xT xB xS ∧ But (· = p) w w' ∧ rowT w' P = rowT w P) ∨
      (get (tv s) (8 * s.size) k d = none ∧ e = .panicked (thrown t xT) ∧ Below p w w') := by
  have hlt := h.lt
  have hpP := h.ltp
  refine (number_any d w h hG (by omega)).mono ?_
  rintro e w' (⟨hf, rfl, hI, hb, hr⟩ | ⟨hf, rfl, hb⟩)
  · exact .inl ⟨_, get_some hf, Nat.lt_of_lt_of_le (Nat.mod_lt _ (Nat.two_pow_pos _)) (Nat.pow_le_pow_right (n := 2) (j := 16) (by omega) hd), rfl, hI, hG.bits hb h, hb, hr⟩
  · exact .inr ⟨get_none hf, rfl, hb.below (by omega) (fun i hi q => by omega)⟩

/-- What a symbol of the code of lengths means behind a row: which length, how often, and how many bits; or nothing. -/
def runOf (V nb k i : Nat) (row : List Nat) : Option (Nat × Nat × Nat) :=
  if i < 16 then some (i, 1, 0)
  else if i = 16 ∧ row.length = 0 then none
  else match get V nb k (againBits i) with
    | none => none
    | some x => some (againOf i row, againFrom i + x, againBits i)

set_option maxHeartbeats 2000000 in
set_option maxRecDepth 100000 in
theorem run_any (i : Nat) (row : List Nat) (v : Value) (base : Nat) (w : World) (h : IA w P p s k out most fx) (hG : Gl w t xT xB xS) (hi : i < 19) (hrow : w.ownsRow base 3 1 v row.length (natVals row)) (hbase : P < base) (hsm : ∀ x ∈ row, x ≤ 15) (hln : row.length ≤ 1000) :
    Calls Tryd.prog 102 #[.pointer (some ⟨P, 0, none⟩), .int .i64 (i : Int), v] w fun e w' =>
      (∃ q : Nat × Nat × Nat, runOf (tv s) (8 * s.size) k i row = some q ∧ q.1 ≤ 15 ∧ 1 ≤ q.2.1 ∧ q.2.1 ≤ 138 ∧ e = .returned (.tuple #[.int .i64 (q.1 : Nat), .int .i64 (q.2.1 : Nat)]) ∧ IA w' P p s (k + q.2.2) out most fx ∧ Gl w' t xT xB xS ∧ But (· = p) w w' ∧ rowT w' P = rowT w P) ∨
      (runOf (tv s) (8 * s.size) k i row = none ∧ e = .panicked (thrown t xT) ∧ Below p w w') := by
  obtain ⟨a0, c0, rfl, hg0⟩ := own_shape hrow
  have HI := hide h
  have HG := hide hG
  have ht := hG.text
  have hpP := h.ltp
  have hPl := h.lt
  by_cases h16 : i < 16
  · have g1 : ((i : Int) == 16) = false := by simp; omega
    have g2 : ((i : Int) == 17) = false := by simp; omega
    have g3 : ((i : Int) == 18) = false := by simp; omega
    clear h hG
    go_enter Tryd.func102, Tryd.ntmps102
    go_wp2
    go_ret2
    exact .inl ⟨(i, 1, 0), by unfold runOf; rw [if_pos h16], by show i ≤ 15; omega, by show 1 ≤ 1; omega, by show 1 ≤ 138; omega, rfl, unhide HI, unhide HG, But.refl _ _, rfl⟩
  by_cases e17 : i = 17
  · subst e17
    have HN := hide (num_any 3 w h hG (by omega))
    have HR : Hid (runOf (tv s) (8 * s.size) k 17 row = match get (tv s) (8 * s.size) k 3 with | none => none | some x => some (0, 3 + x, 3)) := rfl
    clear h hG
    go_enter Tryd.func102, Tryd.ntmps102
    go_wp2_with fail
    refine (unhide HN).mono ?_
    rintro e w1 (⟨x, hx, hxl, rfl, hI1, hG1, hb1, hr1⟩ | ⟨hx, rfl, hb1⟩)
    · have hx8 : x < 8 := by
        unfold Nf.get at hx; split at hx
        · injection hx with hx; rw [← hx]; exact Nat.mod_lt _ (by omega)
        · cases hx
      have HX := hide hx
      have HI1 := hide hI1
      have HG1 := hide hG1
      obtain ⟨y, hy⟩ : ∃ y, y = 3 + x := ⟨_, rfl⟩
      have zy : 3 + (x : Int) = (y : Int) := by omega
      have hyl : y ≤ 10 := by omega
      have HY := hide hy
      clear hx hI1 hG1 HN hy
      go_wp2
      go_ret2
      exact .inl ⟨(0, y, 3), by rw [unhide HR, unhide HX]; simp [unhide HY], by omega, by have := unhide HY; show 1 ≤ y; omega, by show y ≤ 138; omega, rfl, unhide HI1, unhide HG1, hb1, hr1⟩
    · have HX := hide hx
      clear hx HN
      go_wp2
      exact ⟨rfl, .inr ⟨by rw [unhide HR, unhide HX], rfl, hb1⟩⟩
  by_cases e18 : i = 18
  · subst e18
    have HN := hide (num_any 7 w h hG (by omega))
    have HR : Hid (runOf (tv s) (8 * s.size) k 18 row = match get (tv s) (8 * s.size) k 7 with | none => none | some x => some (0, 11 + x, 7)) := rfl
    clear h hG
    go_enter Tryd.func102, Tryd.ntmps102
    go_wp2_with fail
    refine (unhide HN).mono ?_
    rintro e w1 (⟨x, hx, hxl, rfl, hI1, hG1, hb1, hr1⟩ | ⟨hx, rfl, hb1⟩)
    · have hx8 : x < 128 := by
        unfold Nf.get at hx; split at hx
        · injection hx with hx; rw [← hx]; exact Nat.mod_lt _ (by omega)
        · cases hx
      have HX := hide hx
      have HI1 := hide hI1
      have HG1 := hide hG1
      obtain ⟨y, hy⟩ : ∃ y, y = 11 + x := ⟨_, rfl⟩
      have zy : 11 + (x : Int) = (y : Int) := by omega
      have hyl : y ≤ 138 := by omega
      have HY := hide hy
      clear hx hI1 hG1 HN hy
      go_wp2
      go_ret2
      exact .inl ⟨(0, y, 7), by rw [unhide HR, unhide HX]; simp [unhide HY], by omega, by have := unhide HY; show 1 ≤ y; omega, hyl, rfl, unhide HI1, unhide HG1, hb1, hr1⟩
    · have HX := hide hx
      clear hx HN
      go_wp2
      exact ⟨rfl, .inr ⟨by rw [unhide HR, unhide HX], rfl, hb1⟩⟩
  have e16 : i = 16 := by omega
  subst e16
  by_cases hr0 : row.length = 0
  · have HR : Hid (runOf (tv s) (8 * s.size) k 16 row = none) := by show _ = _; unfold runOf; rw [if_neg (by omega), if_pos ⟨rfl, hr0⟩]
    clear h hG hg0
    rw [hr0] at hrow ⊢
    go_enter Tryd.func102, Tryd.ntmps102
    go_wp2_with fail
    refine (throw_any t xT _).mono ?_; rintro e w2 ⟨rfl, rfl⟩
    go_wp2
    exact ⟨rfl, .inr ⟨unhide HR, rfl, Below.refl _ _⟩⟩
  · have g1 : ((row.length : Int) == 0) = false := by clear hg0; simp only [beq_eq_false_iff_ne, ne_eq]; omega
    obtain ⟨g, rfl, hgb⟩ := hg0 (by clear hg0; omega)
    obtain ⟨ix, hix⟩ : ∃ q, q = row.length - 1 := ⟨_, rfl⟩
    have zix : (row.length : Int) - 1 = (ix : Int) := by omega
    have hixl : ix < row.length := by omega
    have hixi : (ix : Int) < (row.length : Int) := by omega
    obtain ⟨b, hbb⟩ : ∃ b, b = row[ix] := ⟨_, rfl⟩
    have cb : w.cell? ⟨g, ix, none⟩ = some (.int .i64 (b : Nat)) := by rw [own_cell hrow ix hixl, hbb]
    have hb15 : b ≤ 15 := by rw [hbb]; exact hsm _ (List.getElem_mem hixl)
    have HR : Hid (runOf (tv s) (8 * s.size) k 16 row = match get (tv s) (8 * s.size) k 2 with | none => none | some x => some (b, 3 + x, 2)) := by
      show _ = _
      unfold runOf
      rw [if_neg (by omega), if_neg (by omega)]
      have e : againOf 16 row = b := by
        show row.getD (row.length - 1) 0 = b
        rw [← hix, hbb]
        simp [List.getElem?_eq_getElem hixl]
      rw [e]
      rfl
    have hgl := World.block_lt_of_cell? _ _ cb
    simp only at hgl
    have hI' : IA w.drew P p s k out most fx := (h.still ((Below.refl _ _).drew)).1
    have HN := hide (num_any 2 w.drew hI' (hG.but (But.refl (fun _ => False) w).drew (fun _ _ q => q)) (by omega))
    have entN : ∀ args w, (callFunc 63 args).run Tryd.prog w = .ok (.enter 63 args) w := enters_of Tryd.func63 (by kernel_rfl) rfl
    have hrd : rowT w.drew P = rowT w P := rowT_same rfl
    have hwx : IntKind.i64.wrap (ix : Int) = (ix : Int) := by rw [IntKind.wrap_i64]; omega
    have HCB := hide cb
    clear h hG hI' hrow hix hbb
    go_enter Tryd.func102, Tryd.ntmps102
    go_wp2_with fail
    refine wp_region_held_drew (S := fun w' => w'.cell? ⟨g, ix, none⟩ = some (.int .i64 (b : Nat))) (by kernel_rfl) cb (fun hHeld => ?_)
    refine wpAnyH_take (i := 0) (v := .slice (some ⟨g, 0, none⟩) row.length c0) rfl (by kernel_rfl) (by kernel_rfl) (by kernel_rfl) (fun _ _ _ h => h) (Or.inl ⟨by rfl, ?_⟩) hHeld ?_
    · intro w' hSw
      go_simp
    simp only [Act.put, List.setIfInBounds_toArray]
    refine wpAnyH_take (i := 1) (v := .slice (some ⟨g, 0, none⟩) row.length c0) rfl (by kernel_rfl) (by kernel_rfl) (by kernel_rfl) (fun _ _ _ h => h) (Or.inl ⟨by rfl, ?_⟩) hHeld ?_
    · intro w' hSw
      go_simp
    simp only [Act.put]
    refine wpAnyH_take (i := 2) (v := .int .i64 (row.length : Int)) rfl (by kernel_rfl) (by kernel_rfl) (by kernel_rfl) (fun _ _ _ h => h) (Or.inl ⟨by rfl, ?_⟩) hHeld ?_
    · intro w' hSw
      go_simp
    simp only [Act.put]
    refine wpAnyH_take (i := 3) (v := .int .i64 (ix : Int)) rfl (by kernel_rfl) (by kernel_rfl) (by kernel_rfl) (fun _ _ _ h => h) (Or.inl ⟨by rfl, ?_⟩) hHeld ?_
    · intro w' hSw
      go_simp
    simp only [Act.put]
    refine wpAnyH_take (i := 4) (v := .pointer (some ⟨g, ix, none⟩)) rfl (by kernel_rfl) (by kernel_rfl) (by kernel_rfl) (fun _ _ _ h => h) (Or.inl ⟨by rfl, ?_⟩) hHeld ?_
    · intro w' hSw
      go_simp
    simp only [Act.put]
    refine wpAnyH_take (i := 5) (v := .int .i64 (b : Nat)) rfl (by kernel_rfl) (by kernel_rfl) (by kernel_rfl) (fun _ _ _ h => h) (Or.inl ⟨by rfl, ?_⟩) hHeld ?_
    · intro w' hSw
      go_simp
    simp only [Act.put]
    refine wpAnyH_take (i := 6) (v := .pointer (some ⟨P, 0, none⟩)) rfl (by kernel_rfl) (by kernel_rfl) (by kernel_rfl) (fun _ _ _ h => h) (Or.inl ⟨by rfl, ?_⟩) hHeld ?_
    · intro w' hSw
      go_simp
    simp only [Act.put]
    refine wpAnyH_ready (rs := [7]) (by kernel_rfl) (by simp) ?_
    refine AllReadyH.cons rfl (fun K hK => ?_) AllReadyH.nil
    refine step_calls rfl 63 [.tmp 22, .const (.int .i64 2)] #[79, 3] rfl [.pointer (some ⟨P, 0, none⟩), .int .i64 2] (by simp [Act.eval]) entN ?_
    refine (unhide HN).mono ?_
    rintro e w1 (⟨x, hx, hxl, rfl, hI1, hG1, hb1, hr1⟩ | ⟨hx, rfl, hb1⟩)
    rotate_left
    · have HX := hide hx
      have hbw : Below p w w1 := (Below.refl _ _).drew.trans hb1
      refine .inr ⟨_, rfl, ?_⟩
      clear hK K HN hx
      go_wp2
      exact ⟨rfl, .inr ⟨by rw [unhide HR, unhide HX], rfl, hbw⟩⟩
    refine .inl ⟨_, rfl, ?_⟩
    have cb1 := (hb1.cell (p := ⟨g, ix, none⟩) hgl (by show ¬ g = p; omega)).trans (unhide HCB)
    refine hK.out _ _ cb1 (fun hHeld => ?_)
    clear hK K
    have hx8 : x < 4 := by
      unfold Nf.get at hx; split at hx
      · injection hx with hx; rw [← hx]; exact Nat.mod_lt _ (by omega)
      · cases hx
    have HX := hide hx
    have HI1 := hide hI1
    have HG1 := hide hG1
    have hbw : But (· = p) w w1 := (But.refl _ w).drew.trans hb1
    obtain ⟨y, hy⟩ : ∃ y, y = 3 + x := ⟨_, rfl⟩
    have zy : 3 + (x : Int) = (y : Int) := by omega
    have hyl : y ≤ 10 := by omega
    have hwy : IntKind.i64.wrap (y : Int) = (y : Int) := by rw [IntKind.wrap_i64]; omega
    have HY := hide hy
    clear hx hI1 hG1 HN hy
    simp only [Act.put]
    refine wpAnyH_take (i := 8) (v := .int .i64 (y : Int)) rfl (by kernel_rfl) (by kernel_rfl) (by kernel_rfl) (fun _ _ _ h => h) (Or.inl ⟨by rfl, ?_⟩) hHeld ?_
    · intro w' hSw
      go_simp
    simp only [Act.put]
    refine wpAnyH_ready (rs := [9]) (by kernel_rfl) (by simp) ?_
    refine AllReadyH.cons rfl (fun K hK => ?_) AllReadyH.nil
    go_simp
    refine hK.out _ _ hHeld (fun hHeld => ?_)
    clear hK K
    refine wpAnyH_ready (rs := [10]) (by kernel_rfl) (by simp) ?_
    refine AllReadyH.cons rfl (fun K hK => ?_) AllReadyH.nil
    go_simp
    refine hK.out _ _ hHeld (fun hHeld => ?_)
    clear hK K
    refine wpAnyH_done (by kernel_rfl) ?_ _
    go_wp2
    go_ret2
    exact .inl ⟨(b, y, 2), by rw [unhide HR, unhide HX]; simp [unhide HY], hb15, by have := unhide HY; show 1 ≤ y; omega, by show y ≤ 138; omega, rfl, unhide HI1, unhide HG1, hbw, hr1.trans hrd⟩
end
end Go.Proofs.YtkpgfdhljpdidacDoor
