/- Walks of the program's reader of packed texts: lengths of a dynamic block, one run. -/
import Derived.Test.YtbbcfghlhgaofadDoorIn6
namespace Go.Proofs.YtbbcfghlhgaofadDoor
open Go.RowKit Pm Cn Cd Nf

section
variable {P p : Nat} {s : ByteArray} {k : Nat} {out : List UInt8} {most : Nat} {fx : Value} {t : TypeId} {xT xB xS : Value}

theorem num_any (d : Nat) (w : World) (h : IA w P p s k out most fx) (hG : Gl w t xT xB xS) (hd : d ≤ 16) :
    Calls Tryd.prog 42 #[.pointer (some ⟨P, 0, none⟩), .int .i64 (d : Int)] w fun e w' =>
      (∃ x, get (tv s) (8 * s.size) k d = some x ∧ x < 65536 ∧ e = .returned (.int .i64 (x : Nat)) ∧ IA w' P p s (k + d) out most fx ∧ Gl w' t xT xB xS ∧ But (· = p) w w' ∧ rowT w' P = rowT w P) ∨
      (get (tv s) (8 * s.size) k d = none ∧ e = .panicked (thrown t xT) ∧ Below p w w') := by
  have hlt := h.lt
  have hpP := h.ltp
  refine (number_any d w h hG (by omega)).mono ?_
  rintro e w' (⟨hf, rfl, hI, hb, hr⟩ | ⟨hf, rfl, hb⟩)
  · exact .inl ⟨_, get_some hf, Nat.lt_of_lt_of_le (Nat.mod_lt _ (Nat.two_pow_pos _)) (Nat.pow_le_pow_right (n := 2) (j := 16) (by omega) hd), rfl, hI, hG.bits hb h, hb, hr⟩
  · exact .inr ⟨get_none hf, rfl, hb.below (by omega) (fun i hi q => by omega)⟩

/-- What a symbol of the code of lengths means behind a row: which length, how often, and how many bits; or nothing. -/
def runOf (V nb k i : Nat) (row : List Nat) : Option (Nat × Nat × Nat) :=
  if i < 16 then some (i, 1, 0)
  else if i = 16 ∧ row.length = 0 then none
  else match get V nb k (againBits i) with
    | none => none
    | some x => some (againOf i row, againFrom i + x, againBits i)

set_option maxHeartbeats 2000000 in
set_option maxRecDepth 100000 in
theorem run_any (i : Nat) (row : List Nat) (v : Value) (base : Nat) (w : World) (h : IA w P p s k out most fx) (hG : Gl w t xT xB xS) (hi : i < 19) (hrow : w.ownsRow base 3 1 v row.length (natVals row)) (_hbase : P < base) (hsm : ∀ x ∈ row, x ≤ 15) (hln : row.length ≤ 1000) :
    Calls Tryd.prog 83 #[.pointer (some ⟨P, 0, none⟩), .int .i64 (i : Int), v] w fun e w' =>
      (∃ q : Nat × Nat × Nat, runOf (tv s) (8 * s.size) k i row = some q ∧ q.1 ≤ 15 ∧ 1 ≤ q.2.1 ∧ q.2.1 ≤ 138 ∧ e = .returned (.tuple #[.int .i64 (q.1 : Nat), .int .i64 (q.2.1 : Nat)]) ∧ IA w' P p s (k + q.2.2) out most fx ∧ Gl w' t xT xB xS ∧ But (· = p) w w' ∧ rowT w' P = rowT w P) ∨
      (runOf (tv s) (8 * s.size) k i row = none ∧ e = .panicked (thrown t xT) ∧ Below p w w') := by
  obtain ⟨a0, c0, rfl, hg0⟩ := own_shape hrow
  have HI := hide h
  have HG := hide hG
  have ht := hG.text
  have hpP := h.ltp
  have hPl := h.lt
  have hleast : leastT i ≤ 11 ∧ 1 ≤ leastT i := by unfold leastT; split <;> (try split) <;> (try split) <;> omega
  have hwidth : widthT i ≤ 7 := by unfold widthT; split <;> (try split) <;> (try split) <;> omega
  have HTM := hide (times_any i w)
  have HN := hide (num_any (widthT i) w h hG (by omega))
  have HRO : Hid (∀ L : Nat, (16 ≤ i → L = againOf i row) → (i < 16 → L = i) → ¬ (i = 16 ∧ row.length = 0) → runOf (tv s) (8 * s.size) k i row = match get (tv s) (8 * s.size) k (widthT i) with | none => none | some x => some (L, leastT i + x, widthT i)) := fun L h1 h2 h3 => by
    unfold runOf
    by_cases h16 : i < 16
    · rw [if_pos h16, h2 h16]
      have e1 : widthT i = 0 := by unfold widthT; rw [if_neg (by omega), if_neg (by omega), if_neg (by omega)]
      have e2 : leastT i = 1 := by unfold leastT; rw [if_neg (by omega), if_neg (by omega), if_neg (by omega)]
      have hw0 := h.bits.within
      rw [e1, e2, get_some (by omega)]
      simp [Nat.mod_one]
    · rw [if_neg h16, if_neg h3, ← h1 (by omega)]
      rcases (show i = 16 ∨ i = 17 ∨ i = 18 by omega) with rfl | rfl | rfl <;> rfl
  have HXB : Hid (∀ x, get (tv s) (8 * s.size) k (widthT i) = some x → leastT i + x ≤ 138) := fun x hx => by
    have hxl : x < 2 ^ widthT i := by
      unfold Nf.get at hx; split at hx
      · injection hx with hx; rw [← hx]; exact Nat.mod_lt _ (Nat.two_pow_pos _)
      · cases hx
    rcases (show i < 16 ∨ i = 16 ∨ i = 17 ∨ i = 18 by omega) with h16 | rfl | rfl | rfl
    · have e1 : widthT i = 0 := by unfold widthT; rw [if_neg (by omega), if_neg (by omega), if_neg (by omega)]
      rw [e1] at hxl; simp at hxl; omega
    · have : x < 4 := hxl; have : leastT 16 = 3 := rfl; omega
    · have : x < 8 := hxl; have : leastT 17 = 3 := rfl; omega
    · have : x < 128 := hxl; have : leastT 18 = 11 := rfl; omega
  obtain ⟨lt, hlt⟩ : ∃ q, q = leastT i := ⟨_, rfl⟩
  obtain ⟨wt, hwt⟩ : ∃ q, q = widthT i := ⟨_, rfl⟩
  rw [← hlt] at hleast HTM HRO HXB
  rw [← hwt] at hwidth HTM HN HRO HXB
  clear hlt hwt h hG
  have HEND : Hid (∀ L : Nat, L ≤ 15 → runOf (tv s) (8 * s.size) k i row = (match get (tv s) (8 * s.size) k wt with | none => none | some x => some (L, lt + x, wt)) → ∀ x, get (tv s) (8 * s.size) k wt = some x → ∃ q : Nat × Nat × Nat, runOf (tv s) (8 * s.size) k i row = some q ∧ q.1 ≤ 15 ∧ 1 ≤ q.2.1 ∧ q.2.1 ≤ 138 ∧ q = (L, lt + x, wt)) := fun L hL he x hx => ⟨(L, lt + x, wt), by rw [he, hx], hL, by show 1 ≤ lt + x; omega, unhide HXB x hx, rfl⟩
  by_cases h16 : i < 16
  · have g1 : ((i : Int) == 16) = false := by simp; omega
    have g2 : ((i : Int) == 17) = false := by simp; omega
    have g3 : ((i : Int) == 18) = false := by simp; omega
    have HE := hide (unhide HEND i (by omega) (unhide HRO i (by omega) (fun _ => rfl) (by omega)))
    have HE2 := hide (unhide HRO i (by omega) (fun _ => rfl) (by omega))
    clear h16 hg0
    go_enter Tryd.func83, Tryd.ntmps83
    go_wp2_with fail
    refine (unhide HTM).mono ?_; rintro e w1 ⟨rfl, hw1⟩
    replace hw1 := hw1.symm
    subst hw1
    go_wp2_with fail
    refine (unhide HN).mono ?_
    rintro e w2 (⟨x, hx, hxl, rfl, hI1, hG1, hb1, hr1⟩ | ⟨hx, rfl, hb1⟩)
    · obtain ⟨q, hq1, hq2, hq3, hq4, rfl⟩ := unhide HE x hx
      have HQ := hide hq1
      have HI1 := hide hI1
      have HG1 := hide hG1
      have HQ4 := hide hq4; have HQ2 := hide hq2
      obtain ⟨y, hy⟩ : ∃ y, y = lt + x := ⟨_, rfl⟩
      have zy : (lt : Int) + (x : Int) = (y : Int) := by omega
      have hyl : y ≤ 138 := by rw [hy]; exact hq4
      have HY := hide hy
      clear hq1 hq2 hq3 hq4 hx hI1 hG1 HN HTM HE HE2 HEND HRO HXB hy
      go_wp2
      go_ret2
      exact .inl ⟨(i, lt + x, wt), unhide HQ, unhide HQ2, by show 1 ≤ lt + x; omega, unhide HQ4, by rw [← unhide HY]; rfl, unhide HI1, unhide HG1, hb1, hr1⟩
    · have HX : Hid (runOf (tv s) (8 * s.size) k i row = none) := by show _ = _; rw [unhide HE2, hx]
      clear hx HN HTM HE HE2 HEND HRO HXB
      go_wp2
      exact ⟨rfl, .inr ⟨unhide HX, rfl, hb1⟩⟩
  by_cases e17 : i = 17 ∨ i = 18
  · have g1 : ((i : Int) == 16) = false := by simp; omega
    have hz : againOf i row = 0 := by rcases e17 with rfl | rfl <;> rfl
    have HE := hide (unhide HEND 0 (by omega) (unhide HRO 0 (fun _ => hz.symm) (by omega) (by omega)))
    have HE2 := hide (unhide HRO 0 (fun _ => hz.symm) (by omega) (by omega))
    clear hg0 hz
    rcases e17 with rfl | rfl
    · go_enter Tryd.func83, Tryd.ntmps83
      go_wp2_with fail
      refine (unhide HTM).mono ?_; rintro e w1 ⟨rfl, hw1⟩
      replace hw1 := hw1.symm
      subst hw1
      go_wp2_with fail
      refine (unhide HN).mono ?_
      rintro e w2 (⟨x, hx, hxl, rfl, hI1, hG1, hb1, hr1⟩ | ⟨hx, rfl, hb1⟩)
      · obtain ⟨q, hq1, hq2, hq3, hq4, rfl⟩ := unhide HE x hx
        have HQ := hide hq1
        have HI1 := hide hI1
        have HG1 := hide hG1
        have HQ4 := hide hq4; have HQ2 := hide hq2
        obtain ⟨y, hy⟩ : ∃ y, y = lt + x := ⟨_, rfl⟩
        have zy : (lt : Int) + (x : Int) = (y : Int) := by omega
        have hyl : y ≤ 138 := by rw [hy]; exact hq4
        have HY := hide hy
        clear hq1 hq2 hq3 hq4 hx hI1 hG1 HN HTM HE HE2 HEND HRO HXB hy
        go_wp2
        go_ret2
        exact .inl ⟨(0, lt + x, wt), unhide HQ, unhide HQ2, by show 1 ≤ lt + x; omega, unhide HQ4, by rw [← unhide HY]; rfl, unhide HI1, unhide HG1, hb1, hr1⟩
      · have HX : Hid (runOf (tv s) (8 * s.size) k 17 row = none) := by show _ = _; rw [unhide HE2, hx]
        clear hx HN HTM HE HE2 HEND HRO HXB
        go_wp2
        exact ⟨rfl, .inr ⟨unhide HX, rfl, hb1⟩⟩
    · go_enter Tryd.func83, Tryd.ntmps83
      go_wp2_with fail
      refine (unhide HTM).mono ?_; rintro e w1 ⟨rfl, hw1⟩
      replace hw1 := hw1.symm
      subst hw1
      go_wp2_with fail
      refine (unhide HN).mono ?_
      rintro e w2 (⟨x, hx, hxl, rfl, hI1, hG1, hb1, hr1⟩ | ⟨hx, rfl, hb1⟩)
      · obtain ⟨q, hq1, hq2, hq3, hq4, rfl⟩ := unhide HE x hx
        have HQ := hide hq1
        have HI1 := hide hI1
        have HG1 := hide hG1
        have HQ4 := hide hq4; have HQ2 := hide hq2
        obtain ⟨y, hy⟩ : ∃ y, y = lt + x := ⟨_, rfl⟩
        have zy : (lt : Int) + (x : Int) = (y : Int) := by omega
        have hyl : y ≤ 138 := by rw [hy]; exact hq4
        have HY := hide hy
        clear hq1 hq2 hq3 hq4 hx hI1 hG1 HN HTM HE HE2 HEND HRO HXB hy
        go_wp2
        go_ret2
        exact .inl ⟨(0, lt + x, wt), unhide HQ, unhide HQ2, by show 1 ≤ lt + x; omega, unhide HQ4, by rw [← unhide HY]; rfl, unhide HI1, unhide HG1, hb1, hr1⟩
      · have HX : Hid (runOf (tv s) (8 * s.size) k 18 row = none) := by show _ = _; rw [unhide HE2, hx]
        clear hx HN HTM HE HE2 HEND HRO HXB
        go_wp2
        exact ⟨rfl, .inr ⟨unhide HX, rfl, hb1⟩⟩
  have e16 : i = 16 := by omega
  subst e16
  by_cases hr0 : row.length = 0
  · have HR : Hid (runOf (tv s) (8 * s.size) k 16 row = none) := by show _ = _; unfold runOf; rw [if_neg (by omega), if_pos ⟨rfl, hr0⟩]
    clear hg0
    rw [hr0] at hrow ⊢
    go_enter Tryd.func83, Tryd.ntmps83
    go_wp2_with fail
    refine (throw_any t xT _).mono ?_; rintro e w2 ⟨rfl, rfl⟩
    go_wp2
    exact ⟨rfl, .inr ⟨unhide HR, rfl, Below.refl _ _⟩⟩
  · have g1 : ((row.length : Int) == 0) = false := by clear hg0; simp only [beq_eq_false_iff_ne, ne_eq]; omega
    obtain ⟨g, rfl, hgb⟩ := hg0 (by clear hg0; omega)
    obtain ⟨ix, hix⟩ : ∃ q, q = row.length - 1 := ⟨_, rfl⟩
    have zix : (row.length : Int) - 1 = (ix : Int) := by omega
    have hixl : ix < row.length := by omega
    have hixi : (ix : Int) < (row.length : Int) := by omega
    obtain ⟨b, hbb⟩ : ∃ b, b = row[ix] := ⟨_, rfl⟩
    have cb : w.cell? ⟨g, ix, none⟩ = some (.int .i64 (b : Nat)) := by rw [own_cell hrow ix hixl, hbb]
    have hb15 : b ≤ 15 := by rw [hbb]; exact hsm _ (List.getElem_mem hixl)
    have e : againOf 16 row = b := by
      show row.getD (row.length - 1) 0 = b
      rw [← hix, hbb]
      simp [List.getElem?_eq_getElem hixl]
    have HE := hide (unhide HEND b hb15 (unhide HRO b (fun _ => e.symm) (by omega) (by omega)))
    have HE2 := hide (unhide HRO b (fun _ => e.symm) (by omega) (by omega))
    clear hrow hix hbb e hr0
    go_enter Tryd.func83, Tryd.ntmps83
    go_wp2_with fail
    refine (unhide HTM).mono ?_; rintro e w1 ⟨rfl, hw1⟩
    replace hw1 := hw1.symm
    subst hw1
    go_wp2_with fail
    refine (unhide HN).mono ?_
    rintro e w2 (⟨x, hx, hxl, rfl, hI1, hG1, hb1, hr1⟩ | ⟨hx, rfl, hb1⟩)
    · obtain ⟨q, hq1, hq2, hq3, hq4, rfl⟩ := unhide HE x hx
      have HQ := hide hq1
      have HI1 := hide hI1
      have HG1 := hide hG1
      have HQ4 := hide hq4; have HQ2 := hide hq2
      obtain ⟨y, hy⟩ : ∃ y, y = lt + x := ⟨_, rfl⟩
      have zy : (lt : Int) + (x : Int) = (y : Int) := by omega
      have hyl : y ≤ 138 := by rw [hy]; exact hq4
      have HY := hide hy
      clear hq1 hq2 hq3 hq4 hx hI1 hG1 HN HTM HE HE2 HEND HRO HXB hy
      go_wp2
      go_ret2
      exact .inl ⟨(b, lt + x, wt), unhide HQ, unhide HQ2, by show 1 ≤ lt + x; omega, unhide HQ4, by rw [← unhide HY]; rfl, unhide HI1, unhide HG1, hb1, hr1⟩
    · have HX : Hid (runOf (tv s) (8 * s.size) k 16 row = none) := by show _ = _; rw [unhide HE2, hx]
      clear hx HN HTM HE HE2 HEND HRO HXB
      go_wp2
      exact ⟨rfl, .inr ⟨unhide HX, rfl, hb1⟩⟩
end
end Go.Proofs.YtbbcfghlhgaofadDoor
