/- Walks of the program's reader of packed texts: the fixed codes. Walks of the program's reader of packed texts: lengths of a dynamic block, one run. -/
import Derived.Test.YtfeljhikeddodaeGreatDoorIn5
namespace Go.Proofs.YtfeljhikeddodaeGreatDoor
open Go.RowKit Pm Cn Cd Nf

theorem IA.setFixed {w : World} {P p k most : Nat} {s : ByteArray} {out : List UInt8} {fx : Value} (h : IA w P p s k out most fx) (v : Value) : IA (w.setCell ⟨P, 3, none⟩ v) P p s k out most v ∧ KI P p w (w.setCell ⟨P, 3, none⟩ v) := by
  have hp := h.ltp
  have hne : ∀ o, o ≠ 3 → (w.setCell ⟨P, 3, none⟩ v).cell? ⟨P, o, none⟩ = w.cell? ⟨P, o, none⟩ := fun o ho => World.cell?_setCell_other _ _ _ _ (by intro q; injection q with _ q; omega)
  obtain ⟨v1, c1, ho⟩ := h.text
  have hbp : (w.setCell ⟨P, 3, none⟩ v).heap[p]? = w.heap[p]? := Below.heap_setCell _ _ _ _ (by show p ≠ P; omega)
  refine ⟨⟨(hne 0 (by omega)).trans h.rd, ⟨v1, (hne 1 (by omega)).trans c1, ownsRow_setCell_below ho (by show P < P + 1; omega) _⟩, (hne 2 (by omega)).trans h.mst, World.cell?_setCell_same _ _ _ h.fixed, ?_, ?_, ?_, hp, h.small, h.low, h.glob⟩, ⟨(But.refl _ _).setCell (p := ⟨P, 3, none⟩) (.inr (.inl rfl)) _, .inl (rowT_same (hne 1 (by omega)))⟩⟩
  · rw [World.frozen?_setCell]; exact h.free1
  · rw [World.frozen?_setCell]; exact h.free3
  · exact ⟨(World.cell?_of_block hbp).trans h.bits.text, (World.cell?_of_block hbp).trans h.bits.count, (World.frozen?_of_block hbp).trans h.bits.free1, h.bits.within, h.bits.small⟩
section
variable {P p : Nat} {s : ByteArray} {k : Nat} {out : List UInt8} {most : Nat} {fx : Value} {t : TypeId} {xT xB xS : Value}

set_option maxHeartbeats 4000000 in
set_option maxRecDepth 100000 in
theorem fixedCodes_new (w : World) (h : IA w P p s k out most (.pointer none)) (hG : Gl w t xT xB xS) :
    Calls Tryz.prog 51 #[.pointer (some ⟨P, 0, none⟩)] w fun e w' =>
      ∃ C, e = .returned (.pointer (some ⟨C, 0, none⟩)) ∧ IA w' P p s k out most (.pointer (some ⟨C, 0, none⟩)) ∧ CsAt w' P p C fixL 288 fixD 32 ∧ KI P p w w' := by
  have c3 := h.fixed
  have HI := hide h
  have HG := hide hG
  have hgl := h.glob
  have hpP := h.ltp
  have hlt := h.lt
  have hrow := h.row
  clear h hG
  go_enter Tryz.func51, Tryz.ntmps51
  go_wp2_with fail
  refine (fixedSymbols_any w).mono ?_
  rintro e w1 ⟨g1, rfl, hA1, hg1, hb1⟩
  have hs1 := hb1.size
  have hG1 := (unhide HG).below hb1 (by omega)
  have HT1 := hide (tree_any (some ⟨g1, 0, none⟩) 288 288 (zl fixL) w1 (hA1.ints (by omega) (fun i _ => (fixL_le i).1)) (by omega) (fun i _ => by have := (fixL_le i).1; unfold zl; omega) hG1)
  clear hA1
  go_wp2_with fail
  refine (unhide HT1).mono ?_
  rintro e w2 (⟨_, T1, G1, sy1, rfl, hT1, lT1, lG1, hp1, ho1, hb2⟩ | ⟨hr, _⟩)
  rotate_left
  · exact absurd (.inr (.inr (by rw [nat_zl]; exact all_fixL))) hr
  have hs2 := hb2.size
  have hb2w : Below w.heap.size w w2 := hb1.trans (hb2.mono hs1)
  have HTR1 := hide hT1
  clear HT1 hT1
  go_wp2_with fail
  refine (fixedDistances_any w2).mono ?_
  rintro e w3 ⟨g3, rfl, hA3, hg3, hb3⟩
  have hs3 := hb3.size
  have hb3w : Below w.heap.size w w3 := hb2w.trans (hb3.mono (by omega))
  have hG3 := (unhide HG).below hb3w (by omega)
  have HT2 := hide (tree_any (some ⟨g3, 0, none⟩) 32 32 (zl fixD) w3 (hA3.ints (by omega) (fun i _ => by unfold fixD; omega)) (by omega) (fun i _ => by unfold zl fixD; omega) hG3)
  clear hA3
  go_wp2_with fail
  refine (unhide HT2).mono ?_
  rintro e w6 (⟨_, T2, G2, sy2, rfl, hT2, lT2, lG2, hp2, ho2, hb6⟩ | ⟨hr, _⟩)
  rotate_left
  · exact absurd (.inr (.inr (by rw [nat_zl]; decide +kernel))) hr
  have hs6 := hb6.size
  have hb6w : Below w.heap.size w w6 := hb3w.trans (hb6.mono (by omega))
  have ba : Below w6.heap.size w6 (w6.alloc (.cells #[.pointer (some ⟨T1, 0, none⟩), .pointer (some ⟨T2, 0, none⟩)] 128)) := (Below.refl _ _).alloc (Nat.le_refl _) _
  have hb7w := hb6w.trans (ba.mono (by omega))
  obtain ⟨hI7, hr7⟩ := (unhide HI).still hb7w
  have hset := hI7.setFixed (.pointer (some ⟨w6.heap.size, 0, none⟩))
  have hT1' := (unhide HTR1).but (S := fun _ => False) ((But.refl _ _).of_below ((hb3.trans (hb6.mono hs3)).trans (ba.mono (by omega))) (fun k h1 h2 => by omega)) (fun q => q) (fun q => q)
  have hT2' := hT2.but (S := fun _ => False) ((But.refl _ _).of_below ba (fun k h1 h2 => by omega)) (fun q => q) (fun q => q)
  have lx1 := (unhide HTR1).ltT
  have lx2 := (unhide HTR1).ltG
  have lx3 := hT2.ltT
  have lx4 := hT2.ltG
  rw [nat_zl] at hT1' hT2'
  have HCS : Hid (CsAt (w6.alloc (.cells #[.pointer (some ⟨T1, 0, none⟩), .pointer (some ⟨T2, 0, none⟩)] 128)) P p w6.heap.size fixL 288 fixD 32) :=
    ⟨⟨T1, G1, T2, G2, by simp, by simp, ⟨⟨sy1, hT1', hp1, ho1⟩, fun i _ => (fixL_le i).1, by omega, by rw [hr7]; omega, by rw [hr7]; omega⟩, ⟨⟨sy2, hT2', hp2, ho2⟩, fun i _ => by unfold fixD; omega, by omega, by rw [hr7]; omega, by rw [hr7]; omega⟩⟩, by rw [hr7]; omega⟩
  have hk7 : KI P p w (w6.alloc (.cells #[.pointer (some ⟨T1, 0, none⟩), .pointer (some ⟨T2, 0, none⟩)] 128)) := KI.of_but ((But.refl _ _).of_below hb7w (fun k h1 h2 => by omega)) hr7
  have hf7 := hI7.fixed
  have hfr7 := hI7.free3
  have HSET := hide hset
  have hcf := hset.1.fixed
  clear hset hT1' hT2' hT2 hI7 HTR1 HT2
  go_wp2
  go_ret
  exact ⟨w6.heap.size, rfl, (unhide HSET).1, (unhide HCS).ki (unhide HSET).2, hk7.trans (unhide HSET).2⟩
theorem fixedCodes_old (C : Nat) (w : World) (h : IA w P p s k out most (.pointer (some ⟨C, 0, none⟩))) :
    Calls Tryz.prog 51 #[.pointer (some ⟨P, 0, none⟩)] w fun e w' => e = .returned (.pointer (some ⟨C, 0, none⟩)) ∧ w' = w := by
  have c3 := h.fixed
  clear h
  go_enter Tryz.func51, Tryz.ntmps51
  go_wp2
  go_ret
  exact ⟨rfl, rfl⟩
end
end Go.Proofs.YtfeljhikeddodaeGreatDoor
namespace Go.Proofs.YtfeljhikeddodaeGreatDoor
open Go.RowKit Pm Cn Cd Nf

section
variable {P p : Nat} {s : ByteArray} {k : Nat} {out : List UInt8} {most : Nat} {fx : Value} {t : TypeId} {xT xB xS : Value}

theorem num_any (d : Nat) (w : World) (h : IA w P p s k out most fx) (hG : Gl w t xT xB xS) (hd : d ≤ 16) :
    Calls Tryz.prog 48 #[.pointer (some ⟨P, 0, none⟩), .int .i64 (d : Int)] w fun e w' =>
      (∃ x, get (tv s) (8 * s.size) k d = some x ∧ x < 65536 ∧ e = .returned (.int .i64 (x : Nat)) ∧ IA w' P p s (k + d) out most fx ∧ Gl w' t xT xB xS ∧ But (· = p) w w' ∧ rowT w' P = rowT w P) ∨
      (get (tv s) (8 * s.size) k d = none ∧ e = .panicked (thrown t xT) ∧ Below p w w') := by
  have hlt := h.lt
  have hpP := h.ltp
  refine (number_any d w h hG (by omega)).mono ?_
  rintro e w' (⟨hf, rfl, hI, hb, hr⟩ | ⟨hf, rfl, hb⟩)
  · exact .inl ⟨_, get_some hf, Nat.lt_of_lt_of_le (Nat.mod_lt _ (Nat.two_pow_pos _)) (Nat.pow_le_pow_right (n := 2) (j := 16) (by omega) hd), rfl, hI, hG.bits hb h, hb, hr⟩
  · exact .inr ⟨get_none hf, rfl, hb.below (by omega) (fun i hi q => by omega)⟩
/-- What a symbol of the code of lengths means behind a row: which length, how often, and how many bits; or nothing. -/
def runOf (V nb k i : Nat) (row : List Nat) : Option (Nat × Nat × Nat) :=
  if i < 16 then some (i, 1, 0)
  else if i = 16 ∧ row.length = 0 then none
  else match get V nb k (againBits i) with
    | none => none
    | some x => some (againOf i row, againFrom i + x, againBits i)
set_option maxHeartbeats 2000000 in
set_option maxRecDepth 100000 in
theorem run_any (i : Nat) (row : List Nat) (v : Value) (base : Nat) (w : World) (h : IA w P p s k out most fx) (hG : Gl w t xT xB xS) (hi : i < 19) (hrow : w.ownsRow base 3 1 v row.length (natVals row)) (_hbase : P < base) (hsm : ∀ x ∈ row, x ≤ 15) (hln : row.length ≤ 1000) :
    Calls Tryz.prog 99 #[.pointer (some ⟨P, 0, none⟩), .int .i64 (i : Int), v] w fun e w' =>
      (∃ q : Nat × Nat × Nat, runOf (tv s) (8 * s.size) k i row = some q ∧ q.1 ≤ 15 ∧ 1 ≤ q.2.1 ∧ q.2.1 ≤ 138 ∧ e = .returned (.tuple #[.int .i64 (q.1 : Nat), .int .i64 (q.2.1 : Nat)]) ∧ IA w' P p s (k + q.2.2) out most fx ∧ Gl w' t xT xB xS ∧ But (· = p) w w' ∧ rowT w' P = rowT w P) ∨
      (runOf (tv s) (8 * s.size) k i row = none ∧ e = .panicked (thrown t xT) ∧ Below p w w') := by
  obtain ⟨a0, c0, rfl, hg0⟩ := own_shape hrow
  have HI := hide h
  have HG := hide hG
  have ht := hG.text
  have hpP := h.ltp
  have hPl := h.lt
  have hleast : leastT i ≤ 11 ∧ 1 ≤ leastT i := by unfold leastT; split <;> (try split) <;> (try split) <;> omega
  have hwidth : widthT i ≤ 7 := by unfold widthT; split <;> (try split) <;> (try split) <;> omega
  have HTM := hide (times_any i w)
  have HN := hide (num_any (widthT i) w h hG (by omega))
  have HRO : Hid (∀ L : Nat, (16 ≤ i → L = againOf i row) → (i < 16 → L = i) → ¬ (i = 16 ∧ row.length = 0) → runOf (tv s) (8 * s.size) k i row = match get (tv s) (8 * s.size) k (widthT i) with | none => none | some x => some (L, leastT i + x, widthT i)) := fun L h1 h2 h3 => by
    unfold runOf
    by_cases h16 : i < 16
    · rw [if_pos h16, h2 h16]
      have e1 : widthT i = 0 := by unfold widthT; rw [if_neg (by omega), if_neg (by omega), if_neg (by omega)]
      have e2 : leastT i = 1 := by unfold leastT; rw [if_neg (by omega), if_neg (by omega), if_neg (by omega)]
      have hw0 := h.bits.within
      rw [e1, e2, get_some (by omega)]
      simp [Nat.mod_one]
    · rw [if_neg h16, if_neg h3, ← h1 (by omega)]
      rcases (show i = 16 ∨ i = 17 ∨ i = 18 by omega) with rfl | rfl | rfl <;> rfl
  have HXB : Hid (∀ x, get (tv s) (8 * s.size) k (widthT i) = some x → leastT i + x ≤ 138) := fun x hx => by
    have hxl : x < 2 ^ widthT i := by
      unfold Nf.get at hx; split at hx
      · injection hx with hx; rw [← hx]; exact Nat.mod_lt _ (Nat.two_pow_pos _)
      · cases hx
    rcases (show i < 16 ∨ i = 16 ∨ i = 17 ∨ i = 18 by omega) with h16 | rfl | rfl | rfl
    · have e1 : widthT i = 0 := by unfold widthT; rw [if_neg (by omega), if_neg (by omega), if_neg (by omega)]
      rw [e1] at hxl; simp at hxl; omega
    · have : x < 4 := hxl; have : leastT 16 = 3 := rfl; omega
    · have : x < 8 := hxl; have : leastT 17 = 3 := rfl; omega
    · have : x < 128 := hxl; have : leastT 18 = 11 := rfl; omega
  obtain ⟨lt, hlt⟩ : ∃ q, q = leastT i := ⟨_, rfl⟩
  obtain ⟨wt, hwt⟩ : ∃ q, q = widthT i := ⟨_, rfl⟩
  rw [← hlt] at hleast HTM HRO HXB
  rw [← hwt] at hwidth HTM HN HRO HXB
  clear hlt hwt h hG
  have HEND : Hid (∀ L : Nat, L ≤ 15 → runOf (tv s) (8 * s.size) k i row = (match get (tv s) (8 * s.size) k wt with | none => none | some x => some (L, lt + x, wt)) → ∀ x, get (tv s) (8 * s.size) k wt = some x → ∃ q : Nat × Nat × Nat, runOf (tv s) (8 * s.size) k i row = some q ∧ q.1 ≤ 15 ∧ 1 ≤ q.2.1 ∧ q.2.1 ≤ 138 ∧ q = (L, lt + x, wt)) := fun L hL he x hx => ⟨(L, lt + x, wt), by rw [he, hx], hL, by show 1 ≤ lt + x; omega, unhide HXB x hx, rfl⟩
  by_cases h16 : i < 16
  · have g1 : ((i : Int) == 16) = false := by simp; omega
    have g2 : ((i : Int) == 17) = false := by simp; omega
    have g3 : ((i : Int) == 18) = false := by simp; omega
    have HE := hide (unhide HEND i (by omega) (unhide HRO i (by omega) (fun _ => rfl) (by omega)))
    have HE2 := hide (unhide HRO i (by omega) (fun _ => rfl) (by omega))
    clear h16 hg0
    go_enter Tryz.func99, Tryz.ntmps99
    go_wp2_with fail
    refine (unhide HTM).mono ?_; rintro e w1 ⟨rfl, hw1⟩
    replace hw1 := hw1.symm
    subst hw1
    go_wp2_with fail
    refine (unhide HN).mono ?_
    rintro e w2 (⟨x, hx, hxl, rfl, hI1, hG1, hb1, hr1⟩ | ⟨hx, rfl, hb1⟩)
    · obtain ⟨q, hq1, hq2, hq3, hq4, rfl⟩ := unhide HE x hx
      have HQ := hide hq1
      have HI1 := hide hI1
      have HG1 := hide hG1
      have HQ4 := hide hq4; have HQ2 := hide hq2
      obtain ⟨y, hy⟩ : ∃ y, y = lt + x := ⟨_, rfl⟩
      have zy : (lt : Int) + (x : Int) = (y : Int) := by omega
      have hyl : y ≤ 138 := by rw [hy]; exact hq4
      have HY := hide hy
      clear hq1 hq2 hq3 hq4 hx hI1 hG1 HN HTM HE HE2 HEND HRO HXB hy
      go_wp2
      go_ret2
      exact .inl ⟨(i, lt + x, wt), unhide HQ, unhide HQ2, by show 1 ≤ lt + x; omega, unhide HQ4, by rw [← unhide HY]; rfl, unhide HI1, unhide HG1, hb1, hr1⟩
    · have HX : Hid (runOf (tv s) (8 * s.size) k i row = none) := by show _ = _; rw [unhide HE2, hx]
      clear hx HN HTM HE HE2 HEND HRO HXB
      go_wp2
      exact ⟨rfl, .inr ⟨unhide HX, rfl, hb1⟩⟩
  by_cases e17 : i = 17 ∨ i = 18
  · have g1 : ((i : Int) == 16) = false := by simp; omega
    have hz : againOf i row = 0 := by rcases e17 with rfl | rfl <;> rfl
    have HE := hide (unhide HEND 0 (by omega) (unhide HRO 0 (fun _ => hz.symm) (by omega) (by omega)))
    have HE2 := hide (unhide HRO 0 (fun _ => hz.symm) (by omega) (by omega))
    clear hg0 hz
    rcases e17 with rfl | rfl
    · go_enter Tryz.func99, Tryz.ntmps99
      go_wp2_with fail
      refine (unhide HTM).mono ?_; rintro e w1 ⟨rfl, hw1⟩
      replace hw1 := hw1.symm
      subst hw1
      go_wp2_with fail
      refine (unhide HN).mono ?_
      rintro e w2 (⟨x, hx, hxl, rfl, hI1, hG1, hb1, hr1⟩ | ⟨hx, rfl, hb1⟩)
      · obtain ⟨q, hq1, hq2, hq3, hq4, rfl⟩ := unhide HE x hx
        have HQ := hide hq1
        have HI1 := hide hI1
        have HG1 := hide hG1
        have HQ4 := hide hq4; have HQ2 := hide hq2
        obtain ⟨y, hy⟩ : ∃ y, y = lt + x := ⟨_, rfl⟩
        have zy : (lt : Int) + (x : Int) = (y : Int) := by omega
        have hyl : y ≤ 138 := by rw [hy]; exact hq4
        have HY := hide hy
        clear hq1 hq2 hq3 hq4 hx hI1 hG1 HN HTM HE HE2 HEND HRO HXB hy
        go_wp2
        go_ret2
        exact .inl ⟨(0, lt + x, wt), unhide HQ, unhide HQ2, by show 1 ≤ lt + x; omega, unhide HQ4, by rw [← unhide HY]; rfl, unhide HI1, unhide HG1, hb1, hr1⟩
      · have HX : Hid (runOf (tv s) (8 * s.size) k 17 row = none) := by show _ = _; rw [unhide HE2, hx]
        clear hx HN HTM HE HE2 HEND HRO HXB
        go_wp2
        exact ⟨rfl, .inr ⟨unhide HX, rfl, hb1⟩⟩
    · go_enter Tryz.func99, Tryz.ntmps99
      go_wp2_with fail
      refine (unhide HTM).mono ?_; rintro e w1 ⟨rfl, hw1⟩
      replace hw1 := hw1.symm
      subst hw1
      go_wp2_with fail
      refine (unhide HN).mono ?_
      rintro e w2 (⟨x, hx, hxl, rfl, hI1, hG1, hb1, hr1⟩ | ⟨hx, rfl, hb1⟩)
      · obtain ⟨q, hq1, hq2, hq3, hq4, rfl⟩ := unhide HE x hx
        have HQ := hide hq1
        have HI1 := hide hI1
        have HG1 := hide hG1
        have HQ4 := hide hq4; have HQ2 := hide hq2
        obtain ⟨y, hy⟩ : ∃ y, y = lt + x := ⟨_, rfl⟩
        have zy : (lt : Int) + (x : Int) = (y : Int) := by omega
        have hyl : y ≤ 138 := by rw [hy]; exact hq4
        have HY := hide hy
        clear hq1 hq2 hq3 hq4 hx hI1 hG1 HN HTM HE HE2 HEND HRO HXB hy
        go_wp2
        go_ret2
        exact .inl ⟨(0, lt + x, wt), unhide HQ, unhide HQ2, by show 1 ≤ lt + x; omega, unhide HQ4, by rw [← unhide HY]; rfl, unhide HI1, unhide HG1, hb1, hr1⟩
      · have HX : Hid (runOf (tv s) (8 * s.size) k 18 row = none) := by show _ = _; rw [unhide HE2, hx]
        clear hx HN HTM HE HE2 HEND HRO HXB
        go_wp2
        exact ⟨rfl, .inr ⟨unhide HX, rfl, hb1⟩⟩
  have e16 : i = 16 := by omega
  subst e16
  by_cases hr0 : row.length = 0
  · have HR : Hid (runOf (tv s) (8 * s.size) k 16 row = none) := by show _ = _; unfold runOf; rw [if_neg (by omega), if_pos ⟨rfl, hr0⟩]
    clear hg0
    rw [hr0] at hrow ⊢
    go_enter Tryz.func99, Tryz.ntmps99
    go_wp2_with fail
    refine (throw_any t xT _).mono ?_; rintro e w2 ⟨rfl, rfl⟩
    go_wp2
    exact ⟨rfl, .inr ⟨unhide HR, rfl, Below.refl _ _⟩⟩
  · have g1 : ((row.length : Int) == 0) = false := by clear hg0; simp only [beq_eq_false_iff_ne, ne_eq]; omega
    obtain ⟨g, rfl, hgb⟩ := hg0 (by clear hg0; omega)
    obtain ⟨ix, hix⟩ : ∃ q, q = row.length - 1 := ⟨_, rfl⟩
    have zix : (row.length : Int) - 1 = (ix : Int) := by omega
    have hixl : ix < row.length := by omega
    have hixi : (ix : Int) < (row.length : Int) := by omega
    obtain ⟨b, hbb⟩ : ∃ b, b = row[ix] := ⟨_, rfl⟩
    have cb : w.cell? ⟨g, ix, none⟩ = some (.int .i64 (b : Nat)) := by rw [own_cell hrow ix hixl, hbb]
    have hb15 : b ≤ 15 := by rw [hbb]; exact hsm _ (List.getElem_mem hixl)
    have e : againOf 16 row = b := by
      show row.getD (row.length - 1) 0 = b
      rw [← hix, hbb]
      simp [List.getElem?_eq_getElem hixl]
    have HE := hide (unhide HEND b hb15 (unhide HRO b (fun _ => e.symm) (by omega) (by omega)))
    have HE2 := hide (unhide HRO b (fun _ => e.symm) (by omega) (by omega))
    clear hrow hix hbb e hr0
    go_enter Tryz.func99, Tryz.ntmps99
    go_wp2_with fail
    refine (unhide HTM).mono ?_; rintro e w1 ⟨rfl, hw1⟩
    replace hw1 := hw1.symm
    subst hw1
    go_wp2_with fail
    refine (unhide HN).mono ?_
    rintro e w2 (⟨x, hx, hxl, rfl, hI1, hG1, hb1, hr1⟩ | ⟨hx, rfl, hb1⟩)
    · obtain ⟨q, hq1, hq2, hq3, hq4, rfl⟩ := unhide HE x hx
      have HQ := hide hq1
      have HI1 := hide hI1
      have HG1 := hide hG1
      have HQ4 := hide hq4; have HQ2 := hide hq2
      obtain ⟨y, hy⟩ : ∃ y, y = lt + x := ⟨_, rfl⟩
      have zy : (lt : Int) + (x : Int) = (y : Int) := by omega
      have hyl : y ≤ 138 := by rw [hy]; exact hq4
      have HY := hide hy
      clear hq1 hq2 hq3 hq4 hx hI1 hG1 HN HTM HE HE2 HEND HRO HXB hy
      go_wp2
      go_ret2
      exact .inl ⟨(b, lt + x, wt), unhide HQ, unhide HQ2, by show 1 ≤ lt + x; omega, unhide HQ4, by rw [← unhide HY]; rfl, unhide HI1, unhide HG1, hb1, hr1⟩
    · have HX : Hid (runOf (tv s) (8 * s.size) k 16 row = none) := by show _ = _; rw [unhide HE2, hx]
      clear hx HN HTM HE HE2 HEND HRO HXB
      go_wp2
      exact ⟨rfl, .inr ⟨unhide HX, rfl, hb1⟩⟩
end
end Go.Proofs.YtfeljhikeddodaeGreatDoor
