/- Walks: again, stepsOfRun, steps. -/
import Derived.Test.YtfeljhikeddodadGreatDoorMh5
namespace Go.Proofs.YtfeljhikeddodadGreatDoor
open Go.RowKit Ps Nf

/-- The symbols that may tell a length again, and what must stand ahead. -/
def Sy (ns L j : Nat) (z : Nat → Nat) : Prop := (ns = 2 ∧ L = 0 ∧ z 0 = 18 ∧ z 1 = 17) ∨ (ns = 1 ∧ 1 ≤ L ∧ L ≤ 15 ∧ 1 ≤ j ∧ z 0 = 16)
set_option maxHeartbeats 4000000 in
set_option maxRecDepth 100000 in
theorem dagain_any (B : Nat) (v : Value) (ss0 : List Sp) (L j0 T bs os ns cs : Nat) (z : Nat → Nat) (w : World) (hown : w.ownsRow B 176 2 v ss0.length (stV ss0)) (hB : B ≤ w.heap.size)
    (hsym : ∀ i, i < ns → w.cell? ⟨bs, os + i, none⟩ = some (.int .i64 (z i : Int))) (hbs : v.ownBlock ≠ some bs) (hs : Sy ns L j0 z) (hT : j0 + T ≤ 1000) (hd : Tells ss0 L j0) :
    Calls Tryz.prog 165 #[v, .int .i64 (L : Int), .int .i64 (T : Int), .slice (some ⟨bs, os, none⟩) ns cs] w fun e w' => ∃ a c ss, e = .returned (.slice a ss.length c) ∧ w'.ownsRow B 176 2 (.slice a ss.length c) ss.length (stV ss) ∧ Tells ss L (j0 + T) ∧ Below B w w' := by
  have hns : 0 < ns := by rcases hs with ⟨h, _⟩ | ⟨h, _⟩ <;> omega
  have hns2 : ns ≤ 2 := by rcases hs with ⟨h, _⟩ | ⟨h, _⟩ <;> omega
  have hL : L ≤ 15 := by rcases hs with ⟨_, h, _⟩ | ⟨_, _, h, _⟩ <;> omega
  have hbsl : bs < w.heap.size := World.block_lt_of_cell? _ _ (hsym 0 hns)
  have HO0 := hide hown
  have HD0 := hide hd
  have HSY := hide hsym
  have HSS := hide hs
  have hbe : ∀ k, v.ownBlock = some k → k ≠ bs := fun k e q => hbs (by rw [e, q])
  have HBE := hide hbe
  obtain ⟨a0, c0, rfl⟩ := own_sliceS hown
  clear hown hd hsym hs hbs hbe
  go_enter Tryz.func165, Tryz.ntmps165
  go_wp2
  go_loopw [0, 2] (fun lv tv wr => ∃ (ss : List Sp) (j t n c : Nat) (a : Option Addr), lv = .slice a n c ∧ tv = .int .i64 (t : Int) ∧ Hid (n = ss.length) ∧ j + t = j0 + T ∧ j0 ≤ j ∧ Hid (Tells ss L j) ∧ Hid (wr.ownsRow B 176 2 (.slice a n c) ss.length (stV ss)) ∧ Hid (∀ i, i < ns → wr.cell? ⟨bs, os + i, none⟩ = some (.int .i64 (z i : Int))) ∧ Hid (∀ k, (Value.slice a n c).ownBlock = some k → k ≠ bs) ∧ Hid (Below B w wr) ∧ B ≤ wr.heap.size) (fun _ tv _ => (intOf tv).toNat)
  case atStart => exact ⟨ss0, j0, T, _, c0, a0, rfl, rfl, rfl, rfl, Nat.le_refl _, HD0, HO0, HSY, HBE, Below.refl _ _, hB⟩
  case round =>
    clear HO0 HD0 HSY HBE
    obtain ⟨ss, j, t, n, c, a, rfl, rfl, Hn, hjt, hj0, HD, HO, HY, HE, HB, hBw⟩ := hrel
    rcases Nat.eq_zero_or_pos t with h0 | h0
    · subst h0
      obtain rfl : j = j0 + T := by omega
      have hn := unhide Hn
      have HO2 : Hid (wr.ownsRow B 176 2 (.slice a ss.length c) ss.length (stV ss)) := by
        have := unhide HO
        rw [hn] at this
        exact this
      subst hn
      go_wp2
      go_ret
      exact ⟨a, c, ss, rfl, unhide HO2, unhide HD, unhide HB⟩
    · have d1 : decide ((t : Int) > 0) = true := decide_eq_true (by omega)
      have d1' : decide ((0 : Int) < (t : Int)) = true := d1
      obtain ⟨gs, hgs⟩ : ∃ q, q = wr.heap.size := ⟨_, rfl⟩
      have hba : Below wr.heap.size wr (wr.alloc (.cells #[.int .i64 (L : Int), .int .i64 0] 176)) := (Below.refl _ _).alloc (Nat.le_refl _) _
      have f0 : (wr.alloc (.cells #[.int .i64 (L : Int), .int .i64 0] 176)).cell? ⟨gs, 0, none⟩ = some (.int .i64 (L : Int)) := by rw [hgs]; simp [go_sem]
      have f1 : (wr.alloc (.cells #[.int .i64 (L : Int), .int .i64 0] 176)).cell? ⟨gs, 1, none⟩ = some (.int .i64 ((0 : Nat) : Int)) := by rw [hgs]; simp [go_sem]
      have f2 : (wr.alloc (.cells #[.int .i64 (L : Int), .int .i64 0] 176)).frozen? ⟨gs, 0, none⟩ = false := by rw [hgs]; simp [go_sem]
      have f3 : (wr.alloc (.cells #[.int .i64 (L : Int), .int .i64 0] 176)).frozen? ⟨gs, 1, none⟩ = false := by rw [hgs]; simp [go_sem]
      have HIN := hide (own_inS (unhide HO))
      have HO1 : Hid ((wr.alloc (.cells #[.int .i64 (L : Int), .int .i64 0] 176)).ownsRow B 176 2 (.slice a n c) ss.length (stV ss)) := own_keepS (unhide HO) (fun k _ hk => hba.block k hk)
      have hbsl2 : bs < gs := by rw [hgs]; exact World.block_lt_of_cell? _ _ (unhide HY 0 hns)
      have HY1 : Hid (∀ i, i < ns → (wr.alloc (.cells #[.int .i64 (L : Int), .int .i64 0] 176)).cell? ⟨bs, os + i, none⟩ = some (.int .i64 (z i : Int))) := fun i hi => (hba.cell (p := ⟨bs, os + i, none⟩) (by rw [← hgs]; exact hbsl2)).trans (unhide HY i hi)
      have HB1 := hide ((unhide HB).trans (hba.mono hBw))
      have hB1 : B ≤ (wr.alloc (.cells #[.int .i64 (L : Int), .int .i64 0] 176)).heap.size := Nat.le_trans hBw hba.size
      have hgl : gs < (wr.alloc (.cells #[.int .i64 (L : Int), .int .i64 0] 176)).heap.size := by rw [hgs]; simp
      have hgB : B ≤ gs := by rw [hgs]; exact hBw
      have F0 := hide f0
      have F1 := hide f1
      have F2 := hide f2
      have F3 := hide f3
      clear f0 f1 f2 f3 hba HO HY HB
      go_upto_block 2 with fail
      rw [← hgs] at HIN
      rw [← hgs]
      generalize wr.alloc (.cells #[.int .i64 (L : Int), .int .i64 0] 176) = w1 at *
      have Hgs := hide hgs
      clear hgs
      go_cut [10] (fun tv wz => ∃ (told sym m : Nat), tv = .int .i64 (told : Int) ∧ 1 ≤ told ∧ told ≤ t ∧ Hid (Tells (ss ++ [(sym, m)]) L (j + told)) ∧ Hid (wz.cell? ⟨gs, 0, none⟩ = some (.int .i64 (sym : Int))) ∧ Hid (wz.cell? ⟨gs, 1, none⟩ = some (.int .i64 (m : Int))) ∧ Hid (But (· = gs) w1 wz))
      case first =>
        go_wp2
        go_loopw [10, 21] (fun tv iv wq => ∃ i : Nat, i ≤ ns ∧ iv = .int .i64 (i : Int) ∧ tv = .int .i64 1 ∧ wq = w1) (fun _ iv _ => ns - (intOf iv).toNat)
        case atStart => exact ⟨0, Nat.zero_le _, rfl, rfl, rfl⟩
        case round =>
          obtain ⟨i, hi, rfl, rfl, hw1⟩ := hrel
          replace hw1 := hw1.symm
          subst hw1
          by_cases hlt : i < ns
          · have d2 : decide ((i : Int) < (ns : Int)) = true := decide_eq_true (by omega)
            have d2n : decide (i < ns) = true := decide_eq_true hlt
            have hii : (i : Int) < (ns : Int) := by omega
            have ci := unhide HY1 i hlt
            have hcase : (z i = 16 ∧ 1 ≤ j) ∨ (z i = 17 ∧ L = 0) ∨ (z i = 18 ∧ L = 0) := by
              rcases unhide HSS with ⟨h1, h2, h3, h4⟩ | ⟨h1, h2, h3, h4, h5⟩
              · rcases (show i = 0 ∨ i = 1 by omega) with rfl | rfl
                · exact .inr (.inr ⟨h3, h2⟩)
                · exact .inr (.inl ⟨h4, h2⟩)
              · obtain rfl : i = 0 := by omega
                exact .inl ⟨h5, by omega⟩
            rcases hcase with ⟨hz, hq⟩ | ⟨hz, hq⟩ | ⟨hz, hq⟩
            · skip
              have ci2 : w1.cell? ⟨bs, os + i, none⟩ = some (.int .i64 16) := by rw [ci, hz]; rfl
              have HX : Hid (Calls Tryz.prog 123 #[.int .i64 16] w1 fun e w' => e = .returned (.tuple #[.int .i64 3, .int .i64 2]) ∧ w' = w1) := times_any 16 w1
              clear ci
              by_cases hge : 3 ≤ t
              · have g1 : decide ((t : Int) ≥ 3) = true := decide_eq_true (by omega)
                have g1' : decide ((3 : Int) ≤ (t : Int)) = true := g1
                by_cases htop : t ≤ 6
                · skip
                  have q1 : (t : Int) ≤ 6 := by omega
                  have q2 : ¬ ((6 : Int) < (t : Int)) := by omega
                  obtain ⟨m, hm⟩ : ∃ q, q = t - 3 := ⟨_, rfl⟩
                  have zm : (t : Int) - 3 = (m : Int) := by omega
                  have htl : t ≤ 6 := by omega
                  have ht3 : 3 ≤ t := by omega
                  have HTL : Hid (Tells (ss ++ [(16, m)]) L (j + t)) := by
                    rw [hm]
                    exact (unhide HD).again hq ht3 htl
                  have f0 := unhide F0
                  have f1 := unhide F1
                  have f2 := unhide F2
                  have f3 := unhide F3
                  have C0 : Hid (((w1.setCell ⟨gs, 0, none⟩ (.int .i64 16)).setCell ⟨gs, 1, none⟩ (.int .i64 (m : Int))).cell? ⟨gs, 0, none⟩ = some (.int .i64 ((16 : Nat) : Int))) := by
                    show _ = _
                    rw [World.cell?_setCell_other _ _ _ _ (fun q => by injection q with _ q; cases q)]
                    simp [go_sem, f0]
                  have C1 : Hid (((w1.setCell ⟨gs, 0, none⟩ (.int .i64 16)).setCell ⟨gs, 1, none⟩ (.int .i64 (m : Int))).cell? ⟨gs, 1, none⟩ = some (.int .i64 ((m : Nat) : Int))) := by
                    show _ = _
                    have e : (w1.setCell ⟨gs, 0, none⟩ (.int .i64 16)).cell? ⟨gs, 1, none⟩ = some (.int .i64 ((0 : Nat) : Int)) := by
                      rw [World.cell?_setCell_other _ _ _ _ (fun q => by injection q with _ q; cases q)]
                      exact f1
                    simp [go_sem, e]
                  have CB : Hid (But (· = gs) w1 ((w1.setCell ⟨gs, 0, none⟩ (.int .i64 16)).setCell ⟨gs, 1, none⟩ (.int .i64 (m : Int)))) := ((But.refl (· = gs) w1).setCell (p := ⟨gs, 0, none⟩) rfl _).setCell (p := ⟨gs, 1, none⟩) rfl _
                  clear hm hz
                  go_wp2_with fail
                  refine (unhide HX).mono ?_; rintro e w2 ⟨rfl, hw2⟩
                  replace hw2 := hw2.symm
                  subst hw2
                  clear HX
                  go_wp2
                  go_meet
                  case rel => exact ⟨t, 16, m, rfl, by omega, by omega, HTL, C0, C1, CB⟩
                · skip
                  have q1 : ¬ ((t : Int) ≤ 6) := by omega
                  have q2 : (6 : Int) < (t : Int) := by omega
                  have htl : 6 ≤ 6 := Nat.le_refl _
                  have ht3 : 3 ≤ 6 := by omega
                  have HTL : Hid (Tells (ss ++ [(16, 3)]) L (j + 6)) := by
                    exact (unhide HD).again hq ht3 htl
                  have f0 := unhide F0
                  have f1 := unhide F1
                  have f2 := unhide F2
                  have f3 := unhide F3
                  have C0 : Hid (((w1.setCell ⟨gs, 0, none⟩ (.int .i64 16)).setCell ⟨gs, 1, none⟩ (.int .i64 3)).cell? ⟨gs, 0, none⟩ = some (.int .i64 ((16 : Nat) : Int))) := by
                    show _ = _
                    rw [World.cell?_setCell_other _ _ _ _ (fun q => by injection q with _ q; cases q)]
                    simp [go_sem, f0]
                  have C1 : Hid (((w1.setCell ⟨gs, 0, none⟩ (.int .i64 16)).setCell ⟨gs, 1, none⟩ (.int .i64 3)).cell? ⟨gs, 1, none⟩ = some (.int .i64 ((3 : Nat) : Int))) := by
                    show _ = _
                    have e : (w1.setCell ⟨gs, 0, none⟩ (.int .i64 16)).cell? ⟨gs, 1, none⟩ = some (.int .i64 ((0 : Nat) : Int)) := by
                      rw [World.cell?_setCell_other _ _ _ _ (fun q => by injection q with _ q; cases q)]
                      exact f1
                    simp [go_sem, e]
                  have CB : Hid (But (· = gs) w1 ((w1.setCell ⟨gs, 0, none⟩ (.int .i64 16)).setCell ⟨gs, 1, none⟩ (.int .i64 3))) := ((But.refl (· = gs) w1).setCell (p := ⟨gs, 0, none⟩) rfl _).setCell (p := ⟨gs, 1, none⟩) rfl _
                  clear hz
                  go_wp2_with fail
                  refine (unhide HX).mono ?_; rintro e w2 ⟨rfl, hw2⟩
                  replace hw2 := hw2.symm
                  subst hw2
                  clear HX
                  go_wp2
                  go_meet
                  case rel => exact ⟨6, 16, 3, rfl, by omega, by omega, HTL, C0, C1, CB⟩
              · have g1 : decide ((t : Int) ≥ 3) = false := decide_eq_false (by omega)
                have g1' : decide ((3 : Int) ≤ (t : Int)) = false := g1
                clear hz
                go_wp2_with fail
                refine (unhide HX).mono ?_; rintro e w2 ⟨rfl, hw2⟩
                replace hw2 := hw2.symm
                subst hw2
                clear HX
                go_wp2
                go_roundw
                case rel => exact ⟨i + 1, by omega, by go_num, rfl, trivial⟩
                case measure => simp [intOf]; omega
            · have HQ0 := hide hq
              clear hq
              have ci2 : w1.cell? ⟨bs, os + i, none⟩ = some (.int .i64 17) := by rw [ci, hz]; rfl
              have HX : Hid (Calls Tryz.prog 123 #[.int .i64 17] w1 fun e w' => e = .returned (.tuple #[.int .i64 3, .int .i64 3]) ∧ w' = w1) := times_any 17 w1
              clear ci
              by_cases hge : 3 ≤ t
              · have g1 : decide ((t : Int) ≥ 3) = true := decide_eq_true (by omega)
                have g1' : decide ((3 : Int) ≤ (t : Int)) = true := g1
                by_cases htop : t ≤ 10
                · skip
                  have q1 : (t : Int) ≤ 10 := by omega
                  have q2 : ¬ ((10 : Int) < (t : Int)) := by omega
                  obtain ⟨m, hm⟩ : ∃ q, q = t - 3 := ⟨_, rfl⟩
                  have zm : (t : Int) - 3 = (m : Int) := by omega
                  have htl : t ≤ 10 := by omega
                  have ht3 : 3 ≤ t := by omega
                  have HTL : Hid (Tells (ss ++ [(17, m)]) L (j + t)) := by
                    rw [hm]
                    have hD := unhide HD; rw [unhide HQ0] at hD ⊢; exact hD.zeros (.inl ⟨rfl, ht3, htl⟩)
                  have f0 := unhide F0
                  have f1 := unhide F1
                  have f2 := unhide F2
                  have f3 := unhide F3
                  have C0 : Hid (((w1.setCell ⟨gs, 0, none⟩ (.int .i64 17)).setCell ⟨gs, 1, none⟩ (.int .i64 (m : Int))).cell? ⟨gs, 0, none⟩ = some (.int .i64 ((17 : Nat) : Int))) := by
                    show _ = _
                    rw [World.cell?_setCell_other _ _ _ _ (fun q => by injection q with _ q; cases q)]
                    simp [go_sem, f0]
                  have C1 : Hid (((w1.setCell ⟨gs, 0, none⟩ (.int .i64 17)).setCell ⟨gs, 1, none⟩ (.int .i64 (m : Int))).cell? ⟨gs, 1, none⟩ = some (.int .i64 ((m : Nat) : Int))) := by
                    show _ = _
                    have e : (w1.setCell ⟨gs, 0, none⟩ (.int .i64 17)).cell? ⟨gs, 1, none⟩ = some (.int .i64 ((0 : Nat) : Int)) := by
                      rw [World.cell?_setCell_other _ _ _ _ (fun q => by injection q with _ q; cases q)]
                      exact f1
                    simp [go_sem, e]
                  have CB : Hid (But (· = gs) w1 ((w1.setCell ⟨gs, 0, none⟩ (.int .i64 17)).setCell ⟨gs, 1, none⟩ (.int .i64 (m : Int)))) := ((But.refl (· = gs) w1).setCell (p := ⟨gs, 0, none⟩) rfl _).setCell (p := ⟨gs, 1, none⟩) rfl _
                  clear hm hz
                  go_wp2_with fail
                  refine (unhide HX).mono ?_; rintro e w2 ⟨rfl, hw2⟩
                  replace hw2 := hw2.symm
                  subst hw2
                  clear HX
                  go_wp2
                  go_meet
                  case rel => exact ⟨t, 17, m, rfl, by omega, by omega, HTL, C0, C1, CB⟩
                · skip
                  have q1 : ¬ ((t : Int) ≤ 10) := by omega
                  have q2 : (10 : Int) < (t : Int) := by omega
                  have htl : 10 ≤ 10 := Nat.le_refl _
                  have ht3 : 3 ≤ 10 := by omega
                  have HTL : Hid (Tells (ss ++ [(17, 7)]) L (j + 10)) := by
                    have hD := unhide HD; rw [unhide HQ0] at hD ⊢; exact hD.zeros (.inl ⟨rfl, ht3, htl⟩)
                  have f0 := unhide F0
                  have f1 := unhide F1
                  have f2 := unhide F2
                  have f3 := unhide F3
                  have C0 : Hid (((w1.setCell ⟨gs, 0, none⟩ (.int .i64 17)).setCell ⟨gs, 1, none⟩ (.int .i64 7)).cell? ⟨gs, 0, none⟩ = some (.int .i64 ((17 : Nat) : Int))) := by
                    show _ = _
                    rw [World.cell?_setCell_other _ _ _ _ (fun q => by injection q with _ q; cases q)]
                    simp [go_sem, f0]
                  have C1 : Hid (((w1.setCell ⟨gs, 0, none⟩ (.int .i64 17)).setCell ⟨gs, 1, none⟩ (.int .i64 7)).cell? ⟨gs, 1, none⟩ = some (.int .i64 ((7 : Nat) : Int))) := by
                    show _ = _
                    have e : (w1.setCell ⟨gs, 0, none⟩ (.int .i64 17)).cell? ⟨gs, 1, none⟩ = some (.int .i64 ((0 : Nat) : Int)) := by
                      rw [World.cell?_setCell_other _ _ _ _ (fun q => by injection q with _ q; cases q)]
                      exact f1
                    simp [go_sem, e]
                  have CB : Hid (But (· = gs) w1 ((w1.setCell ⟨gs, 0, none⟩ (.int .i64 17)).setCell ⟨gs, 1, none⟩ (.int .i64 7))) := ((But.refl (· = gs) w1).setCell (p := ⟨gs, 0, none⟩) rfl _).setCell (p := ⟨gs, 1, none⟩) rfl _
                  clear hz
                  go_wp2_with fail
                  refine (unhide HX).mono ?_; rintro e w2 ⟨rfl, hw2⟩
                  replace hw2 := hw2.symm
                  subst hw2
                  clear HX
                  go_wp2
                  go_meet
                  case rel => exact ⟨10, 17, 7, rfl, by omega, by omega, HTL, C0, C1, CB⟩
              · have g1 : decide ((t : Int) ≥ 3) = false := decide_eq_false (by omega)
                have g1' : decide ((3 : Int) ≤ (t : Int)) = false := g1
                clear hz
                go_wp2_with fail
                refine (unhide HX).mono ?_; rintro e w2 ⟨rfl, hw2⟩
                replace hw2 := hw2.symm
                subst hw2
                clear HX
                go_wp2
                go_roundw
                case rel => exact ⟨i + 1, by omega, by go_num, rfl, trivial⟩
                case measure => simp [intOf]; omega
            · have HQ0 := hide hq
              clear hq
              have ci2 : w1.cell? ⟨bs, os + i, none⟩ = some (.int .i64 18) := by rw [ci, hz]; rfl
              have HX : Hid (Calls Tryz.prog 123 #[.int .i64 18] w1 fun e w' => e = .returned (.tuple #[.int .i64 11, .int .i64 7]) ∧ w' = w1) := times_any 18 w1
              clear ci
              by_cases hge : 11 ≤ t
              · have g1 : decide ((t : Int) ≥ 11) = true := decide_eq_true (by omega)
                have g1' : decide ((11 : Int) ≤ (t : Int)) = true := g1
                by_cases htop : t ≤ 138
                · skip
                  have q1 : (t : Int) ≤ 138 := by omega
                  have q2 : ¬ ((138 : Int) < (t : Int)) := by omega
                  obtain ⟨m, hm⟩ : ∃ q, q = t - 11 := ⟨_, rfl⟩
                  have zm : (t : Int) - 11 = (m : Int) := by omega
                  have htl : t ≤ 138 := by omega
                  have ht3 : 11 ≤ t := by omega
                  have HTL : Hid (Tells (ss ++ [(18, m)]) L (j + t)) := by
                    rw [hm]
                    have hD := unhide HD; rw [unhide HQ0] at hD ⊢; exact hD.zeros (.inr ⟨rfl, ht3, htl⟩)
                  have f0 := unhide F0
                  have f1 := unhide F1
                  have f2 := unhide F2
                  have f3 := unhide F3
                  have C0 : Hid (((w1.setCell ⟨gs, 0, none⟩ (.int .i64 18)).setCell ⟨gs, 1, none⟩ (.int .i64 (m : Int))).cell? ⟨gs, 0, none⟩ = some (.int .i64 ((18 : Nat) : Int))) := by
                    show _ = _
                    rw [World.cell?_setCell_other _ _ _ _ (fun q => by injection q with _ q; cases q)]
                    simp [go_sem, f0]
                  have C1 : Hid (((w1.setCell ⟨gs, 0, none⟩ (.int .i64 18)).setCell ⟨gs, 1, none⟩ (.int .i64 (m : Int))).cell? ⟨gs, 1, none⟩ = some (.int .i64 ((m : Nat) : Int))) := by
                    show _ = _
                    have e : (w1.setCell ⟨gs, 0, none⟩ (.int .i64 18)).cell? ⟨gs, 1, none⟩ = some (.int .i64 ((0 : Nat) : Int)) := by
                      rw [World.cell?_setCell_other _ _ _ _ (fun q => by injection q with _ q; cases q)]
                      exact f1
                    simp [go_sem, e]
                  have CB : Hid (But (· = gs) w1 ((w1.setCell ⟨gs, 0, none⟩ (.int .i64 18)).setCell ⟨gs, 1, none⟩ (.int .i64 (m : Int)))) := ((But.refl (· = gs) w1).setCell (p := ⟨gs, 0, none⟩) rfl _).setCell (p := ⟨gs, 1, none⟩) rfl _
                  clear hm hz
                  go_wp2_with fail
                  refine (unhide HX).mono ?_; rintro e w2 ⟨rfl, hw2⟩
                  replace hw2 := hw2.symm
                  subst hw2
                  clear HX
                  go_wp2
                  go_meet
                  case rel => exact ⟨t, 18, m, rfl, by omega, by omega, HTL, C0, C1, CB⟩
                · skip
                  have q1 : ¬ ((t : Int) ≤ 138) := by omega
                  have q2 : (138 : Int) < (t : Int) := by omega
                  have htl : 138 ≤ 138 := Nat.le_refl _
                  have ht3 : 11 ≤ 138 := by omega
                  have HTL : Hid (Tells (ss ++ [(18, 127)]) L (j + 138)) := by
                    have hD := unhide HD; rw [unhide HQ0] at hD ⊢; exact hD.zeros (.inr ⟨rfl, ht3, htl⟩)
                  have f0 := unhide F0
                  have f1 := unhide F1
                  have f2 := unhide F2
                  have f3 := unhide F3
                  have C0 : Hid (((w1.setCell ⟨gs, 0, none⟩ (.int .i64 18)).setCell ⟨gs, 1, none⟩ (.int .i64 127)).cell? ⟨gs, 0, none⟩ = some (.int .i64 ((18 : Nat) : Int))) := by
                    show _ = _
                    rw [World.cell?_setCell_other _ _ _ _ (fun q => by injection q with _ q; cases q)]
                    simp [go_sem, f0]
                  have C1 : Hid (((w1.setCell ⟨gs, 0, none⟩ (.int .i64 18)).setCell ⟨gs, 1, none⟩ (.int .i64 127)).cell? ⟨gs, 1, none⟩ = some (.int .i64 ((127 : Nat) : Int))) := by
                    show _ = _
                    have e : (w1.setCell ⟨gs, 0, none⟩ (.int .i64 18)).cell? ⟨gs, 1, none⟩ = some (.int .i64 ((0 : Nat) : Int)) := by
                      rw [World.cell?_setCell_other _ _ _ _ (fun q => by injection q with _ q; cases q)]
                      exact f1
                    simp [go_sem, e]
                  have CB : Hid (But (· = gs) w1 ((w1.setCell ⟨gs, 0, none⟩ (.int .i64 18)).setCell ⟨gs, 1, none⟩ (.int .i64 127))) := ((But.refl (· = gs) w1).setCell (p := ⟨gs, 0, none⟩) rfl _).setCell (p := ⟨gs, 1, none⟩) rfl _
                  clear hz
                  go_wp2_with fail
                  refine (unhide HX).mono ?_; rintro e w2 ⟨rfl, hw2⟩
                  replace hw2 := hw2.symm
                  subst hw2
                  clear HX
                  go_wp2
                  go_meet
                  case rel => exact ⟨138, 18, 127, rfl, by omega, by omega, HTL, C0, C1, CB⟩
              · have g1 : decide ((t : Int) ≥ 11) = false := decide_eq_false (by omega)
                have g1' : decide ((11 : Int) ≤ (t : Int)) = false := g1
                clear hz
                go_wp2_with fail
                refine (unhide HX).mono ?_; rintro e w2 ⟨rfl, hw2⟩
                replace hw2 := hw2.symm
                subst hw2
                clear HX
                go_wp2
                go_roundw
                case rel => exact ⟨i + 1, by omega, by go_num, rfl, trivial⟩
                case measure => simp [intOf]; omega
          · obtain rfl : i = ns := by omega
            have d2 : decide ((i : Int) < (i : Int)) = false := by simp
            have HTL : Hid (Tells (ss ++ [(L, 0)]) L (j + 1)) := (unhide HD).plain hL
            go_wp2
            go_meet
            case rel => exact ⟨1, L, 0, rfl, by omega, by omega, HTL, F0, F1, But.refl _ _⟩
      case rest =>
        obtain ⟨told, sym, m, rfl, ht1, ht2, HT2, G0, G1, HBu⟩ := hcut
        have g0 := unhide G0
        have g1 := unhide G1
        have hne : ∀ k, (Value.slice a n c).ownBlock = some k → k ≠ gs := fun k e => by have := (unhide HIN k e).2; omega
        have hba : Below wc.heap.size wc (wc.alloc (.cells #[.int .i64 (sym : Int), .int .i64 (m : Int)] 176)) := (Below.refl _ _).alloc (Nat.le_refl _) _
        have HO2 : Hid ((wc.alloc (.cells #[.int .i64 (sym : Int), .int .i64 (m : Int)] 176)).ownsRow B 176 2 (.slice a n c) ss.length (stV ss)) :=
          own_keepS (own_keepS (unhide HO1) (fun k e hk => (unhide HBu).block k hk (hne k e))) (fun k _ hk => hba.block k hk)
        have HBw := hide ((unhide HBu).below hB1 (fun k hk q => by omega))
        have HB2 := hide (((unhide HB1).trans (unhide HBw)).trans (hba.mono (Nat.le_trans hB1 (unhide HBu).size)))
        have hB2 : B ≤ (wc.alloc (.cells #[.int .i64 (sym : Int), .int .i64 (m : Int)] 176)).heap.size := Nat.le_trans (Nat.le_trans hB1 (unhide HBu).size) hba.size
        have hcl : gs < wc.heap.size := Nat.lt_of_lt_of_le hgl (unhide HBu).size
        have HY2 : Hid (∀ i, i < ns → (wc.alloc (.cells #[.int .i64 (sym : Int), .int .i64 (m : Int)] 176)).cell? ⟨bs, os + i, none⟩ = some (.int .i64 (z i : Int))) := fun i hi =>
          (hba.cell (p := ⟨bs, os + i, none⟩) (show bs < _ by omega)).trans (((unhide HBu).cell (p := ⟨bs, os + i, none⟩) (show bs < _ by omega) (fun q => by simp only at q; omega)).trans (unhide HY1 i hi))
        have HQ : Hid (∀ q u, (stV [(sym, m)])[q]? = some u → (wc.alloc (.cells #[.int .i64 (sym : Int), .int .i64 (m : Int)] 176)).cell? ⟨wc.heap.size, q, none⟩ = some u) := fun q u hu => by
          have h2 := heap_alloc_new wc (.cells #[.int .i64 (sym : Int), .int .i64 (m : Int)] 176)
          simp only [World.cell?, h2]
          simpa [stV] using hu
        have hcn : ss.length + 1 ≤ 1000000 := by have := (unhide HD).few; omega
        have HCN := hide hcn
        obtain ⟨t2, ht2'⟩ : ∃ q, q = t - told := ⟨_, rfl⟩
        have zt : (t : Int) - (told : Int) = (t2 : Int) := by omega
        have hta : t2 < t := by omega
        have htj : j + told + t2 = j0 + T := by omega
        clear hba HO1 HB1 HY1 HBu HBw hcn ht2' F0 F1 F2 F3
        go_wp2_with (at_builtin; refine wpList_appSt _ rfl (.tmp 46) (.tmp 48) rfl B wc.heap.size 1 1 (.slice a n c) ss [(sym, m)] rfl rfl rfl (unhide HO2) (unhide HQ) (unhide HCN) hB2 ?_)
        intro v5 w5 ho5 hg5 hat5
        have hcs : ∀ k, v5.ownBlock = some k → k ≠ bs := fun k e => by
          rcases hat5 with q | q
          · exact unhide HE k (by rw [← q]; exact e)
          · rw [e] at q
            injection q with q
            have : (wc.alloc (.cells #[.int .i64 (sym : Int), .int .i64 (m : Int)] 176)).heap.size = wc.heap.size + 1 := by simp
            omega
        obtain ⟨a5, c5, rfl⟩ := own_sliceS ho5
        have HB5 := hide ((unhide HB2).grown hg5 hB2 (fun k e => (unhide HIN k e).1))
        have hB5 : B ≤ w5.heap.size := Nat.le_trans hB2 hg5.size
        have HY5 : Hid (∀ i, i < ns → w5.cell? ⟨bs, os + i, none⟩ = some (.int .i64 (z i : Int))) := fun i hi => hg5.cell (unhide HY2 i hi) (fun e => unhide HE bs e.symm rfl)
        have HCS : Hid (∀ k, (Value.slice a5 (ss.length + 1) c5).ownBlock = some k → k ≠ bs) := fun k e => hcs k (by simpa [Value.ownBlock] using e)
        have HO5 : Hid (w5.ownsRow B 176 2 (.slice a5 (ss.length + 1) c5) (ss ++ [(sym, m)]).length (stV (ss ++ [(sym, m)]))) := by
          show World.ownsRow _ _ _ _ _ _ _
          simpa using ho5
        clear ho5 hg5 hat5 hcs HO2 HB2 HY2 HQ g0 g1 hne
        go_wp2
        go_roundw
        case rel => exact ⟨ss ++ [(sym, m)], j + told, t2, ss.length + 1, c5, a5, rfl, by go_num, by show ss.length + 1 = _; rw [List.length_append]; rfl, by omega, by omega, HT2, HO5, HY5, HCS, HB5, hB5⟩
        case measure => simp [intOf]; omega
end Go.Proofs.YtfeljhikeddodadGreatDoor
