/- Walk of the document's reading of a packed text. -/
import Derived.Test.YtfeljhikeddodadGreatDoorRf8
import Derived.Test.YtfeljhikeddodadGreatDoorRf10
import Derived.Test.YtfeljhikeddodadGreatDoorRf11
namespace Go.Proofs.YtfeljhikeddodadGreatDoor
open Go.RowKit Pm Cn Cd Nf

set_option maxHeartbeats 8000000 in
set_option maxRecDepth 100000 in
theorem inflateOf_in (s : ByteArray) (m : Nat) (w : World) (hm : m ≤ 300000) (hs : s.size ≤ 20000) :
    Calls Tryz.prog 15 #[.string s, .int .i64 (m : Int)] w fun e w' => ∃ r v, Run (blockStep (tv s) (8 * s.size) m) (0, []) r ∧ e = .returned (toldV r v) ∧ Below w.heap.size w w' := by
  have hmk : ∀ w, (Instr.makeSlice 58 (.int .i64 32) (.int .i64 32)).run Tryz.prog w = .ok (.slice (some ⟨w.heap.size, 0, none⟩) 32 32) (w.alloc (.cells (madeCells #[.string ⟨#[]⟩] 32) 9)) := fun w => mk_strs 32 (by omega) w
  have d1 : decide ((m : Int) < 0) = false := decide_eq_false (by omega)
  have d2 : decide ((m : Int) > 300000) = false := by simp; omega
  have d2' : decide ((300000 : Int) < (m : Int)) = false := d2
  have d3 : decide ((s.size : Int) > 300000) = false := by simp; omega
  have d3' : decide ((300000 : Int) < (s.size : Int)) = false := d3
  have d3n : decide (300000 < s.size) = false := by simp; omega
  have d2n : decide (300000 < m) = false := by simp; omega
  obtain ⟨f, hf⟩ : ∃ f, f = blockStep (tv s) (8 * s.size) m := ⟨_, rfl⟩
  rw [← hf]
  have Hf := hide hf
  have HT0 := hide (TC.new w)
  have hb0 : Below w.heap.size w (w.alloc (.cells #[.string ⟨#[]⟩, .int .i64 0, .int .i64 0, .slice none 0 0, .slice none 0 0, .slice none 0 0, .slice none 0 0, .int .i64 0, .int .i64 0, .slice none 0 0] 40)) := (Below.refl _ _).alloc (Nat.le_refl _) _
  have hz0 : (w.alloc (.cells #[.string ⟨#[]⟩, .int .i64 0, .int .i64 0, .slice none 0 0, .slice none 0 0, .slice none 0 0, .slice none 0 0, .int .i64 0, .int .i64 0, .slice none 0 0] 40)).heap.size = w.heap.size + 1 := by simp
  have HBI := hide (bits_any s (w.alloc (.cells #[.string ⟨#[]⟩, .int .i64 0, .int .i64 0, .slice none 0 0, .slice none 0 0, .slice none 0 0, .slice none 0 0, .int .i64 0, .int .i64 0, .slice none 0 0] 40)) (by omega))
  clear hf
  go_enter Tryz.func15, Tryz.ntmps15
  go_wp2_with fail
  refine (unhide HBI).mono ?_
  clear HBI
  generalize w.alloc (.cells #[.string ⟨#[]⟩, .int .i64 0, .int .i64 0, .slice none 0 0, .slice none 0 0, .slice none 0 0, .slice none 0 0, .int .i64 0, .int .i64 0, .slice none 0 0] 40) = w0 at *
  rintro e w1 ⟨rfl, hb1⟩
  obtain ⟨T, hT⟩ : ∃ T, T = w.heap.size := ⟨_, rfl⟩
  have hTw : w.heap.size ≤ T := by omega
  have hz1 := hb1.size
  have hT1 : T < w1.heap.size := by omega
  rw [← hT] at HT0
  have HT1 := hide ((unhide HT0).below hb1 (by omega))
  have hbw1 : Below w.heap.size w w1 := hb0.trans (hb1.mono (by omega))
  have HTE := hide hT
  clear hb1 hb0 hz0 HT0 hz1 hT
  have hRG := rd0_at s m w1 hm hs
  have HSM := hide (SR.made (w1.alloc (rd0 s m)) 32 (by omega))
  have hzA : (w1.alloc (rd0 s m)).heap.size = w1.heap.size + 1 := by simp
  have hbA : Below (w1.alloc (rd0 s m)).heap.size (w1.alloc (rd0 s m)) ((w1.alloc (rd0 s m)).alloc (.cells (madeCells #[.string ⟨#[]⟩] 32) 9)) := (Below.refl _ _).alloc (Nat.le_refl _) _
  have hbB : Below w1.heap.size w1 ((w1.alloc (rd0 s m)).alloc (.cells (madeCells #[.string ⟨#[]⟩] 32) 9)) := ((Below.refl _ _).alloc (Nat.le_refl _) _).alloc (by simp) _
  obtain ⟨hRGA, hrwA⟩ := hRG.still hbA
  have e2 : rowA (w1.alloc (rd0 s m)) w1.heap.size 2 = w1.heap.size := by unfold rowA; rw [rd0, World.cell?_alloc_mark]; rfl
  have e11 : rowA (w1.alloc (rd0 s m)) w1.heap.size 11 = w1.heap.size := by unfold rowA; rw [rd0, World.cell?_alloc_mark]; rfl
  have q2 := hrwA.1.trans e2
  have q11 := hrwA.2.trans e11
  rw [hzA] at HSM
  obtain ⟨W, hW⟩ : ∃ W, W = (w1.alloc (rd0 s m)).alloc (.cells (madeCells #[.string ⟨#[]⟩] 32) 9) := ⟨_, rfl⟩
  have hzW : W.heap.size = w1.heap.size + 2 := by rw [hW]; simp
  rw [← hW] at HSM hbB hRGA q2 q11
  have hWe : _ = W := hW.symm
  unfold rd0 at hWe
  obtain ⟨R, hR⟩ : ∃ R, R = w1.heap.size := ⟨_, rfl⟩
  rw [← hR] at HSM hRGA q2 q11
  have HRG := hide hRGA
  have HT3 := hide ((unhide HT1).below hbB hT1)
  have hbW : Below w.heap.size w W := hbw1.trans (hbB.mono (by have := hbw1.size; omega))
  have hTR : T < R := by omega
  have hRW : R + 2 = W.heap.size := by omega
  have hnR : ¬ R + 1 = R := by omega
  clear hRG hbA hRGA hrwA e2 e11 hzA hW hbB HT1 hbw1 hT1 hzW
  go_wp2
  first | rw [hWe] | skip
  first | rw [← hR] | skip
  first | rw [← unhide HTE] | skip
  clear hWe hR HTE
  go_loopw [7] (fun i wr => ∃ j : Nat, j ≤ 32 ∧ i = .int .i64 (j : Int) ∧ Hid (SR wr (R + 1) 32 (fun x => if x < j then bt 5 (Bt.rev x 5) else ⟨#[]⟩)) ∧ But (· = R + 1) W wr) (fun i _ => 32 - (intOf i).toNat)
  case atStart => exact ⟨0, by omega, rfl, (unhide HSM).congr (fun i _ => by rw [if_neg (by omega)]), But.refl _ _⟩
  case round =>
    clear HSM
    obtain ⟨j, hj, rfl, HSj, hbj⟩ := hrel
    by_cases hjt : j < 32
    · have g1 : decide ((j : Int) < 32) = true := by simp; omega
      have hji : (j : Int) < 32 := by omega
      have HHI := hide (high_any j 5 wr (by omega) (by omega))
      have hwu : IntKind.u32.wrap (j : Int) = (j : Int) := by rw [IntKind.wrap_u32]; omega
      have hzj := hbj.size
      have HSN : Hid (∀ w4, Below wr.heap.size wr w4 → SR (w4.setCell ⟨R + 1, j, none⟩ (.string (bt 5 (Bt.rev j 5)))) (R + 1) 32 (fun x => if x < j + 1 then bt 5 (Bt.rev x 5) else ⟨#[]⟩)) := fun w4 hb4 => (((unhide HSj).below hb4).set j _ hjt).congr (fun i _ => by
        by_cases e : i = j
        · subst e; rw [if_pos rfl, if_pos (by omega)]
        · rw [if_neg e]
          by_cases c : i < j
          · rw [if_pos c, if_pos (by omega)]
          · rw [if_neg c, if_neg (by omega)])
      have HSC : Hid (∀ w4, Below wr.heap.size wr w4 → (∃ v, w4.cell? ⟨R + 1, j, none⟩ = some v) ∧ w4.frozen? ⟨R + 1, j, none⟩ = false) := fun w4 hb4 => ⟨⟨_, ((unhide HSj).below hb4 j hjt).1⟩, ((unhide HSj).below hb4 j hjt).2⟩
      go_wp2_with fail
      refine (unhide HHI).mono ?_; rintro e w4 ⟨rfl, hb4⟩
      obtain ⟨⟨v4, c4⟩, f4⟩ := unhide HSC w4 hb4
      have HS4 := hide (unhide HSN w4 hb4)
      have hbj4 : But (· = R + 1) W (w4.setCell ⟨R + 1, j, none⟩ (.string (bt 5 (Bt.rev j 5)))) := ((hbj.of_below hb4 (fun q h1 h2 => by omega)).setCell (p := ⟨R + 1, j, none⟩) rfl _)
      generalize bt 5 (Bt.rev j 5) = bj at *
      clear HHI HSN HSC hb4 HSj
      go_wp2
      go_roundw
      case rel => exact ⟨j + 1, by omega, by go_num, HS4, hbj4⟩
      case measure => simp [intOf]; omega
    · have hj32 : j = 32 := by omega
      subst hj32
      have HS5 : Hid (SR wr (R + 1) 32 (fun x => bt 5 (Bt.rev x 5))) := (unhide HSj).congr (fun i hi => by rw [if_pos hi])
      obtain ⟨hRg5, hrw5⟩ := (unhide HRG).aparts hbj (by show ¬ R = R + 1; omega) (by show ¬ _ = R + 1; rw [q2]; omega) (by show ¬ _ = R + 1; rw [q11]; omega)
      have HRg5 := hide hRg5
      have HWz := hide (five_words (R := R) (unhide HS5) hnR (by rw [hrw5.1, q2]; omega) (by rw [hrw5.2, q11]; omega))
      have hbR : Below R W wr := hbj.below (by omega) (fun i hi q => by omega)
      clear HSj HS5 hRg5 hrw5 hbj q2 q11
      go_wp2
      go_loopw [8] (fun v wr => ∃ lb : Nat, v = .int .i64 (lb : Int) ∧ Below R W wr ∧ ((∃ kN oN xe, Hid (Rg wr R s kN oN m xe) ∧ xe.q ≤ oN.length ∧ Hid (Wz wr R (R + 1) 32 fixD) ∧ Hid (lb = 0 → ∀ r, Run f (kN, oN) r → Run f (0, []) r) ∧ Hid (lb ≠ 0 → Run f (0, []) (.ok kN oN))) ∨ (∃ er, Hid (Rf wr R (eN er)) ∧ Hid (Run f (0, []) (.err er))))) (fun _ wr => msr wr R (8 * s.size))
      case atStart => exact ⟨0, rfl, hbR, .inl ⟨0, [], _, HRg5, by simp, HWz, (fun _ r h => h), (fun h => absurd rfl h)⟩⟩
      case round =>
        clear HRg5 HWz hbR
        obtain ⟨lb, rfl, hbr, hst⟩ := hrel
        have hzr := hbr.size
        have HTC := hide ((unhide HT3).below hbr hTR)
        have HBW := hide (hbW.trans (hbr.mono (by omega)))
        rcases hst with ⟨kN, oN, xe, HRr, hqr, HWr, HRF, HRT⟩ | ⟨er, HFE, HRE⟩
        rotate_left
        · obtain ⟨en, hen⟩ : ∃ en, en = eN er := ⟨_, rfl⟩
          have HEN := hide hen
          rw [← hen] at HFE
          clear hen
          by_cases hl0 : lb = 0
          · subst hl0
            go_wp2_with fail
            refine (rok_no _ (unhide HFE)).mono ?_; rintro e w8 ⟨rfl, hw8⟩
            replace hw8 := hw8.symm
            subst hw8
            have ce := (unhide HFE).err
            have t0 := (unhide HTC).1
            have t1 := (unhide HTC).2.1 1 (by omega)
            have t2 := (unhide HTC).2.1 2 (by omega)
            have t3 := (unhide HTC).2.2.1 3 (by omega)
            have t4 := (unhide HTC).2.2.1 4 (by omega)
            have t5 := (unhide HTC).2.2.1 5 (by omega)
            have t6 := (unhide HTC).2.2.1 6 (by omega)
            have t7 := (unhide HTC).2.1 7 (by omega)
            have t8 := (unhide HTC).2.1 8 (by omega)
            have t9 := (unhide HTC).2.2.1 9 (by omega)
            have tf0 := (unhide HTC).2.2.2 0
            have tf1 := (unhide HTC).2.2.2 1
            have tf2 := (unhide HTC).2.2.2 2
            have tf3 := (unhide HTC).2.2.2 3
            have tf4 := (unhide HTC).2.2.2 4
            have tf5 := (unhide HTC).2.2.2 5
            have tf6 := (unhide HTC).2.2.2 6
            have tf7 := (unhide HTC).2.2.2 7
            have tf8 := (unhide HTC).2.2.2 8
            have tf9 := (unhide HTC).2.2.2 9
            have hTnR : ¬ T = R := by omega
            have hRnT : ¬ R = T := by omega
            go_wp2_with fail
            refine (rok_no _ (unhide HFE)).mono ?_; rintro e w9 ⟨rfl, hw9⟩
            replace hw9 := hw9.symm
            subst hw9
            go_wp2
            refine bodyPost_ret (v := .agg #[.string ⟨#[]⟩, .int .i64 0, .int .i64 (en : Nat), .slice none 0 0, .slice none 0 0, .slice none 0 0, .slice none 0 0, .int .i64 0, .int .i64 0, .slice none 0 0]) ?_ rfl ⟨.err er, ⟨slc none 0 0, slc none 0 0, slc none 0 0, slc none 0 0, slc none 0 0, 0, 0⟩, unhide HRE, by rw [unhide HEN]; rfl, ?_⟩
            · rw [results_cellT (p := 4) (ty := 40) (by kernel_rfl)]
              go_simp
            · exact (((((((((((unhide HBW).setCell (p := ⟨T, 0, none⟩) (by show w.heap.size ≤ T; omega) _).setCell (p := ⟨T, 1, none⟩) (by show w.heap.size ≤ T; omega) _).setCell (p := ⟨T, 2, none⟩) (by show w.heap.size ≤ T; omega) _).setCell (p := ⟨T, 3, none⟩) (by show w.heap.size ≤ T; omega) _).setCell (p := ⟨T, 4, none⟩) (by show w.heap.size ≤ T; omega) _).setCell (p := ⟨T, 5, none⟩) (by show w.heap.size ≤ T; omega) _).setCell (p := ⟨T, 6, none⟩) (by show w.heap.size ≤ T; omega) _).setCell (p := ⟨T, 7, none⟩) (by show w.heap.size ≤ T; omega) _).setCell (p := ⟨T, 8, none⟩) (by show w.heap.size ≤ T; omega) _).setCell (p := ⟨T, 9, none⟩) (by show w.heap.size ≤ T; omega) _)
          · have gl : ((lb : Int) == 0) = false := by simp; omega
            clear hl0
            have ce := (unhide HFE).err
            have t0 := (unhide HTC).1
            have t1 := (unhide HTC).2.1 1 (by omega)
            have t2 := (unhide HTC).2.1 2 (by omega)
            have t3 := (unhide HTC).2.2.1 3 (by omega)
            have t4 := (unhide HTC).2.2.1 4 (by omega)
            have t5 := (unhide HTC).2.2.1 5 (by omega)
            have t6 := (unhide HTC).2.2.1 6 (by omega)
            have t7 := (unhide HTC).2.1 7 (by omega)
            have t8 := (unhide HTC).2.1 8 (by omega)
            have t9 := (unhide HTC).2.2.1 9 (by omega)
            have tf0 := (unhide HTC).2.2.2 0
            have tf1 := (unhide HTC).2.2.2 1
            have tf2 := (unhide HTC).2.2.2 2
            have tf3 := (unhide HTC).2.2.2 3
            have tf4 := (unhide HTC).2.2.2 4
            have tf5 := (unhide HTC).2.2.2 5
            have tf6 := (unhide HTC).2.2.2 6
            have tf7 := (unhide HTC).2.2.2 7
            have tf8 := (unhide HTC).2.2.2 8
            have tf9 := (unhide HTC).2.2.2 9
            have hTnR : ¬ T = R := by omega
            have hRnT : ¬ R = T := by omega
            go_wp2_with fail
            refine (rok_no _ (unhide HFE)).mono ?_; rintro e w9 ⟨rfl, hw9⟩
            replace hw9 := hw9.symm
            subst hw9
            go_wp2
            refine bodyPost_ret (v := .agg #[.string ⟨#[]⟩, .int .i64 0, .int .i64 (en : Nat), .slice none 0 0, .slice none 0 0, .slice none 0 0, .slice none 0 0, .int .i64 0, .int .i64 0, .slice none 0 0]) ?_ rfl ⟨.err er, ⟨slc none 0 0, slc none 0 0, slc none 0 0, slc none 0 0, slc none 0 0, 0, 0⟩, unhide HRE, by rw [unhide HEN]; rfl, ?_⟩
            · rw [results_cellT (p := 4) (ty := 40) (by kernel_rfl)]
              go_simp
            · exact (((((((((((unhide HBW).setCell (p := ⟨T, 0, none⟩) (by show w.heap.size ≤ T; omega) _).setCell (p := ⟨T, 1, none⟩) (by show w.heap.size ≤ T; omega) _).setCell (p := ⟨T, 2, none⟩) (by show w.heap.size ≤ T; omega) _).setCell (p := ⟨T, 3, none⟩) (by show w.heap.size ≤ T; omega) _).setCell (p := ⟨T, 4, none⟩) (by show w.heap.size ≤ T; omega) _).setCell (p := ⟨T, 5, none⟩) (by show w.heap.size ≤ T; omega) _).setCell (p := ⟨T, 6, none⟩) (by show w.heap.size ≤ T; omega) _).setCell (p := ⟨T, 7, none⟩) (by show w.heap.size ≤ T; omega) _).setCell (p := ⟨T, 8, none⟩) (by show w.heap.size ≤ T; omega) _).setCell (p := ⟨T, 9, none⟩) (by show w.heap.size ≤ T; omega) _)
        by_cases hl0 : lb = 0
        rotate_left
        · have gl : ((lb : Int) == 0) = false := by simp; omega
          have HRO := hide (unhide HRT hl0)
          clear hl0 HRT HRF
          go_wp2_with fail
          refine (rok_yes _ (unhide HRr)).mono ?_; rintro e w8 ⟨rfl, hw8⟩
          replace hw8 := hw8.symm
          subst hw8
          go_wp2_with fail
          refine (ralign2_any _ (unhide HRr)).mono ?_; rintro e w9 ⟨rfl, hR9, hb9, _⟩
          have hb9T : Below R wr w9 := hb9.below (by omega) (fun i hi q => by omega)
          have HT9 := hide ((unhide HTC).below hb9T hTR)
          have HB9 := hide ((unhide HBW).trans (hb9T.mono (by omega)))
          obtain ⟨a, cp, cv, hown, _⟩ := hR9.slice
          have hcv := own_text w9.drew (R + 1) _ _ _ hown.drew
          have c1 := hR9.at_
          obtain ⟨⟨v5, a5, n5, k5, rfl⟩, c5⟩ := hR9.others 5 (by omega)
          obtain ⟨⟨v6, a6, n6, k6, rfl⟩, c6⟩ := hR9.others 6 (by omega)
          have c7 := hR9.uses7
          have c8 := hR9.uses8
          obtain ⟨⟨v7, a7, n7, k7, hv7⟩, hu7⟩ : ∃ v, v = xe.u7 := ⟨_, rfl⟩
          obtain ⟨⟨v8, a8, n8, k8, hv8⟩, hu8⟩ : ∃ v, v = xe.u8 := ⟨_, rfl⟩
          rw [← hu7] at c7
          rw [← hu8] at c8
          subst hv7 hv8
          obtain ⟨x9, c9⟩ := hR9.counts 9 (by omega)
          obtain ⟨x10, c10⟩ := hR9.counts 10 (by omega)
          obtain ⟨v11, xs11, c11, hown11⟩ := hR9.toks
          obtain ⟨a11, k11, rfl⟩ := own_shape3 hown11
          simp only at c5 c6 c7 c8
          obtain ⟨us, hus⟩ : ∃ q, q = (kN + 7) / 8 := ⟨_, rfl⟩
          have HUS := hide hus
          have z8 : (((kN + 7) / 8 * 8 : Nat) : Int) / 8 = (us : Int) := by omega
          have z8' : (((kN + 7) / 8 * 8 : Nat) : Int).tdiv 8 = (us : Int) := by rw [Int.tdiv_eq_ediv_of_nonneg (by omega)]; exact z8
          have hwi9 := hR9.within
          obtain ⟨kz, hkz⟩ : ∃ q, q = (kN + 7) / 8 * 8 := ⟨_, rfl⟩
          rw [← hkz] at c1 z8 z8' hwi9
          have hkz3 : kz ≤ 160000 := by omega
          have hus3 : us ≤ 20000 := by omega
          have z8n : kz / 8 = us := by omega
          have hwus : IntKind.i64.wrap (us : Int) = (us : Int) := by rw [IntKind.wrap_i64]; omega
          have t0 := (unhide HT9).1
          have t1 := (unhide HT9).2.1 1 (by omega)
          have t2 := (unhide HT9).2.1 2 (by omega)
          have t3 := (unhide HT9).2.2.1 3 (by omega)
          have t4 := (unhide HT9).2.2.1 4 (by omega)
          have t5 := (unhide HT9).2.2.1 5 (by omega)
          have t6 := (unhide HT9).2.2.1 6 (by omega)
          have t7 := (unhide HT9).2.1 7 (by omega)
          have t8 := (unhide HT9).2.1 8 (by omega)
          have t9 := (unhide HT9).2.2.1 9 (by omega)
          have tf0 := (unhide HT9).2.2.2 0
          have tf1 := (unhide HT9).2.2.2 1
          have tf2 := (unhide HT9).2.2.2 2
          have tf3 := (unhide HT9).2.2.2 3
          have tf4 := (unhide HT9).2.2.2 4
          have tf5 := (unhide HT9).2.2.2 5
          have tf6 := (unhide HT9).2.2.2 6
          have tf7 := (unhide HT9).2.2.2 7
          have tf8 := (unhide HT9).2.2.2 8
          have tf9 := (unhide HT9).2.2.2 9

          have hTnR : ¬ T = R := by omega
          have hRnT : ¬ R = T := by omega
          have hR9l := hR9.lt
          have HOW := hide hown.drew
          clear hcv
          clear hR9 hown hown11 hus hkz hb9 hb9T HRr HWr HTC HBW hu7 hu8 HT9
          go_wp2_with fail
          refine wp_region_held_drew (S := fun w' => w'.cell? ⟨R, 1, none⟩ = some (.int .i64 (kz : Int)) ∧ w'.cell? ⟨R, 2, none⟩ = some (.slice a oN.length cp) ∧ w'.cell? ⟨R, 5, none⟩ = some (.slice a5 n5 k5) ∧ w'.cell? ⟨R, 6, none⟩ = some (.slice a6 n6 k6) ∧ w'.cell? ⟨R, 7, none⟩ = some (.slice a7 n7 k7) ∧ w'.cell? ⟨R, 8, none⟩ = some (.slice a8 n8 k8) ∧ w'.cell? ⟨R, 9, none⟩ = some (.int .i64 x9) ∧ w'.cell? ⟨R, 10, none⟩ = some (.int .i64 x10) ∧ w'.cell? ⟨R, 11, none⟩ = some (.slice a11 xe.q k11) ∧ w'.ownsRow (R + 1) 5 1 (.slice a oN.length cp) oN.length (byteVals oN)) (by kernel_rfl) ⟨c1, cv, c5, c6, c7, c8, c9, c10, c11, unhide HOW⟩ (fun hHeld => ?_)
          refine wpAnyH_take (i := 0) (v := .pointer (some ⟨R, 0, none⟩)) rfl (by kernel_rfl) (by kernel_rfl) (by kernel_rfl) (fun _ _ _ h => h) (Or.inl ⟨by rfl, ?_⟩) hHeld ?_
          · intro w' hSw
            obtain ⟨s1, s2, s5, s6, s7, s8, s9, s10, s11, sO⟩ := hSw
            go_simp
          simp only [Act.put, List.setIfInBounds_toArray]
          refine wpAnyH_take (i := 1) (v := .pointer (some ⟨R, 0, none⟩)) rfl (by kernel_rfl) (by kernel_rfl) (by kernel_rfl) (fun _ _ _ h => h) (Or.inl ⟨by rfl, ?_⟩) hHeld ?_
          · intro w' hSw
            obtain ⟨s1, s2, s5, s6, s7, s8, s9, s10, s11, sO⟩ := hSw
            go_simp
          simp only [Act.put]
          refine wpAnyH_take (i := 2) (v := .pointer (some ⟨R, 2, none⟩)) rfl (by kernel_rfl) (by kernel_rfl) (by kernel_rfl) (fun _ _ _ h => h) (Or.inl ⟨by rfl, ?_⟩) hHeld ?_
          · intro w' hSw
            obtain ⟨s1, s2, s5, s6, s7, s8, s9, s10, s11, sO⟩ := hSw
            go_simp
          simp only [Act.put]
          refine wpAnyH_take (i := 3) (v := .slice a oN.length cp) rfl (by kernel_rfl) (by kernel_rfl) (by kernel_rfl) (fun _ _ _ h => h) (Or.inl ⟨by rfl, ?_⟩) hHeld ?_
          · intro w' hSw
            obtain ⟨s1, s2, s5, s6, s7, s8, s9, s10, s11, sO⟩ := hSw
            go_simp
          simp only [Act.put]
          refine wpAnyH_take (i := 4) (v := .string ⟨oN.toArray⟩) rfl (by kernel_rfl) (by kernel_rfl) (by kernel_rfl) (fun _ _ _ h => h) (Or.inl ⟨by rfl, ?_⟩) hHeld ?_
          · intro w' hSw
            obtain ⟨s1, s2, s5, s6, s7, s8, s9, s10, s11, sO⟩ := hSw
            have sV := own_text w' (R + 1) _ _ _ sO
            go_simp
          simp only [Act.put]
          refine wpAnyH_take (i := 5) (v := .pointer (some ⟨R, 0, none⟩)) rfl (by kernel_rfl) (by kernel_rfl) (by kernel_rfl) (fun _ _ _ h => h) (Or.inl ⟨by rfl, ?_⟩) hHeld ?_
          · intro w' hSw
            obtain ⟨s1, s2, s5, s6, s7, s8, s9, s10, s11, sO⟩ := hSw
            go_simp
          simp only [Act.put]
          refine wpAnyH_take (i := 6) (v := .pointer (some ⟨R, 0, none⟩)) rfl (by kernel_rfl) (by kernel_rfl) (by kernel_rfl) (fun _ _ _ h => h) (Or.inl ⟨by rfl, ?_⟩) hHeld ?_
          · intro w' hSw
            obtain ⟨s1, s2, s5, s6, s7, s8, s9, s10, s11, sO⟩ := hSw
            go_simp
          simp only [Act.put]
          refine wpAnyH_take (i := 7) (v := .pointer (some ⟨R, 1, none⟩)) rfl (by kernel_rfl) (by kernel_rfl) (by kernel_rfl) (fun _ _ _ h => h) (Or.inl ⟨by rfl, ?_⟩) hHeld ?_
          · intro w' hSw
            obtain ⟨s1, s2, s5, s6, s7, s8, s9, s10, s11, sO⟩ := hSw
            go_simp
          simp only [Act.put]
          refine wpAnyH_take (i := 8) (v := .int .i64 (kz : Int)) rfl (by kernel_rfl) (by kernel_rfl) (by kernel_rfl) (fun _ _ _ h => h) (Or.inl ⟨by rfl, ?_⟩) hHeld ?_
          · intro w' hSw
            obtain ⟨s1, s2, s5, s6, s7, s8, s9, s10, s11, sO⟩ := hSw
            go_simp
          simp only [Act.put]
          refine wpAnyH_take (i := 9) (v := .int .i64 (us : Nat)) rfl (by kernel_rfl) (by kernel_rfl) (by kernel_rfl) (fun _ _ _ h => h) (Or.inl ⟨by rfl, ?_⟩) hHeld ?_
          · intro w' hSw
            obtain ⟨s1, s2, s5, s6, s7, s8, s9, s10, s11, sO⟩ := hSw
            go_simp
          simp only [Act.put]
          refine wpAnyH_take (i := 10) (v := .pointer (some ⟨R, 0, none⟩)) rfl (by kernel_rfl) (by kernel_rfl) (by kernel_rfl) (fun _ _ _ h => h) (Or.inl ⟨by rfl, ?_⟩) hHeld ?_
          · intro w' hSw
            obtain ⟨s1, s2, s5, s6, s7, s8, s9, s10, s11, sO⟩ := hSw
            go_simp
          simp only [Act.put]
          refine wpAnyH_take (i := 11) (v := .pointer (some ⟨R, 0, none⟩)) rfl (by kernel_rfl) (by kernel_rfl) (by kernel_rfl) (fun _ _ _ h => h) (Or.inl ⟨by rfl, ?_⟩) hHeld ?_
          · intro w' hSw
            obtain ⟨s1, s2, s5, s6, s7, s8, s9, s10, s11, sO⟩ := hSw
            go_simp
          simp only [Act.put]
          refine wpAnyH_take (i := 12) (v := .pointer (some ⟨R, 5, none⟩)) rfl (by kernel_rfl) (by kernel_rfl) (by kernel_rfl) (fun _ _ _ h => h) (Or.inl ⟨by rfl, ?_⟩) hHeld ?_
          · intro w' hSw
            obtain ⟨s1, s2, s5, s6, s7, s8, s9, s10, s11, sO⟩ := hSw
            go_simp
          simp only [Act.put]
          refine wpAnyH_take (i := 13) (v := .slice a5 n5 k5) rfl (by kernel_rfl) (by kernel_rfl) (by kernel_rfl) (fun _ _ _ h => h) (Or.inl ⟨by rfl, ?_⟩) hHeld ?_
          · intro w' hSw
            obtain ⟨s1, s2, s5, s6, s7, s8, s9, s10, s11, sO⟩ := hSw
            go_simp
          simp only [Act.put]
          refine wpAnyH_take (i := 14) (v := .pointer (some ⟨R, 0, none⟩)) rfl (by kernel_rfl) (by kernel_rfl) (by kernel_rfl) (fun _ _ _ h => h) (Or.inl ⟨by rfl, ?_⟩) hHeld ?_
          · intro w' hSw
            obtain ⟨s1, s2, s5, s6, s7, s8, s9, s10, s11, sO⟩ := hSw
            go_simp
          simp only [Act.put]
          refine wpAnyH_take (i := 15) (v := .pointer (some ⟨R, 0, none⟩)) rfl (by kernel_rfl) (by kernel_rfl) (by kernel_rfl) (fun _ _ _ h => h) (Or.inl ⟨by rfl, ?_⟩) hHeld ?_
          · intro w' hSw
            obtain ⟨s1, s2, s5, s6, s7, s8, s9, s10, s11, sO⟩ := hSw
            go_simp
          simp only [Act.put]
          refine wpAnyH_take (i := 16) (v := .pointer (some ⟨R, 6, none⟩)) rfl (by kernel_rfl) (by kernel_rfl) (by kernel_rfl) (fun _ _ _ h => h) (Or.inl ⟨by rfl, ?_⟩) hHeld ?_
          · intro w' hSw
            obtain ⟨s1, s2, s5, s6, s7, s8, s9, s10, s11, sO⟩ := hSw
            go_simp
          simp only [Act.put]
          refine wpAnyH_take (i := 17) (v := .slice a6 n6 k6) rfl (by kernel_rfl) (by kernel_rfl) (by kernel_rfl) (fun _ _ _ h => h) (Or.inl ⟨by rfl, ?_⟩) hHeld ?_
          · intro w' hSw
            obtain ⟨s1, s2, s5, s6, s7, s8, s9, s10, s11, sO⟩ := hSw
            go_simp
          simp only [Act.put]
          refine wpAnyH_take (i := 18) (v := .pointer (some ⟨R, 0, none⟩)) rfl (by kernel_rfl) (by kernel_rfl) (by kernel_rfl) (fun _ _ _ h => h) (Or.inl ⟨by rfl, ?_⟩) hHeld ?_
          · intro w' hSw
            obtain ⟨s1, s2, s5, s6, s7, s8, s9, s10, s11, sO⟩ := hSw
            go_simp
          simp only [Act.put]
          refine wpAnyH_take (i := 19) (v := .pointer (some ⟨R, 0, none⟩)) rfl (by kernel_rfl) (by kernel_rfl) (by kernel_rfl) (fun _ _ _ h => h) (Or.inl ⟨by rfl, ?_⟩) hHeld ?_
          · intro w' hSw
            obtain ⟨s1, s2, s5, s6, s7, s8, s9, s10, s11, sO⟩ := hSw
            go_simp
          simp only [Act.put]
          refine wpAnyH_take (i := 20) (v := .pointer (some ⟨R, 7, none⟩)) rfl (by kernel_rfl) (by kernel_rfl) (by kernel_rfl) (fun _ _ _ h => h) (Or.inl ⟨by rfl, ?_⟩) hHeld ?_
          · intro w' hSw
            obtain ⟨s1, s2, s5, s6, s7, s8, s9, s10, s11, sO⟩ := hSw
            go_simp
          simp only [Act.put]
          refine wpAnyH_take (i := 21) (v := .slice a7 n7 k7) rfl (by kernel_rfl) (by kernel_rfl) (by kernel_rfl) (fun _ _ _ h => h) (Or.inl ⟨by rfl, ?_⟩) hHeld ?_
          · intro w' hSw
            obtain ⟨s1, s2, s5, s6, s7, s8, s9, s10, s11, sO⟩ := hSw
            go_simp
          simp only [Act.put]
          refine wpAnyH_take (i := 22) (v := .pointer (some ⟨R, 0, none⟩)) rfl (by kernel_rfl) (by kernel_rfl) (by kernel_rfl) (fun _ _ _ h => h) (Or.inl ⟨by rfl, ?_⟩) hHeld ?_
          · intro w' hSw
            obtain ⟨s1, s2, s5, s6, s7, s8, s9, s10, s11, sO⟩ := hSw
            go_simp
          simp only [Act.put]
          refine wpAnyH_take (i := 23) (v := .pointer (some ⟨R, 0, none⟩)) rfl (by kernel_rfl) (by kernel_rfl) (by kernel_rfl) (fun _ _ _ h => h) (Or.inl ⟨by rfl, ?_⟩) hHeld ?_
          · intro w' hSw
            obtain ⟨s1, s2, s5, s6, s7, s8, s9, s10, s11, sO⟩ := hSw
            go_simp
          simp only [Act.put]
          refine wpAnyH_take (i := 24) (v := .pointer (some ⟨R, 8, none⟩)) rfl (by kernel_rfl) (by kernel_rfl) (by kernel_rfl) (fun _ _ _ h => h) (Or.inl ⟨by rfl, ?_⟩) hHeld ?_
          · intro w' hSw
            obtain ⟨s1, s2, s5, s6, s7, s8, s9, s10, s11, sO⟩ := hSw
            go_simp
          simp only [Act.put]
          refine wpAnyH_take (i := 25) (v := .slice a8 n8 k8) rfl (by kernel_rfl) (by kernel_rfl) (by kernel_rfl) (fun _ _ _ h => h) (Or.inl ⟨by rfl, ?_⟩) hHeld ?_
          · intro w' hSw
            obtain ⟨s1, s2, s5, s6, s7, s8, s9, s10, s11, sO⟩ := hSw
            go_simp
          simp only [Act.put]
          refine wpAnyH_take (i := 26) (v := .pointer (some ⟨R, 0, none⟩)) rfl (by kernel_rfl) (by kernel_rfl) (by kernel_rfl) (fun _ _ _ h => h) (Or.inl ⟨by rfl, ?_⟩) hHeld ?_
          · intro w' hSw
            obtain ⟨s1, s2, s5, s6, s7, s8, s9, s10, s11, sO⟩ := hSw
            go_simp
          simp only [Act.put]
          refine wpAnyH_take (i := 27) (v := .pointer (some ⟨R, 0, none⟩)) rfl (by kernel_rfl) (by kernel_rfl) (by kernel_rfl) (fun _ _ _ h => h) (Or.inl ⟨by rfl, ?_⟩) hHeld ?_
          · intro w' hSw
            obtain ⟨s1, s2, s5, s6, s7, s8, s9, s10, s11, sO⟩ := hSw
            go_simp
          simp only [Act.put]
          refine wpAnyH_take (i := 28) (v := .pointer (some ⟨R, 9, none⟩)) rfl (by kernel_rfl) (by kernel_rfl) (by kernel_rfl) (fun _ _ _ h => h) (Or.inl ⟨by rfl, ?_⟩) hHeld ?_
          · intro w' hSw
            obtain ⟨s1, s2, s5, s6, s7, s8, s9, s10, s11, sO⟩ := hSw
            go_simp
          simp only [Act.put]
          refine wpAnyH_take (i := 29) (v := .int .i64 x9) rfl (by kernel_rfl) (by kernel_rfl) (by kernel_rfl) (fun _ _ _ h => h) (Or.inl ⟨by rfl, ?_⟩) hHeld ?_
          · intro w' hSw
            obtain ⟨s1, s2, s5, s6, s7, s8, s9, s10, s11, sO⟩ := hSw
            go_simp
          simp only [Act.put]
          refine wpAnyH_take (i := 30) (v := .pointer (some ⟨R, 0, none⟩)) rfl (by kernel_rfl) (by kernel_rfl) (by kernel_rfl) (fun _ _ _ h => h) (Or.inl ⟨by rfl, ?_⟩) hHeld ?_
          · intro w' hSw
            obtain ⟨s1, s2, s5, s6, s7, s8, s9, s10, s11, sO⟩ := hSw
            go_simp
          simp only [Act.put]
          refine wpAnyH_take (i := 31) (v := .pointer (some ⟨R, 0, none⟩)) rfl (by kernel_rfl) (by kernel_rfl) (by kernel_rfl) (fun _ _ _ h => h) (Or.inl ⟨by rfl, ?_⟩) hHeld ?_
          · intro w' hSw
            obtain ⟨s1, s2, s5, s6, s7, s8, s9, s10, s11, sO⟩ := hSw
            go_simp
          simp only [Act.put]
          refine wpAnyH_take (i := 32) (v := .pointer (some ⟨R, 10, none⟩)) rfl (by kernel_rfl) (by kernel_rfl) (by kernel_rfl) (fun _ _ _ h => h) (Or.inl ⟨by rfl, ?_⟩) hHeld ?_
          · intro w' hSw
            obtain ⟨s1, s2, s5, s6, s7, s8, s9, s10, s11, sO⟩ := hSw
            go_simp
          simp only [Act.put]
          refine wpAnyH_take (i := 33) (v := .int .i64 x10) rfl (by kernel_rfl) (by kernel_rfl) (by kernel_rfl) (fun _ _ _ h => h) (Or.inl ⟨by rfl, ?_⟩) hHeld ?_
          · intro w' hSw
            obtain ⟨s1, s2, s5, s6, s7, s8, s9, s10, s11, sO⟩ := hSw
            go_simp
          simp only [Act.put]
          refine wpAnyH_take (i := 34) (v := .pointer (some ⟨R, 0, none⟩)) rfl (by kernel_rfl) (by kernel_rfl) (by kernel_rfl) (fun _ _ _ h => h) (Or.inl ⟨by rfl, ?_⟩) hHeld ?_
          · intro w' hSw
            obtain ⟨s1, s2, s5, s6, s7, s8, s9, s10, s11, sO⟩ := hSw
            go_simp
          simp only [Act.put]
          refine wpAnyH_take (i := 35) (v := .pointer (some ⟨R, 0, none⟩)) rfl (by kernel_rfl) (by kernel_rfl) (by kernel_rfl) (fun _ _ _ h => h) (Or.inl ⟨by rfl, ?_⟩) hHeld ?_
          · intro w' hSw
            obtain ⟨s1, s2, s5, s6, s7, s8, s9, s10, s11, sO⟩ := hSw
            go_simp
          simp only [Act.put]
          refine wpAnyH_take (i := 36) (v := .pointer (some ⟨R, 11, none⟩)) rfl (by kernel_rfl) (by kernel_rfl) (by kernel_rfl) (fun _ _ _ h => h) (Or.inl ⟨by rfl, ?_⟩) hHeld ?_
          · intro w' hSw
            obtain ⟨s1, s2, s5, s6, s7, s8, s9, s10, s11, sO⟩ := hSw
            go_simp
          simp only [Act.put]
          refine wpAnyH_take (i := 37) (v := .slice a11 xe.q k11) rfl (by kernel_rfl) (by kernel_rfl) (by kernel_rfl) (fun _ _ _ h => h) (Or.inl ⟨by rfl, ?_⟩) hHeld ?_
          · intro w' hSw
            obtain ⟨s1, s2, s5, s6, s7, s8, s9, s10, s11, sO⟩ := hSw
            go_simp
          simp only [Act.put]
          refine wpAnyH_take (i := 38) (v := .agg #[.string ⟨oN.toArray⟩, .int .i64 (us : Nat), .int .i64 0, .slice a5 n5 k5, .slice a6 n6 k6, .slice a7 n7 k7, .slice a8 n8 k8, .int .i64 x9, .int .i64 x10, .slice a11 xe.q k11]) rfl (by kernel_rfl) (by kernel_rfl) (by kernel_rfl) (fun _ _ _ h => h) (Or.inl ⟨by rfl, ?_⟩) hHeld ?_
          · intro w' hSw
            obtain ⟨s1, s2, s5, s6, s7, s8, s9, s10, s11, sO⟩ := hSw
            go_simp
          simp only [Act.put]
          have hbT : But (· = T) w9 (((((((((((w9.setCell ⟨T, 0, none⟩ (.string ⟨oN.toArray⟩)).setCell ⟨T, 1, none⟩ (.int .i64 (us : Nat))).setCell ⟨T, 2, none⟩ (.int .i64 0)).setCell ⟨T, 3, none⟩ (.slice a5 n5 k5)).setCell ⟨T, 4, none⟩ (.slice a6 n6 k6)).setCell ⟨T, 5, none⟩ (.slice a7 n7 k7)).setCell ⟨T, 6, none⟩ (.slice a8 n8 k8)).setCell ⟨T, 7, none⟩ (.int .i64 x9)).setCell ⟨T, 8, none⟩ (.int .i64 x10)).setCell ⟨T, 9, none⟩ (.slice a11 xe.q k11))).drew := (((((((((((But.refl (· = T) w9).setCell (p := ⟨T, 0, none⟩) rfl _).setCell (p := ⟨T, 1, none⟩) rfl _).setCell (p := ⟨T, 2, none⟩) rfl _).setCell (p := ⟨T, 3, none⟩) rfl _).setCell (p := ⟨T, 4, none⟩) rfl _).setCell (p := ⟨T, 5, none⟩) rfl _).setCell (p := ⟨T, 6, none⟩) rfl _).setCell (p := ⟨T, 7, none⟩) rfl _).setCell (p := ⟨T, 8, none⟩) rfl _).setCell (p := ⟨T, 9, none⟩) rfl _).drew
          have HWT : Hid (∀ w', w' = (((((((((((w9.setCell ⟨T, 0, none⟩ (.string ⟨oN.toArray⟩)).setCell ⟨T, 1, none⟩ (.int .i64 (us : Nat))).setCell ⟨T, 2, none⟩ (.int .i64 0)).setCell ⟨T, 3, none⟩ (.slice a5 n5 k5)).setCell ⟨T, 4, none⟩ (.slice a6 n6 k6)).setCell ⟨T, 5, none⟩ (.slice a7 n7 k7)).setCell ⟨T, 6, none⟩ (.slice a8 n8 k8)).setCell ⟨T, 7, none⟩ (.int .i64 x9)).setCell ⟨T, 8, none⟩ (.int .i64 x10)).setCell ⟨T, 9, none⟩ (.slice a11 xe.q k11))).drew → (w'.cell? ⟨R, 1, none⟩ = some (.int .i64 (kz : Int)) ∧ w'.cell? ⟨R, 2, none⟩ = some (.slice a oN.length cp) ∧ w'.cell? ⟨R, 5, none⟩ = some (.slice a5 n5 k5) ∧ w'.cell? ⟨R, 6, none⟩ = some (.slice a6 n6 k6) ∧ w'.cell? ⟨R, 7, none⟩ = some (.slice a7 n7 k7) ∧ w'.cell? ⟨R, 8, none⟩ = some (.slice a8 n8 k8) ∧ w'.cell? ⟨R, 9, none⟩ = some (.int .i64 x9) ∧ w'.cell? ⟨R, 10, none⟩ = some (.int .i64 x10) ∧ w'.cell? ⟨R, 11, none⟩ = some (.slice a11 xe.q k11) ∧ w'.ownsRow (R + 1) 5 1 (.slice a oN.length cp) oN.length (byteVals oN)) ∧ Below w.heap.size w w') := fun w' e => by
            subst e
            refine ⟨⟨(hbT.cell (p := ⟨R, 1, none⟩) hR9l hRnT).trans c1, (hbT.cell (p := ⟨R, 2, none⟩) hR9l hRnT).trans cv, (hbT.cell (p := ⟨R, 5, none⟩) hR9l hRnT).trans c5, (hbT.cell (p := ⟨R, 6, none⟩) hR9l hRnT).trans c6, (hbT.cell (p := ⟨R, 7, none⟩) hR9l hRnT).trans c7, (hbT.cell (p := ⟨R, 8, none⟩) hR9l hRnT).trans c8, (hbT.cell (p := ⟨R, 9, none⟩) hR9l hRnT).trans c9, (hbT.cell (p := ⟨R, 10, none⟩) hR9l hRnT).trans c10, (hbT.cell (p := ⟨R, 11, none⟩) hR9l hRnT).trans c11, own_blk (unhide HOW) (fun g e => hbT.block g ((unhide HOW).lt g e).2 (fun q => by have := ((unhide HOW).lt g e).1; omega))⟩, ?_⟩
            exact (((((((((((unhide HB9).setCell (p := ⟨T, 0, none⟩) (by show w.heap.size ≤ T; omega) _).setCell (p := ⟨T, 1, none⟩) (by show w.heap.size ≤ T; omega) _).setCell (p := ⟨T, 2, none⟩) (by show w.heap.size ≤ T; omega) _).setCell (p := ⟨T, 3, none⟩) (by show w.heap.size ≤ T; omega) _).setCell (p := ⟨T, 4, none⟩) (by show w.heap.size ≤ T; omega) _).setCell (p := ⟨T, 5, none⟩) (by show w.heap.size ≤ T; omega) _).setCell (p := ⟨T, 6, none⟩) (by show w.heap.size ≤ T; omega) _).setCell (p := ⟨T, 7, none⟩) (by show w.heap.size ≤ T; omega) _).setCell (p := ⟨T, 8, none⟩) (by show w.heap.size ≤ T; omega) _).setCell (p := ⟨T, 9, none⟩) (by show w.heap.size ≤ T; omega) _).drew
          clear hbT
          refine wpAnyH_ready (rs := [39]) (by kernel_rfl) (by simp) ?_
          refine AllReadyH.cons rfl (fun K hK => ?_) AllReadyH.nil
          go_simp
          refine hK.out _ _ (unhide HWT _ rfl).1 (fun hHeld => ?_)
          clear hK K
          refine wpAnyH_done (by kernel_rfl) ?_ _
          go_wp2
          refine bodyPost_ret (v := .agg #[.string ⟨oN.toArray⟩, .int .i64 (us : Nat), .int .i64 0, .slice a5 n5 k5, .slice a6 n6 k6, .slice a7 n7 k7, .slice a8 n8 k8, .int .i64 x9, .int .i64 x10, .slice a11 xe.q k11]) ?_ rfl ⟨.ok kN oN, ⟨slc a5 n5 k5, slc a6 n6 k6, slc a7 n7 k7, slc a8 n8 k8, slc a11 xe.q k11, x9, x10⟩, unhide HRO, by rw [unhide HUS]; rfl, (unhide HWT _ rfl).2⟩
          rw [results_cellT (p := 4) (ty := 40) (by kernel_rfl)]
          go_simp
        subst hl0
        have HRUN := hide (unhide HRF rfl)
        have hwN := (unhide HRr).within
        obtain ⟨mw, hmw⟩ : ∃ q, q = msr wr R (8 * s.size) := ⟨_, rfl⟩
        have HMW := hide hmw
        have hmv : mw = 1 + (8 * s.size - kN) := by rw [hmw, (unhide HRr).msr]
        have HMV := hide hmv
        have hRr := (unhide HRr).lt
        clear HRF HRT hmw hmv
        go_wp2_with fail
        refine (rok_yes _ (unhide HRr)).mono ?_; rintro e w7 ⟨rfl, hw7⟩
        replace hw7 := hw7.symm
        subst hw7
        have HG1 := hide (rget_any 1 wr (unhide HRr) (by omega))
        go_wp2_with fail
        refine (unhide HG1).mono ?_
        rintro e w2 (⟨a1, rfl, hR2, hb2, hr2⟩ | ⟨a1, rfl, hF2, hb2⟩)
        rotate_left
        · have HRE0 : Hid (Run f (0, []) (.err .text)) := unhide HRUN _ (.done (by rw [unhide Hf]; unfold blockStep; rw [if_pos (by show ¬ kN + 3 ≤ _; omega)]))
          have HF2 := hide hF2
          clear HG1 a1 hF2 HRUN HMW HMV HRr HWr
          go_wp2_with fail
          refine (rget_bad 2 w2 (unhide HF2)).mono ?_; rintro e w3 ⟨rfl, nn, rfl⟩
          have HF3 := hide ((unhide HF2).drewN nn)
          have hb3 : But (· = R) wr (w2.drewN nn) := hb2.drewN nn
          clear HF2 hb2
          generalize w2.drewN nn = wq at *
          go_wp2_with fail
          refine (rok_no _ (unhide HF3)).mono ?_; rintro e w4 ⟨rfl, hw4⟩
          replace hw4 := hw4.symm
          subst hw4
          have HTC2 := hide ((unhide HTC).below (hb3.below (B := R) (by omega) (fun i hi q => by omega)) hTR)
          have HBW2 := hide ((unhide HBW).trans ((hb3.below (B := R) (by omega) (fun i hi q => by omega)).mono (by omega)))
          obtain ⟨er, en, HEN, HRE, HFE⟩ : ∃ (er : Er) (en : Nat), Hid (en = eN er) ∧ Hid (Run f (0, []) (.err er)) ∧ Hid (Rf wq R en) := ⟨.text, 1, rfl, unhide HRE0, unhide HF3⟩
          clear HTC HBW HRE0
          have HTC := HTC2
          have HBW := HBW2
          clear HTC2 HBW2
          have ce := (unhide HFE).err
          have t0 := (unhide HTC).1
          have t1 := (unhide HTC).2.1 1 (by omega)
          have t2 := (unhide HTC).2.1 2 (by omega)
          have t3 := (unhide HTC).2.2.1 3 (by omega)
          have t4 := (unhide HTC).2.2.1 4 (by omega)
          have t5 := (unhide HTC).2.2.1 5 (by omega)
          have t6 := (unhide HTC).2.2.1 6 (by omega)
          have t7 := (unhide HTC).2.1 7 (by omega)
          have t8 := (unhide HTC).2.1 8 (by omega)
          have t9 := (unhide HTC).2.2.1 9 (by omega)
          have tf0 := (unhide HTC).2.2.2 0
          have tf1 := (unhide HTC).2.2.2 1
          have tf2 := (unhide HTC).2.2.2 2
          have tf3 := (unhide HTC).2.2.2 3
          have tf4 := (unhide HTC).2.2.2 4
          have tf5 := (unhide HTC).2.2.2 5
          have tf6 := (unhide HTC).2.2.2 6
          have tf7 := (unhide HTC).2.2.2 7
          have tf8 := (unhide HTC).2.2.2 8
          have tf9 := (unhide HTC).2.2.2 9
          have hTnR : ¬ T = R := by omega
          have hRnT : ¬ R = T := by omega
          go_wp2_with fail
          refine (rok_no _ (unhide HFE)).mono ?_; rintro e w9 ⟨rfl, hw9⟩
          replace hw9 := hw9.symm
          subst hw9
          go_wp2
          refine bodyPost_ret (v := .agg #[.string ⟨#[]⟩, .int .i64 0, .int .i64 (en : Nat), .slice none 0 0, .slice none 0 0, .slice none 0 0, .slice none 0 0, .int .i64 0, .int .i64 0, .slice none 0 0]) ?_ rfl ⟨.err er, ⟨slc none 0 0, slc none 0 0, slc none 0 0, slc none 0 0, slc none 0 0, 0, 0⟩, unhide HRE, by rw [unhide HEN]; rfl, ?_⟩
          · rw [results_cellT (p := 4) (ty := 40) (by kernel_rfl)]
            go_simp
          · exact (((((((((((unhide HBW).setCell (p := ⟨T, 0, none⟩) (by show w.heap.size ≤ T; omega) _).setCell (p := ⟨T, 1, none⟩) (by show w.heap.size ≤ T; omega) _).setCell (p := ⟨T, 2, none⟩) (by show w.heap.size ≤ T; omega) _).setCell (p := ⟨T, 3, none⟩) (by show w.heap.size ≤ T; omega) _).setCell (p := ⟨T, 4, none⟩) (by show w.heap.size ≤ T; omega) _).setCell (p := ⟨T, 5, none⟩) (by show w.heap.size ≤ T; omega) _).setCell (p := ⟨T, 6, none⟩) (by show w.heap.size ≤ T; omega) _).setCell (p := ⟨T, 7, none⟩) (by show w.heap.size ≤ T; omega) _).setCell (p := ⟨T, 8, none⟩) (by show w.heap.size ≤ T; omega) _).setCell (p := ⟨T, 9, none⟩) (by show w.heap.size ≤ T; omega) _)
        have HG2 := hide (rget_any 2 w2 hR2 (by omega))
        obtain ⟨x, hx⟩ : ∃ q, q = tv s / 2 ^ kN % 2 ^ 1 := ⟨_, rfl⟩
        have hx2 : x < 2 := by rw [hx]; exact Nat.mod_lt _ (by omega)
        rw [← hx]
        have HXE := hide hx
        clear HG1 hx
        go_wp2_with fail
        refine (unhide HG2).mono ?_
        rintro e w3 (⟨a2, rfl, hR3, hb3, hr3⟩ | ⟨a2, rfl, hF3, hb3⟩)
        rotate_left
        · have HRE0 : Hid (Run f (0, []) (.err .text)) := unhide HRUN _ (.done (by rw [unhide Hf]; unfold blockStep; rw [if_pos (by show ¬ kN + 3 ≤ _; omega)]))
          have HF3 := hide hF3
          have hb23 := hb2.trans hb3
          clear HG2 a2 hF3 HRUN HMW HMV HRr HWr hb2 hb3 hR2 HXE
          go_wp2_with fail
          refine (rok_no _ (unhide HF3)).mono ?_; rintro e w4 ⟨rfl, hw4⟩
          replace hw4 := hw4.symm
          subst hw4
          have HTC2 := hide ((unhide HTC).below (hb23.below (B := R) (by omega) (fun i hi q => by omega)) hTR)
          have HBW2 := hide ((unhide HBW).trans ((hb23.below (B := R) (by omega) (fun i hi q => by omega)).mono (by omega)))
          obtain ⟨er, en, HEN, HRE, HFE⟩ : ∃ (er : Er) (en : Nat), Hid (en = eN er) ∧ Hid (Run f (0, []) (.err er)) ∧ Hid (Rf w3 R en) := ⟨.text, 1, rfl, unhide HRE0, unhide HF3⟩
          clear HTC HBW HRE0
          have HTC := HTC2
          have HBW := HBW2
          clear HTC2 HBW2
          have ce := (unhide HFE).err
          have t0 := (unhide HTC).1
          have t1 := (unhide HTC).2.1 1 (by omega)
          have t2 := (unhide HTC).2.1 2 (by omega)
          have t3 := (unhide HTC).2.2.1 3 (by omega)
          have t4 := (unhide HTC).2.2.1 4 (by omega)
          have t5 := (unhide HTC).2.2.1 5 (by omega)
          have t6 := (unhide HTC).2.2.1 6 (by omega)
          have t7 := (unhide HTC).2.1 7 (by omega)
          have t8 := (unhide HTC).2.1 8 (by omega)
          have t9 := (unhide HTC).2.2.1 9 (by omega)
          have tf0 := (unhide HTC).2.2.2 0
          have tf1 := (unhide HTC).2.2.2 1
          have tf2 := (unhide HTC).2.2.2 2
          have tf3 := (unhide HTC).2.2.2 3
          have tf4 := (unhide HTC).2.2.2 4
          have tf5 := (unhide HTC).2.2.2 5
          have tf6 := (unhide HTC).2.2.2 6
          have tf7 := (unhide HTC).2.2.2 7
          have tf8 := (unhide HTC).2.2.2 8
          have tf9 := (unhide HTC).2.2.2 9
          have hTnR : ¬ T = R := by omega
          have hRnT : ¬ R = T := by omega
          go_wp2_with fail
          refine (rok_no _ (unhide HFE)).mono ?_; rintro e w9 ⟨rfl, hw9⟩
          replace hw9 := hw9.symm
          subst hw9
          go_wp2
          refine bodyPost_ret (v := .agg #[.string ⟨#[]⟩, .int .i64 0, .int .i64 (en : Nat), .slice none 0 0, .slice none 0 0, .slice none 0 0, .slice none 0 0, .int .i64 0, .int .i64 0, .slice none 0 0]) ?_ rfl ⟨.err er, ⟨slc none 0 0, slc none 0 0, slc none 0 0, slc none 0 0, slc none 0 0, 0, 0⟩, unhide HRE, by rw [unhide HEN]; rfl, ?_⟩
          · rw [results_cellT (p := 4) (ty := 40) (by kernel_rfl)]
            go_simp
          · exact (((((((((((unhide HBW).setCell (p := ⟨T, 0, none⟩) (by show w.heap.size ≤ T; omega) _).setCell (p := ⟨T, 1, none⟩) (by show w.heap.size ≤ T; omega) _).setCell (p := ⟨T, 2, none⟩) (by show w.heap.size ≤ T; omega) _).setCell (p := ⟨T, 3, none⟩) (by show w.heap.size ≤ T; omega) _).setCell (p := ⟨T, 4, none⟩) (by show w.heap.size ≤ T; omega) _).setCell (p := ⟨T, 5, none⟩) (by show w.heap.size ≤ T; omega) _).setCell (p := ⟨T, 6, none⟩) (by show w.heap.size ≤ T; omega) _).setCell (p := ⟨T, 7, none⟩) (by show w.heap.size ≤ T; omega) _).setCell (p := ⟨T, 8, none⟩) (by show w.heap.size ≤ T; omega) _).setCell (p := ⟨T, 9, none⟩) (by show w.heap.size ≤ T; omega) _)
        obtain ⟨kd, hkd⟩ : ∃ q, q = tv s / 2 ^ (kN + 1) % 2 ^ 2 := ⟨_, rfl⟩
        have hkd4 : kd < 4 := by rw [hkd]; exact Nat.mod_lt _ (by omega)
        rw [← hkd]
        rw [show kN + 1 + 2 = kN + 3 by omega] at hR3
        have HBS : Hid (f (kN, oN) = match blockOf (tv s) (8 * s.size) m kd (kN + 3) oN with
            | none => .done (.err .text)
            | some (.err e) => .done (.err e)
            | some (.ok k o) => if x = 1 then .done (.ok k o) else .more (k, o)) := by
          show _ = _
          rw [unhide Hf]
          unfold blockStep
          simp only
          rw [if_neg (by omega), ← hkd, ← unhide HXE]
          cases blockOf (tv s) (8 * s.size) m kd (kN + 3) oN with
          | none => rfl
          | some r => cases r <;> rfl
        have HEND : Hid (∀ (w' : World) (k' : Nat) (o' : List UInt8) (xe' : Ex), blockOf (tv s) (8 * s.size) m kd (kN + 3) oN = some (.ok k' o') → Rg w' R s k' o' m xe' → (x = 0 → ∀ r, Run f (k', o') r → Run f (0, []) r) ∧ (x ≠ 0 → Run f (0, []) (.ok k' o')) ∧ msr w' R (8 * s.size) < mw ∧ oN.length ≤ o'.length) := fun w' k' o' xe' hb hR' => by
          have hst := unhide HBS
          rw [hb] at hst
          have h3 := block_ok hb
          refine ⟨fun q r hr => unhide HRUN r (.more (s' := (k', o')) (by rw [hst]; simp [q]) hr), fun q => unhide HRUN _ (.done (by rw [hst]; simp [show x = 1 by omega])), ?_, h3.1⟩
          rw [hR'.msr, unhide HMV]
          have := hR'.within
          have := h3.2.2.1
          omega
        have HERR : Hid (∀ e, blockOf (tv s) (8 * s.size) m kd (kN + 3) oN = some (.err e) → Run f (0, []) (.err e)) := fun e hb => unhide HRUN _ (.done (by rw [unhide HBS, hb]))
        obtain ⟨y9, c9⟩ := hR3.counts 9 (by omega)
        obtain ⟨y10, c10⟩ := hR3.counts 10 (by omega)
        have f9 := hR3.free 9
        have f10 := hR3.free 10
        obtain ⟨z9, hz9⟩ : ∃ z, IntKind.i64.wrap (y9 + 1) = z := ⟨_, rfl⟩
        obtain ⟨hR3a, hr3a⟩ := hR3.count9 z9
        obtain ⟨hR4, hr4⟩ := hR3a.count10 (kd : Int)
        obtain ⟨xe4, hxe4⟩ : ∃ q : Ex, q = { xe with n9 := z9, n10 := (kd : Int) } := ⟨_, rfl⟩
        have hq4 : xe4.q ≤ oN.length := by rw [hxe4]; exact hqr
        rw [← hxe4] at hR4
        clear hxe4
        have hb4 : But (· = R) w3 ((w3.setCell ⟨R, 9, none⟩ (.int .i64 z9)).setCell ⟨R, 10, none⟩ (.int .i64 (kd : Int))) := ((But.refl (· = R) w3).setCell (p := ⟨R, 9, none⟩) rfl _).setCell (p := ⟨R, 10, none⟩) rfl _
        have hbx := hb2.trans (hb3.trans hb4)
        have hrx : Rw R wr _ := hr2.trans (hr3.trans (hr3a.trans hr4))
        have hk4 : KR R (fun _ => False) wr _ := KR.of hbx hrx
        have HW4 := hide ((unhide HWr).kr hk4 (fun q => q))
        have hbR4 := hbr.trans (hbx.below (B := R) (by omega) (fun i hi q => by omega))
        have HR3 := hide hR3
        have HR4 := hide hR4
        obtain ⟨w4, hw4⟩ : ∃ q, q = (w3.setCell ⟨R, 9, none⟩ (.int .i64 z9)).setCell ⟨R, 10, none⟩ (.int .i64 (kd : Int)) := ⟨_, rfl⟩
        rw [← hw4] at HR4 HW4 hbR4
        have hwe : (w3.setCell ⟨R, 9, none⟩ (.int .i64 z9)).setCell ⟨R, 10, none⟩ (.int .i64 (kd : Int)) = w4 := hw4.symm
        have hR4l := (unhide HR4).lt
        clear HG2 hkd hR2 hR3 hR3a hR4 hb2 hb3 hb4 hr2 hr3 hr3a hr4 hbx hrx hk4 HBS hw4 HRr HWr HXE a1 a2 HRUN HTC HBW
        go_wp2_with fail
        refine (rok_yes _ (unhide HR3)).mono ?_; rintro e w8 ⟨rfl, hw8⟩
        replace hw8 := hw8.symm
        subst hw8
        rcases (show kd = 0 ∨ kd = 1 ∨ kd = 2 ∨ kd = 3 by omega) with rfl | rfl | rfl | rfl
        · have hbo : blockOf (tv s) (8 * s.size) m 0 (kN + 3) oN = some (storedOf (tv s) (8 * s.size) m (kN + 3) oN) := rfl
          rw [hbo] at HEND HERR
          clear hbo
          have hwe2 : (w3.setCell ⟨R, 9, none⟩ (.int .i64 z9)).setCell ⟨R, 10, none⟩ (.int .i64 0) = w4 := hwe
          clear hwe
          have HSB := hide (rstored_any w4 (unhide HR4))
          go_wp2_with fail
          first | rw [hwe2] | skip
          clear hwe2
          refine (unhide HSB).mono ?_
          rintro e w9 ⟨rfl, ⟨k', o', hst, hR9, hk9⟩ | ⟨er, hst, hF9, hb9⟩⟩
          · obtain ⟨q1, q2, q3, q4⟩ := unhide HEND w9 k' o' xe4 (by rw [hst]) hR9
            have HR9 := hide hR9
            have hqe : xe4.q ≤ o'.length := by omega
            have HW9 := hide ((unhide HW4).kr hk9 (fun q => q))
            have hb9R : Below R W w9 := hbR4.trans (hk9.below (unhide HR4) (fun q h => h.elim))
            clear HSB hst hR9 hk9
            have Hq1 := hide q1
            have Hq2 := hide q2
            have Hq3 := hide q3
            clear q1 q2 q3 HEND HERR
            go_wp2
            go_roundw
            case rel =>
              first
              | exact ⟨x, rfl, hb9R, .inl ⟨k', o', xe4, HR9, hqe, HW9, Hq1, Hq2⟩⟩
              | (repeat apply Exists.intro
                 exact ⟨⟨x, rfl, hb9R, .inl ⟨k', o', xe4, HR9, hqe, HW9, Hq1, Hq2⟩⟩, rfl⟩)
            case measure => rw [← unhide HMW]; exact unhide Hq3
          · have HX := hide (unhide HERR er (by rw [hst]))
            have HF9 := hide hF9
            have hb9R : Below R W w9 := hbR4.trans hb9
            clear HSB hst hF9 hb9
            have hme : Hid (msr w9 R (8 * s.size) < mw) := by show _ < _; rw [(unhide HF9).msr, unhide HMV]; omega
            clear HEND HERR
            go_wp2
            go_roundw
            case rel =>
              first
              | exact ⟨x, rfl, hb9R, .inr ⟨er, HF9, HX⟩⟩
              | (repeat apply Exists.intro
                 exact ⟨⟨x, rfl, hb9R, .inr ⟨er, HF9, HX⟩⟩, rfl⟩)
            case measure => rw [← unhide HMW]; exact unhide hme
        · have hbo : blockOf (tv s) (8 * s.size) m 1 (kN + 3) oN = run (tokStep (tv s) (8 * s.size) m fixL 288 fixD 32) (kN + 3, oN) := rfl
          rw [hbo] at HEND HERR
          clear hbo
          have hwe2 : (w3.setCell ⟨R, 9, none⟩ (.int .i64 z9)).setCell ⟨R, 10, none⟩ (.int .i64 1) = w4 := hwe
          clear hwe
          go_wp2_with fail
          first | rw [hwe2] | skip
          clear hwe2
          refine (rfixed_any _).mono ?_; rintro e w5 ⟨gl, rfl, hA5, _, hb5⟩
          have HA5 := hide hA5
          have HCO := hide (codesOf_any (some ⟨gl, 0, none⟩) 288 288 (zl fixL) w5 (hA5.ints (by omega) (fun i _ => (fixL_le i).1)) (by omega) (fun i _ => by rw [nat_zl]; exact ⟨rfl, (fixL_le i).1⟩) (by rw [nat_zl, all_fixL]; omega))
          clear hA5
          go_wp2_with fail
          refine (unhide HCO).mono ?_; rintro e w6 ⟨gF, rfl, hown6, hb6⟩
          rw [nat_zl] at hown6
          have hb46 : Below w4.heap.size w4 w6 := hb5.trans (hb6.mono hb5.size)
          obtain ⟨hR6, hr6⟩ := (unhide HR4).still hb46
          have HR6 := hide hR6
          have hgF := hown6.lt gF rfl
          have hrow2 := (unhide HR4).row2
          have hrow11 := (unhide HR4).row11
          have hz5 := hb5.size
          have HA6 : Hid (Wz w6 R gF 288 fixL) := ⟨fun i hi => by rw [hown6.cellAt i (by omega), strVals_at _ _ _ hi], fun i _ => (fixL_le i).1, by omega, by rw [all_fixL]; omega, by omega, by rw [hr6.1]; omega, by rw [hr6.2]; omega, hgF.2⟩
          have HB6 := hide ((unhide HW4).kr (S := fun _ => False) (KR.of ((But.refl (· = R) w4).of_below hb46 (fun q h1 h2 => by omega)) hr6) (fun q => q))
          have hbR6 : Below R W w6 := hbR4.trans (hb46.mono (by omega))
          clear HCO HA5 hb5 hb6 hb46 hR6 hr6 hown6 hgF hrow2 hrow11 hz5
          have HWD := hide (rwords_any gF 288 fixL (R + 1) 32 fixD w6 (unhide HR6) hq4 (unhide HA6) (unhide HB6))
          go_wp2_with fail
          refine (unhide HWD).mono ?_
          rintro e w9 ⟨rfl, ⟨k', o', xe', hst, hR9, hqe, hk9, _⟩ | ⟨er, hst, hF9, hb9⟩⟩
          · obtain ⟨q1, q2, q3, _⟩ := unhide HEND w9 k' o' xe' (run_of hst) hR9
            have HR9 := hide hR9
            have HW9 := hide ((unhide HB6).kr hk9 (fun q => q))
            have hb9R : Below R W w9 := hbR6.trans (hk9.below (unhide HR6) (fun q h => h.elim))
            clear HWD hst hR9 hk9
            have Hq1 := hide q1
            have Hq2 := hide q2
            have Hq3 := hide q3
            clear q1 q2 q3 HEND HERR
            go_wp2
            go_roundw
            case rel =>
              first
              | exact ⟨x, rfl, hb9R, .inl ⟨k', o', xe', HR9, hqe, HW9, Hq1, Hq2⟩⟩
              | (repeat apply Exists.intro
                 exact ⟨⟨x, rfl, hb9R, .inl ⟨k', o', xe', HR9, hqe, HW9, Hq1, Hq2⟩⟩, rfl⟩)
            case measure => rw [← unhide HMW]; exact unhide Hq3
          · have HX := hide (unhide HERR er (run_of hst))
            have HF9 := hide hF9
            have hb9R : Below R W w9 := hbR6.trans hb9
            clear HWD hst hF9 hb9
            have hme : Hid (msr w9 R (8 * s.size) < mw) := by show _ < _; rw [(unhide HF9).msr, unhide HMV]; omega
            clear HEND HERR
            go_wp2
            go_roundw
            case rel =>
              first
              | exact ⟨x, rfl, hb9R, .inr ⟨er, HF9, HX⟩⟩
              | (repeat apply Exists.intro
                 exact ⟨⟨x, rfl, hb9R, .inr ⟨er, HF9, HX⟩⟩, rfl⟩)
            case measure => rw [← unhide HMW]; exact unhide hme
        · have hbo : blockOf (tv s) (8 * s.size) m 2 (kN + 3) oN = match dyn (tv s) (8 * s.size) (kN + 3) with
            | none => some (.err .text)
            | some (k', row, many) => run (tokStep (tv s) (8 * s.size) m (fun i => row.getD i 0) many (fun i => row.getD (many + i) 0) (row.length - many)) (k', oN) := rfl
          rw [hbo] at HEND HERR
          clear hbo
          have hwe2 : (w3.setCell ⟨R, 9, none⟩ (.int .i64 z9)).setCell ⟨R, 10, none⟩ (.int .i64 2) = w4 := hwe
          clear hwe
          have HDY := hide (rdynamic_any w4 (unhide HR4))
          go_wp2_with fail
          first | rw [hwe2] | skip
          clear hwe2
          refine (unhide HDY).mono ?_
          rintro e w5 (⟨k5, row, many, g1, g2, hdy, rfl, ⟨xe5, hD5, hL5⟩, hW1, hW2⟩ | ⟨hdy, v1, v2, rfl, hF5, hb5⟩)
          rotate_left
          · have HX := hide (unhide HERR .text (by rw [hdy]))
            have HF5 := hide hF5
            have hb5R := hbR4.trans (hb5.below (B := R) (by omega) (fun i hi q => by omega))
            clear HDY hdy hF5 hb5
            go_wp2_with fail
            refine (rwords_bad v1 v2 w5 (unhide HF5)).mono ?_; rintro e w9 ⟨rfl, hF9, hb9⟩
            have HF9 := hide hF9
            have hb9R : Below R W w9 := hb5R.trans hb9
            clear hF9 hb9 HF5
            have hme : Hid (msr w9 R (8 * s.size) < mw) := by show _ < _; rw [(unhide HF9).msr, unhide HMV]; omega
            clear HEND HERR
            go_wp2
            go_roundw
            case rel =>
              first
              | exact ⟨x, rfl, hb9R, .inr ⟨.text, HF9, HX⟩⟩
              | (repeat apply Exists.intro
                 exact ⟨⟨x, rfl, hb9R, .inr ⟨.text, HF9, HX⟩⟩, rfl⟩)
            case measure => rw [← unhide HMW]; exact unhide hme
          rw [hdy] at HEND HERR
          have HR5 := hide hD5.rg
          have hq5 : xe5.q ≤ oN.length := by
            obtain ⟨gL, cL, _, e, _⟩ := hL5.row
            rw [e]; exact hq4
          clear hL5
          have HA5 := hide hW1
          have HB5 := hide hW2
          have hk5 : KR R (fun _ => False) w4 w5 := KR.of hD5.but hD5.rw
          have HW5 := hide ((unhide HW4).kr hk5 (fun q => q))
          have hbR5 : Below R W w5 := hbR4.trans (hk5.below (unhide HR4) (fun q h => h.elim))
          clear HDY hdy hD5 hW1 hW2 hk5
          have HWD := hide (rwords_any g1 many _ g2 (row.length - many) _ w5 (unhide HR5) hq5 (unhide HA5) (unhide HB5))
          go_wp2_with fail
          refine (unhide HWD).mono ?_
          rintro e w9 ⟨rfl, ⟨k', o', xe', hst, hR9, hqe, hk9, _⟩ | ⟨er, hst, hF9, hb9⟩⟩
          · obtain ⟨q1, q2, q3, _⟩ := unhide HEND w9 k' o' xe' (run_of hst) hR9
            have HR9 := hide hR9
            have HW9 := hide ((unhide HW5).kr hk9 (fun q => q))
            have hb9R : Below R W w9 := hbR5.trans (hk9.below (unhide HR5) (fun q h => h.elim))
            clear HWD hst hR9 hk9
            have Hq1 := hide q1
            have Hq2 := hide q2
            have Hq3 := hide q3
            clear q1 q2 q3 HEND HERR
            go_wp2
            go_roundw
            case rel =>
              first
              | exact ⟨x, rfl, hb9R, .inl ⟨k', o', xe', HR9, hqe, HW9, Hq1, Hq2⟩⟩
              | (repeat apply Exists.intro
                 exact ⟨⟨x, rfl, hb9R, .inl ⟨k', o', xe', HR9, hqe, HW9, Hq1, Hq2⟩⟩, rfl⟩)
            case measure => rw [← unhide HMW]; exact unhide Hq3
          · have HX := hide (unhide HERR er (run_of hst))
            have HF9 := hide hF9
            have hb9R : Below R W w9 := hbR5.trans hb9
            clear HWD hst hF9 hb9
            have hme : Hid (msr w9 R (8 * s.size) < mw) := by show _ < _; rw [(unhide HF9).msr, unhide HMV]; omega
            clear HEND HERR
            go_wp2
            go_roundw
            case rel =>
              first
              | exact ⟨x, rfl, hb9R, .inr ⟨er, HF9, HX⟩⟩
              | (repeat apply Exists.intro
                 exact ⟨⟨x, rfl, hb9R, .inr ⟨er, HF9, HX⟩⟩, rfl⟩)
            case measure => rw [← unhide HMW]; exact unhide hme
        · have HX := hide (unhide HERR .text rfl)
          have hwe2 : (w3.setCell ⟨R, 9, none⟩ (.int .i64 z9)).setCell ⟨R, 10, none⟩ (.int .i64 3) = w4 := hwe
          clear hwe
          have HFL := hide (rfail_new 1 w4 (unhide HR4) (.inl rfl))
          go_wp2_with fail
          first | rw [hwe2] | skip
          clear hwe2
          refine (unhide HFL).mono ?_; rintro e w9 ⟨rfl, hF9, hb9⟩
          have HF9 := hide hF9
          have hb9R := hbR4.trans (hb9.below (B := R) (by omega) (fun i hi q => by omega))
          clear HFL hF9 hb9
          have hme : Hid (msr w9 R (8 * s.size) < mw) := by show _ < _; rw [(unhide HF9).msr, unhide HMV]; omega
          clear HEND HERR
          go_wp2
          go_roundw
          case rel =>
            first
            | exact ⟨x, rfl, hb9R, .inr ⟨.text, HF9, HX⟩⟩
            | (repeat apply Exists.intro
               exact ⟨⟨x, rfl, hb9R, .inr ⟨.text, HF9, HX⟩⟩, rfl⟩)
          case measure => rw [← unhide HMW]; exact unhide hme
end Go.Proofs.YtfeljhikeddodadGreatDoor
