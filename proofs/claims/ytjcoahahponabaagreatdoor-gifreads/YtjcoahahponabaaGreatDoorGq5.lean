/- Moving pictures: the document's text of frames, walked. Written by gengq5.py. -/
import Derived.Test.YtjcoahahponabaaGreatDoorMh27
namespace Go.Proofs.YtjcoahahponabaaGreatDoor
open Go.RowKit Lz Ps

set_option maxHeartbeats 16000000 in
set_option maxRecDepth 100000 in
theorem gifOf_any (s : Option Addr) (n c : Nat) (loops : Int) (V : Nat → FrV) (w : World) (hR : IsRw w 4 s n (fun i => (V i).cells)) (hV : ∀ i, i < n → (V i).in w) (hZ : ∀ i, i < n → (V i).f.n ≤ 3000) :
    Calls Tryz.prog 27 #[.slice s n c, .int .i64 loops] w fun e w' => GoA V n loops e ∧ Below w.heap.size w w' := by
  have HW0 := hide (FG.start w)
  have HBd := hide (fun wr (hb : Below w.heap.size w wr) => boundsOf_any s n c loops V wr (hR.below hb))
  have HRW := hide (fun wr (hb : Below w.heap.size w wr) => hR.below hb)
  have HVW := hide (fun wr (hb : Below w.heap.size w wr) i (hi : i < n) => (hV i hi).below hb)
  have HZ := hide hZ
  have HBY := hide (fun z w => byteW_any z w)
  have HLI := hide (fun z w => littleW_any z w)
  clear hR hV hZ
  obtain ⟨gf, hgf⟩ : ∃ q, q = w.heap.size := ⟨_, rfl⟩
  go_enter Tryz.func27, Tryz.ntmps27
  go_wp2_with fail
  generalize w.alloc (.cells #[.int .i64 0, .int .i64 0] 34) = w1 at *
  rw [← hgf] at HW0 ⊢
  have HBw : Hid (∀ wr, FG w wr gf → Below w.heap.size w wr) := fun wr h => h.low
  clear hgf
  refine (unhide HBd w1 (unhide HW0).low).mono ?_
  rintro e w2 ⟨rfl, hb2⟩
  have HW := hide ((unhide HW0).below hb2)
  clear HW0 hb2 HBd
  by_cases hP : fewP n (V 0).f ∧ 0 ≤ loops ∧ loops ≤ 65535
  rotate_left
  · rw [show bdE n (V 0).f loops = 2 from if_neg hP]
    have HRes : Hid (GoA V n loops (.returned (.tuple #[.string ⟨#[]⟩, .agg #[.int .i64 2, .int .i64 (-1)]]))) := .inl ⟨hP, rfl⟩
    clear hP HRW HVW HZ
    have HX := hide (fun w => gbare_any 2 w)
    go_wp2_with fail
    refine (unhide HX _).mono ?_
    rintro e w3 ⟨rfl, hb3⟩
    have HW := hide ((unhide HW).below hb3)
    clear HX hb3
    have f0 := (unhide HW).f0
    have f1 := (unhide HW).f1
    have z0 := (unhide HW).z0
    have z1 := (unhide HW).z1
    have HF := hide ((unhide HW).fin (.int .i64 2) (.int .i64 (-1)))
    go_wp2
    refine bodyPost_ret (v := .tuple #[.string ⟨#[]⟩, .agg #[.int .i64 2, .int .i64 (-1)]]) ?_ rfl ⟨unhide HRes, unhide HF⟩
    rw [results_tc (u := 4) (p := 5) (ty := 34) (by kernel_rfl)]
    go_simp
  rw [show bdE n (V 0).f loops = 0 from if_pos hP]
  obtain ⟨lp, rfl⟩ := Int.eq_ofNat_of_zero_le hP.2.1
  have hlp : lp < 65536 := by omega
  have hn1 : 1 ≤ n ∧ n ≤ 16 := hP.1.1
  have hni : (0 : Int) < (n : Int) := by omega
  have hnp : 0 < n := by omega
  have hnz : (n == 0) = false := beq_eq_false_iff_ne.2 (by omega)
  have HP := hide hP
  clear hP
  have HRel : Hid (∀ wr, FG w wr gf → IsRw wr 4 s n (fun i => (V i).cells)) := fun wr h => unhide HRW wr h.low
  obtain ⟨b, off, rfl, _, hc⟩ := (unhide HRel w2 (unhide HW)).resolve_left (by omega)
  have HC : Hid (∀ wr, FG w wr gf → ∀ i, i < n → ∀ (j : Nat) (u : Value), (V i).cells[j]? = some u → wr.cell? ⟨b, off + i * 4 + j, none⟩ = some u) := fun wr h i hi j u hu => by
    rcases unhide HRel wr h with q | ⟨b2, off2, e, _, hc2⟩
    · omega
    · injection e with e
      injection e with e1 e2
      subst e1 e2
      exact hc2 i hi j u hu
  have y0 : w2.cell? ⟨b, off, none⟩ = some (.int .i64 (V 0).f.W) := by have := unhide HC w2 (unhide HW) 0 hnp 0 _ rfl; simpa using this
  have y1 : w2.cell? ⟨b, off + 1, none⟩ = some (.int .i64 (V 0).f.H) := by have := unhide HC w2 (unhide HW) 0 hnp 1 _ rfl; simpa using this
  have hlb := World.block_lt_of_cell? _ _ y0
  simp only at hlb
  have HL := hide hlb
  have p0 : ∀ P : BelowOf w2.heap.size w2, P.wld.cell? ⟨b, off, none⟩ = some (.int .i64 (V 0).f.W) := fun P => bcell P.prf hlb y0
  have p1 : ∀ P : BelowOf w2.heap.size w2, P.wld.cell? ⟨b, off + 1, none⟩ = some (.int .i64 (V 0).f.H) := fun P => bcell P.prf hlb y1
  obtain ⟨W0, hW0⟩ : ∃ x, x = (V 0).f.W := ⟨_, rfl⟩
  obtain ⟨H0, hH0⟩ : ∃ x, x = (V 0).f.H := ⟨_, rfl⟩
  rw [← hW0] at p0
  rw [← hH0] at p1
  have HW00 := hide hW0
  have HH00 := hide hH0
  clear hc y0 y1 hlb hW0 hH0
  go_upto_region 4 with fail
  have m0 : ¬ (9223372036854775807 < 6 + (liV W0).size) := by have := liV_size W0; omega
  have m1 : ¬ (9223372036854775807 < 6 + (liV W0).size + (liV H0).size) := by have := liV_size W0; have := liV_size H0; omega
  have m2 : ¬ (9223372036854775807 < 6 + (liV W0).size + (liV H0).size + (byV 112).size) := by have := liV_size W0; have := liV_size H0; have := byV_size 112; omega
  have m3 : ¬ (9223372036854775807 < 6 + (liV W0).size + (liV H0).size + (byV 112).size + (byV 0).size) := by have := liV_size W0; have := liV_size H0; have := byV_size 112; have := byV_size 0; omega
  have m4 : ¬ (9223372036854775807 < 6 + (liV W0).size + (liV H0).size + (byV 112).size + (byV 0).size + (byV 0).size) := by have := liV_size W0; have := liV_size H0; have := byV_size 112; have := byV_size 0; omega
  have HT : Hid (((⟨#[71, 73, 70, 56, 57, 97]⟩ : ByteArray) ++ liV W0 ++ liV H0 ++ byV 112 ++ byV 0 ++ byV 0).data.toList = [71, 73, 70, 56, 57, 97] ++ ((liV W0).data.toList ++ ((liV H0).data.toList ++ [112, 0, 0]))) := by show _ = _; simp only [ByteArray.data_append, Array.toList_append, byV_lit112, byV_lit0]; simp
  have HS : Hid (((⟨#[71, 73, 70, 56, 57, 97]⟩ : ByteArray) ++ liV W0 ++ liV H0 ++ byV 112 ++ byV 0 ++ byV 0).size = 13) := by show _ = _; simp only [ByteArray.size_append, byV_size, liV_size]; rfl
  haveI : Nonempty (BelowOf w2.heap.size w2) := ⟨⟨w2, Below.refl _ _⟩⟩
  refine region_below w2.heap.size w2 (Below.refl _ _) (by kernel_rfl) ?_
  repeat (quiet_step ((first | (go_at_call 63; with_reducible exact Calls.below_of (Nat.le_refl _) (unhide HBY _ _)) | (go_at_call 62; with_reducible exact Calls.below_of (Nat.le_refl _) (unhide HLI _ _)))))
  refine wpQuiet_nil ?_
  intro wq hw'
  obtain ⟨pw, hpw⟩ := hw'
  have hwq := pw.prf
  rw [← hpw] at hwq
  clear hpw
  have HW := hide ((unhide HW).below hwq)
  clear p0 p1 hwq m0 m1 m2 m3 m4
  generalize (⟨#[71, 73, 70, 56, 57, 97]⟩ : ByteArray) ++ liV W0 ++ liV H0 ++ byV 112 ++ byV 0 ++ byV 0 = ot at *
  have HTz : Hid (∃ o2 : ByteArray, o2.data.toList = gifB V n lp ∧ o2.size ≤ 40) := by
    refine ⟨⟨(gifB V n lp).toArray⟩, by simp, ?_⟩
    show (gifB V n lp).toArray.size ≤ 40
    have h1 := unhide HT
    have h2 := congrArg List.length h1
    rw [Array.length_toList, show ot.data.size = ot.size from rfl, unhide HS] at h2
    rw [List.size_toArray]
    unfold gifB
    rw [← unhide HW00, ← unhide HH00, ← h1, List.length_append, Array.length_toList, show ot.data.size = ot.size from rfl, unhide HS]
    split <;> simp [loopL, pairL]
  clear HTz
  have z1 : ot.size = 13 := unhide HS
  have HL2 : Hid (1 < n → (ot ++ byV 33 ++ byV 255 ++ byV 11 ++ (⟨#[78, 69, 84, 83, 67, 65, 80, 69, 50, 46, 48]⟩ : ByteArray) ++ byV 3 ++ byV 1 ++ liV (lp : Int) ++ byV 0).data.toList = gifB V n lp ∧ (ot ++ byV 33 ++ byV 255 ++ byV 11 ++ (⟨#[78, 69, 84, 83, 67, 65, 80, 69, 50, 46, 48]⟩ : ByteArray) ++ byV 3 ++ byV 1 ++ liV (lp : Int) ++ byV 0).size = 32) := fun h => by
    refine ⟨?_, ?_⟩
    · unfold gifB loopL
      rw [if_pos h, ← unhide HW00, ← unhide HH00, ← unhide HT]
      simp only [ByteArray.data_append, Array.toList_append, byV_lit33, byV_lit255, byV_lit11, byV_lit3, byV_lit1, byV_lit0, liV_nat lp hlp]
      simp
    · simp only [ByteArray.size_append, byV_size, liV_size, z1]
      rfl
  have HL1 : Hid (¬ 1 < n → ot.data.toList = gifB V n lp) := fun h => by
    unfold gifB
    rw [if_neg h, ← unhide HW00, ← unhide HH00, unhide HT, List.append_nil]
  have HOT := hide z1
  clear HT HS HW00 HH00 z1
  go_upto_if 53 with fail
  go_cut [7] from 51 to 70 (fun v wz => ∃ o2 : ByteArray, v = .string o2 ∧ Hid (o2.data.toList = gifB V n lp) ∧ o2.size ≤ 40 ∧ Hid (FG w wz gf))
  case first =>
    by_cases h1 : 1 < n
    · have d1 : decide ((1 : Int) < (n : Int)) = true := decide_eq_true (by omega)
      have d1n : decide (1 < n) = true := decide_eq_true h1
      have h1i : (1 : Int) < (n : Int) := by omega
      have HX1 := hide (unhide HL2 h1).1
      have HX2 := hide (unhide HL2 h1).2
      have zt := unhide HOT
      have n0 : ¬ (9223372036854775807 < ot.size + (byV 33).size) := by have := byV_size 33; omega
      have n1 : ¬ (9223372036854775807 < ot.size + (byV 33).size + (byV 255).size) := by have := byV_size 33; have := byV_size 255; omega
      have n2 : ¬ (9223372036854775807 < ot.size + (byV 33).size + (byV 255).size + (byV 11).size) := by have := byV_size 33; have := byV_size 255; have := byV_size 11; omega
      have n3 : ¬ (9223372036854775807 < ot.size + (byV 33).size + (byV 255).size + (byV 11).size + 11) := by have := byV_size 33; have := byV_size 255; have := byV_size 11; omega
      have n4 : ¬ (9223372036854775807 < ot.size + (byV 33).size + (byV 255).size + (byV 11).size + 11 + (byV 3).size) := by have := byV_size 33; have := byV_size 255; have := byV_size 11; have := byV_size 3; omega
      have n5 : ¬ (9223372036854775807 < ot.size + (byV 33).size + (byV 255).size + (byV 11).size + 11 + (byV 3).size + (byV 1).size) := by have := byV_size 33; have := byV_size 255; have := byV_size 11; have := byV_size 3; have := byV_size 1; omega
      have n6 : ¬ (9223372036854775807 < ot.size + (byV 33).size + (byV 255).size + (byV 11).size + 11 + (byV 3).size + (byV 1).size + (liV (lp : Int)).size) := by have := byV_size 33; have := byV_size 255; have := byV_size 11; have := byV_size 3; have := byV_size 1; have := liV_size (lp : Int); omega
      have n7 : ¬ (9223372036854775807 < ot.size + (byV 33).size + (byV 255).size + (byV 11).size + 11 + (byV 3).size + (byV 1).size + (liV (lp : Int)).size + (byV 0).size) := by have := byV_size 33; have := byV_size 255; have := byV_size 11; have := byV_size 3; have := byV_size 1; have := liV_size (lp : Int); have := byV_size 0; omega
      clear zt HL1 HL2 h1
      go_wp2_with fail
      refine (unhide HBY _ _).mono ?_
      rintro e w30 ⟨rfl, hb6⟩
      have HW := hide ((unhide HW).below hb6)
      clear hb6
      go_wp2_with fail
      refine (unhide HBY _ _).mono ?_
      rintro e w31 ⟨rfl, hb6⟩
      have HW := hide ((unhide HW).below hb6)
      clear hb6
      go_wp2_with fail
      refine (unhide HBY _ _).mono ?_
      rintro e w32 ⟨rfl, hb6⟩
      have HW := hide ((unhide HW).below hb6)
      clear hb6
      go_wp2_with fail
      refine (unhide HBY _ _).mono ?_
      rintro e w33 ⟨rfl, hb6⟩
      have HW := hide ((unhide HW).below hb6)
      clear hb6
      go_wp2_with fail
      refine (unhide HBY _ _).mono ?_
      rintro e w34 ⟨rfl, hb6⟩
      have HW := hide ((unhide HW).below hb6)
      clear hb6
      go_wp2_with fail
      refine (unhide HLI _ _).mono ?_
      rintro e w35 ⟨rfl, hb6⟩
      have HW := hide ((unhide HW).below hb6)
      clear hb6
      go_wp2_with fail
      refine (unhide HBY _ _).mono ?_
      rintro e w36 ⟨rfl, hb6⟩
      have HW := hide ((unhide HW).below hb6)
      clear hb6
      go_wp2
      go_meet
      case rel => exact ⟨_, rfl, unhide HX1, by rw [unhide HX2]; omega, HW⟩
    · have d1 : decide ((1 : Int) < (n : Int)) = false := decide_eq_false (by omega)
      have d1n : decide (1 < n) = false := decide_eq_false h1
      have h1i : ¬ (1 : Int) < (n : Int) := by omega
      have HX1 := hide (unhide HL1 h1)
      have zt := unhide HOT
      have zl : ot.size ≤ 40 := by omega
      clear HL1 HL2 h1 zt
      go_wp2
      go_meet
      case rel => exact ⟨_, rfl, HX1, zl, HW⟩
  case rest =>
    obtain ⟨o0, rfl, HO, hoz, HW⟩ := hcut
    clear HL1 HL2 HOT
    go_wp2
    go_loopw [4, 7, 8] (fun rv ov iv wr => ∃ (i : Nat) (o : ByteArray), i ≤ n ∧ rv = .string ⟨#[]⟩ ∧ iv = .int .i64 (i : Int) ∧ ov = .string o ∧ Hid (∀ j, j < i → frE (V j).f (V 0).f = 0) ∧ Hid (o.data.toList = gifB V n lp ++ frsL (tfsF V i)) ∧ o.size ≤ 100 + i * 40000 ∧ Hid (FG w wr gf)) (fun _ _ iv _ => n - (intOf iv).toNat)
    case atStart => exact ⟨0, o0, by omega, rfl, rfl, rfl, fun j hj => absurd hj (Nat.not_lt_zero j), by show _ = _; rw [unhide HO]; exact (List.append_nil _).symm, by omega, HW⟩
    case round =>
      clear HW HO hoz
      obtain ⟨i, o, hi, rfl, rfl, rfl, HE, HO, hos, HW⟩ := hrel
      by_cases hlt : i < n
      · have d1 : decide ((i : Int) < (n : Int)) = true := decide_eq_true (by omega)
        have d1n : decide (i < n) = true := decide_eq_true hlt
        have hii : (i : Int) < (n : Int) := by omega
        have HFE := hide (frameError_any (some ⟨b, off, none⟩) n c i V wr (unhide HRW wr (unhide HW).low) hlt (by omega))
        go_wp2_with fail
        refine (unhide HFE).mono ?_
        rintro e w3 ⟨rfl, hb3⟩
        have HW := hide ((unhide HW).below hb3)
        clear HFE hb3
        by_cases hch : chE (V i).f (V 0).f = 0
        rotate_left
        · have HRes : Hid (GoA V n (lp : Int) (.returned (.tuple #[.string ⟨#[]⟩, .agg #[.int .i64 (chE (V i).f (V 0).f : Int), .int .i64 (i : Int)]]))) := .inr (.inl ⟨unhide HP, i, hlt, unhide HE, by rw [ge_ch hch]; exact hch, by rw [ge_ch hch]⟩)
          generalize chE (V i).f (V 0).f = ce at *
          have g1 : ((ce : Int) == 0) = false := beq_eq_false_iff_ne.2 (by omega)
          have g2 : decide ((0 : Int) < (ce : Int)) = true := decide_eq_true (by omega)
          have g2n : decide (0 < ce) = true := decide_eq_true (by omega)
          have g3 : (0 : Int) < (ce : Int) := by omega
          have g4 : 0 < ce := by omega
          have g5 : (ce == 0) = false := beq_eq_false_iff_ne.2 (by omega)
          clear hch HRW HVW HZ HC HBY HLI HE HO hos d1 d1n hii hi hlt hnz hni hnp hn1 hlp HP HBw
          as_aux_lemma =>
            have f0 := (unhide HW).f0
            have f1 := (unhide HW).f1
            have z0 := (unhide HW).z0
            have z1 := (unhide HW).z1
            have HF := hide ((unhide HW).fin (.int .i64 (ce : Int)) (.int .i64 (i : Int)))
            go_wp2
            refine bodyPost_ret (v := .tuple #[.string ⟨#[]⟩, .agg #[.int .i64 (ce : Int), .int .i64 (i : Int)]]) ?_ rfl ⟨unhide HRes, unhide HF⟩
            rw [results_tc (u := 4) (p := 5) (ty := 34) (by kernel_rfl)]
            go_simp
        have hce : ((chE (V i).f (V 0).f : Nat) : Int) = 0 := by rw [hch]; rfl
        rw [hce]
        obtain ⟨⟨hRt, hSW, hSH⟩, hD⟩ := chE_zero hch
        have hrn := right_few hRt
        have h3000 := unhide HZ i hlt
        have hV3 := unhide HVW w3 (unhide HW).low i hlt
        have HCO := hide (colorsOK_any (V i).f.W (V i).f.H (V i).a (V i).f.n (V i).c (V i).f.q w3 hV3 hrn.2 (by omega))
        have HCL := hide (fun wr (h : FG w wr gf) => clean_any (V i).f.W (V i).f.H (V i).a (V i).f.n (V i).c (V i).f.q wr (unhide HVW wr h.low i hlt) hrn.2 (by omega))
        have HCI := hide (fun wr (h : FG w wr gf) => unhide HC wr h i hlt)
        have HGO := hide (ge_ok hch)
        have HGC := hide (ge_col hch)
        have HTK := hide (fun (h : frE (V i).f (V 0).f = 0) => frL_le (V i).f.tf (tfOk_of h))
        have HTF : Hid ((V i).f.tf = ⟨(V i).f.W.toNat, (V i).f.H.toNat, (V i).f.d.toNat, ulk (clQ (V i).f.q) (V i).f.n, nmL (clQ (V i).f.q) (V i).f.n⟩) := rfl
        have HFL : Hid (frsL (tfsF V (i + 1)) = frsL (tfsF V i) ++ frL (V i).f.tf) := by
          show _ = _
          unfold tfsF
          rw [List.range_succ, List.map_append, frsL_app]
          simp [frsL]
        obtain ⟨fW, hfW⟩ := Int.eq_ofNat_of_zero_le (show 0 ≤ (V i).f.W by have := hRt.1; omega)
        obtain ⟨fH, hfH⟩ := Int.eq_ofNat_of_zero_le (show 0 ≤ (V i).f.H by have := hRt.2.1; omega)
        obtain ⟨fd, hfd⟩ := Int.eq_ofNat_of_zero_le hD.1
        have hWb : fW ≤ 256 := by have := hRt.1; omega
        have hHb : fH ≤ 256 := by have := hRt.2.1; omega
        have hdb : fd ≤ 65535 := by omega
        have hNP : 1 ≤ (V i).f.n := hrn.2
        have HCF : Hid (∀ wr, FG w wr gf → wr.cell? ⟨b, off + i * 4, none⟩ = some (.int .i64 (fW : Int)) ∧ wr.cell? ⟨b, off + i * 4 + 1, none⟩ = some (.int .i64 (fH : Int)) ∧ wr.cell? ⟨b, off + i * 4 + 2, none⟩ = some (.slice (V i).a (V i).f.n (V i).c) ∧ wr.cell? ⟨b, off + i * 4 + 3, none⟩ = some (.int .i64 (fd : Int))) := fun wr h => by
          rw [← hfW, ← hfH, ← hfd]
          exact ⟨unhide HCI wr h 0 _ rfl, unhide HCI wr h 1 _ rfl, unhide HCI wr h 2 _ rfl, unhide HCI wr h 3 _ rfl⟩
        rw [hfW, hfH, hfd] at HTF
        rw [hfW, hfH] at HCO HCL
        simp only [Int.toNat_natCast] at HTF
        clear hV3 hRt hSW hSH hD hrn hch hce HCI hfW hfH hfd
        generalize (V i).f.tf = T at *
        generalize (V i).f.n = fn at *
        generalize (V i).f.q = fq at *
        generalize (V i).a = fa at *
        generalize (V i).c = fc at *
        obtain ⟨x0, x1, x2, _⟩ := unhide HCF w3 (unhide HW)
        go_wp2_with fail
        refine (unhide HCO).mono ?_
        rintro e w4 ⟨rfl, hb4⟩
        have HW := hide ((unhide HW).below hb4)
        clear HCO hb4 x0 x1 x2
        by_cases hco : AN fq fn ∧ (ulk (clQ fq) fn).length ≤ 256
        rotate_left
        · have HRes : Hid (GoA V n (lp : Int) (.returned (.tuple #[.string ⟨#[]⟩, .agg #[.int .i64 7, .int .i64 (i : Int)]]))) := .inr (.inl ⟨unhide HP, i, hlt, unhide HE, by rw [unhide HGC hco]; omega, by rw [unhide HGC hco]; rfl⟩)
          rw [decide_eq_false hco]
          clear hco HRW HVW HZ HC HBY HLI HGO HGC HFL HTF HCL HCF HTK HE HO hos d1 d1n hii hi hlt hnz hni hnp hn1 hlp HP HBw hWb hHb hdb hNP h3000
          as_aux_lemma =>
            have f0 := (unhide HW).f0
            have f1 := (unhide HW).f1
            have z0 := (unhide HW).z0
            have z1 := (unhide HW).z1
            have HF := hide ((unhide HW).fin (.int .i64 7) (.int .i64 (i : Int)))
            go_wp2
            refine bodyPost_ret (v := .tuple #[.string ⟨#[]⟩, .agg #[.int .i64 7, .int .i64 (i : Int)]]) ?_ rfl ⟨unhide HRes, unhide HF⟩
            rw [results_tc (u := 4) (p := 5) (ty := 34) (by kernel_rfl)]
            go_simp
        rw [decide_eq_true hco]
        have HG0 := hide (unhide HGO hco)
        have HCl := hide (unhide HCL w4 (unhide HW))
        obtain ⟨x0, x1, x2, _⟩ := unhide HCF w4 (unhide HW)
        have hU256 := hco.2
        have hUnd := hide (ulk_nodup (clQ fq) fn)
        have hUcl := hide (fun c h => mem_clQ (q := fq) (n := fn) (c := c) h)
        have hU1 := ulk_one (clQ fq) hNP
        have hNl := nmL_length (clQ fq) fn
        have HNlt := hide (nmL_lt (clQ fq) fn)
        have HULK := hide (fun W H a c w hP => unlike_any W H a fn c (clQ fq) w hP (by omega))
        clear HGO HGC HCL hco
        go_wp2_with fail
        refine (unhide HCl).mono ?_
        rintro e w5 ⟨g, c2, rfl, hg, hpr, hb5⟩
        have HW := hide ((unhide HW).below hb5)
        have hpx := hpr.isPx (by omega)
        have HA := hide (al1 w5 (.cells #[.int .i64 (fW : Int), .int .i64 (fH : Int), .slice (some ⟨g, 0, none⟩) fn c2] 27))
        have HPX := hide (fun wr (h : Below w5.heap.size w5 wr) => hpx.below h)
        clear HCl hb5 hpr hpx hg x0 x1 x2
        go_upto_region 16 with fail
        generalize w5.alloc (.cells #[.int .i64 (fW : Int), .int .i64 (fH : Int), .slice (some ⟨g, 0, none⟩) fn c2] 27) = w6 at *
        obtain ⟨hs6, k6, hb6⟩ := unhide HA
        obtain ⟨G, hG⟩ : ∃ G, G = w5.heap.size := ⟨_, rfl⟩
        have HW := hide ((unhide HW).below hb6)
        have HUn := hide (unhide HULK (fW : Int) (fH : Int) (some ⟨g, 0, none⟩) c2 w6 (unhide HPX w6 hb6))
        rw [← hG] at k6 ⊢
        have q0 : w6.cell? ⟨G, 0, none⟩ = some (.int .i64 (fW : Int)) := blk_cell k6 0
        have q1 : w6.cell? ⟨G, 1, none⟩ = some (.int .i64 (fH : Int)) := blk_cell k6 1
        have q2 : w6.cell? ⟨G, 2, none⟩ = some (.slice (some ⟨g, 0, none⟩) fn c2) := blk_cell k6 2
        have hlG : G < w6.heap.size := by omega
        have K6 := hide k6
        clear HA HULK HPX hs6 k6 hb6 hG
        go_wp2_with fail
        refine (unhide HUn).mono ?_
        rintro e w7 ⟨a1, c1, a2, c3, rfl, ⟨hown1, hown2⟩, hb7⟩
        have HW := hide ((unhide HW).below hb7)
        have K7 := hide (blk_below (unhide K6) hb7 hlG)
        have HPU := hide (own_px (p := fun i => (ulk (clQ fq) fn).getD i default) (pxL_vals (ulk (clQ fq) fn) ▸ hown1) (by unfold maxLen; omega))
        have HNM := hide (own_nm hown2 hNl (by omega))
        clear HUn K6 hown1 hown2 hb7 q0 q1 q2 hlG
        generalize ulk (clQ fq) fn = U at *
        generalize nmL (clQ fq) fn = N at *
        obtain ⟨K, hK⟩ : ∃ K, K = U.length := ⟨_, rfl⟩
        rw [← hK] at HPU hU256 hU1 HNlt ⊢
        have HK := hide hK
        clear hK
        go_wp2
        go_loopw [13, 14] (fun cv kv wr => ∃ k : Nat, k ≤ K ∧ kv = .int .i64 (k : Int) ∧ cv = .int .i64 (clI U k) ∧ wr = w7) (fun _ kv _ => K - (intOf kv).toNat)
        case atStart => exact ⟨0, by omega, rfl, by rw [clI_zero], rfl⟩
        case round =>
          obtain ⟨k, hk, rfl, rfl, rfl⟩ := hrel
          by_cases hkl : k < K
          · have d2 : decide ((k : Int) < (K : Int)) = true := decide_eq_true (by omega)
            have d2n : decide (k < K) = true := decide_eq_true hkl
            have hkI : (k : Int) < (K : Int) := by omega
            obtain ⟨b2, off2, rfl, _, hc2⟩ := (unhide HPU).resolve_left (by omega)
            have x3 := (hc2 k hkl).a
            have HZ0 : Hid ((U.getD k default).a.toNat = 0 → clI U (k + 1) = (k : Int)) := fun h => clI_hit (unhide hUnd) (by rw [← unhide HK]; exact hkl) (unhide hUcl _ (by rw [List.getD_eq_getElem?_getD, List.getElem?_eq_getElem (by rw [← unhide HK]; exact hkl)]; exact List.getElem_mem _) (u8_eq0 h))
            have HZ1 : Hid (¬ (U.getD k default).a.toNat = 0 → clI U (k + 1) = clI U k) := fun h => clI_miss (by rw [← unhide HK]; exact hkl) (fun e => h (by rw [e]; rfl))
            generalize (U.getD k default).a.toNat = z at *
            generalize clI U k = cz at *
            clear hc2
            by_cases h0 : z = 0
            · have HN := hide (unhide HZ0 h0)
              subst h0
              clear HZ0 HZ1
              go_wp2
              go_roundw
              case rel => exact ⟨k + 1, by omega, by go_num, by rw [unhide HN], trivial⟩
              case measure => simp [intOf]; omega
            · have HN := hide (unhide HZ1 h0)
              have g0 : ((z : Int) == 0) = false := beq_eq_false_iff_ne.2 (by omega)
              have g0n : (z == 0) = false := beq_eq_false_iff_ne.2 h0
              clear HZ0 HZ1
              go_wp2
              go_roundw
              case rel => exact ⟨k + 1, by omega, by go_num, by rw [unhide HN], trivial⟩
              case measure => simp [intOf]; omega
          · obtain rfl : K = k := by omega
            have d2 : decide ((K : Int) < (K : Int)) = false := by simp
            have HCI : Hid ((0 ≤ clI U K ∧ flgN U = 9 ∧ clI U K = (clrN U : Int)) ∨ (clI U K < 0 ∧ flgN U = 8 ∧ clrN U = 0)) := by
              show _ ∨ _
              rw [unhide HK, clI_all]
              unfold flgN clrN
              by_cases q : pz ∈ U
              · rw [if_pos q, if_pos q, if_pos q]; exact .inl ⟨by omega, rfl, rfl⟩
              · rw [if_neg q, if_neg q, if_neg q]; exact .inr ⟨by omega, rfl, rfl⟩
            have HFG : Hid (flgN U < 256 ∧ clrN U < 256) := ⟨by unfold flgN; split <;> omega, clrN_lt2 (by rw [← unhide HK]; exact hU256)⟩
            generalize clI U K = cz at *
            clear hUnd hUcl
            go_upto_if 121 with fail
            go_cut [15, 16] from 71 to 232 (fun fv nv wz => fv = .int .i64 (flgN U : Int) ∧ nv = .int .i64 (clrN U : Int) ∧ wz = wr)
            case first =>
              rcases unhide HCI with ⟨h0, h9, hz⟩ | ⟨h0, h9, hz⟩
              · have g0 : decide ((0 : Int) ≤ cz) = true := decide_eq_true h0
                have H9 := hide h9
                have HZ9 := hide hz
                clear h9 hz HCI
                go_wp2
                go_meet
                case rel => exact ⟨by rw [unhide H9]; rfl, by rw [← unhide HZ9], rfl⟩
              · have g0 : decide ((0 : Int) ≤ cz) = false := decide_eq_false (by omega)
                have g1 : ¬ (0 : Int) ≤ cz := by omega
                have H9 := hide h9
                have HZ9 := hide hz
                clear h9 hz HCI
                go_wp2
                go_meet
                case rel => exact ⟨by rw [unhide H9]; rfl, by rw [unhide HZ9]; rfl, rfl⟩
            case rest =>
              obtain ⟨rfl, rfl, rfl⟩ := hcut
              obtain ⟨w8, rfl⟩ : ∃ w8, w8 = wc := ⟨_, rfl⟩
              obtain ⟨hfl, hcl⟩ := unhide HFG
              clear HCI HFG
              as_aux_lemma =>
                have z3 := (unhide HCF w8 (unhide HW)).2.2.2
                have hlb3 := World.block_lt_of_cell? _ _ z3
                simp only at hlb3
                have p3 : ∀ P : BelowOf w8.heap.size w8, P.wld.cell? ⟨b, off + i * 4 + 3, none⟩ = some (.int .i64 (fd : Int)) := fun P => bcell P.prf hlb3 z3
                have hoz : o.size ≤ 1000000 := by omega
                obtain ⟨fl, hflE⟩ : ∃ x, x = flgN U := ⟨_, rfl⟩
                obtain ⟨nm, hnmE⟩ : ∃ x, x = clrN U := ⟨_, rfl⟩
                rw [← hflE] at hfl ⊢
                rw [← hnmE] at hcl ⊢
                have HFLE := hide hflE
                have HNME := hide hnmE
                clear hflE hnmE z3 hlb3
                have n0 : ¬ (9223372036854775807 < o.size + (byV 33).size) := by have := byV_size 33; omega
                have n1 : ¬ (9223372036854775807 < o.size + (byV 33).size + (byV 249).size) := by have := byV_size 33; have := byV_size 249; omega
                have n2 : ¬ (9223372036854775807 < o.size + (byV 33).size + (byV 249).size + (byV 4).size) := by have := byV_size 33; have := byV_size 249; have := byV_size 4; omega
                have n3 : ¬ (9223372036854775807 < o.size + (byV 33).size + (byV 249).size + (byV 4).size + (byV (fl : Int)).size) := by have := byV_size 33; have := byV_size 249; have := byV_size 4; have := byV_size (fl : Int); omega
                have n4 : ¬ (9223372036854775807 < o.size + (byV 33).size + (byV 249).size + (byV 4).size + (byV (fl : Int)).size + (liV (fd : Int)).size) := by have := byV_size 33; have := byV_size 249; have := byV_size 4; have := byV_size (fl : Int); have := liV_size (fd : Int); omega
                have n5 : ¬ (9223372036854775807 < o.size + (byV 33).size + (byV 249).size + (byV 4).size + (byV (fl : Int)).size + (liV (fd : Int)).size + (byV (nm : Int)).size) := by have := byV_size 33; have := byV_size 249; have := byV_size 4; have := byV_size (fl : Int); have := liV_size (fd : Int); have := byV_size (nm : Int); omega
                have n6 : ¬ (9223372036854775807 < o.size + (byV 33).size + (byV 249).size + (byV 4).size + (byV (fl : Int)).size + (liV (fd : Int)).size + (byV (nm : Int)).size + (byV 0).size) := by have := byV_size 33; have := byV_size 249; have := byV_size 4; have := byV_size (fl : Int); have := liV_size (fd : Int); have := byV_size (nm : Int); have := byV_size 0; omega
                have HT : Hid ((o ++ byV 33 ++ byV 249 ++ byV 4 ++ byV (fl : Int) ++ liV (fd : Int) ++ byV (nm : Int) ++ byV 0).data.toList = o.data.toList ++ ([33, 249, 4] ++ ([UInt8.ofNat fl] ++ (pairL fd ++ ([UInt8.ofNat nm] ++ [0]))))) := by
                  show _ = _
                  simp only [ByteArray.data_append, Array.toList_append, byV_lit33, byV_lit249, byV_lit4, byV_lit0, byV_nat, liV_nat fd (by omega)]
                  simp
                have HS : Hid ((o ++ byV 33 ++ byV 249 ++ byV 4 ++ byV (fl : Int) ++ liV (fd : Int) ++ byV (nm : Int) ++ byV 0).size = o.size + 8) := by
                  show _ = _
                  simp only [ByteArray.size_append, byV_size, liV_size]
                go_upto_region 28 with fail
                haveI : Nonempty (BelowOf w8.heap.size w8) := ⟨⟨w8, Below.refl _ _⟩⟩
                refine region_below w8.heap.size w8 (Below.refl _ _) (by kernel_rfl) ?_
                repeat (quiet_step ((first | (go_at_call 63; with_reducible exact Calls.below_of (Nat.le_refl _) (unhide HBY _ _)) | (go_at_call 62; with_reducible exact Calls.below_of (Nat.le_refl _) (unhide HLI _ _)))))
                refine wpQuiet_nil ?_
                intro wq hw'
                obtain ⟨pw, hpw⟩ := hw'
                have hwq := pw.prf
                rw [← hpw] at hwq
                clear hpw
                have HW := hide ((unhide HW).below hwq)
                have HX := hide hwq
                generalize o ++ byV 33 ++ byV 249 ++ byV 4 ++ byV (fl : Int) ++ liV (fd : Int) ++ byV (nm : Int) ++ byV 0 = o1 at *
                clear p3 hwq hoz n0 n1 n2 n3 n4 n5 n6
                go_wp2
                go_loopw [17, 18] (fun sv mv wz => ∃ s m : Nat, sv = .int .i64 (s : Int) ∧ mv = .int .i64 (m : Int) ∧ Hid (m = 2 * 2 ^ s) ∧ s ≤ 7 ∧ m ≤ 256 ∧ Hid (szG (8 - s) s K = szOf K) ∧ wz = wq) (fun sv _ _ => 8 - (intOf sv).toNat)
                case atStart => exact ⟨0, 2, rfl, rfl, rfl, by omega, by omega, rfl, rfl⟩
                case round =>
                  obtain ⟨s, m, rfl, rfl, HM, hs7, hm256, HSZ, rfl⟩ := hrel
                  obtain ⟨w9, rfl⟩ : ∃ w9, w9 = wr := ⟨_, rfl⟩
                  by_cases hmk : m < K
                  · have d2 : decide ((m : Int) < (K : Int)) = true := decide_eq_true (by omega)
                    have d2n : decide (m < K) = true := decide_eq_true hmk
                    have hns : ¬ K ≤ 2 * 2 ^ s := by rw [← unhide HM]; omega
                    have hs8 := two_lt hs7 hns hU256
                    have HSN := hide (szOf_at (unhide HSZ) hs7 hns)
                    have HMN : Hid (2 * m = 2 * 2 ^ (s + 1)) := by show _ = _; rw [unhide HM, Nat.pow_succ]; omega
                    have hm2 : 2 * m ≤ 256 := by
                      rw [unhide HMN]
                      have := Nat.pow_le_pow_right (show 1 ≤ 2 by omega) (show s + 1 ≤ 7 by omega)
                      omega
                    obtain ⟨m2, hm2e⟩ : ∃ x, x = 2 * m := ⟨_, rfl⟩
                    have z2 : (2 : Int) * (m : Int) = (m2 : Int) := by omega
                    rw [← hm2e] at HMN hm2
                    clear hm2e hns HM HSZ
                    go_wp2
                    go_roundw
                    case rel => exact ⟨s + 1, m2, by go_num, rfl, HMN, hs8, hm2, HSN, trivial⟩
                    case measure => simp [intOf]; omega
                  · have d2 : decide ((m : Int) < (K : Int)) = false := decide_eq_false (by omega)
                    have d2n : decide (m < K) = false := decide_eq_false hmk
                    have hsE : szOf K = s := by
                      rw [← unhide HSZ]
                      rcases (show s = 7 ∨ s < 7 by omega) with rfl | hlt7
                      · exact szG_done 1 7 K (by have := unhide HM; omega)
                      · rw [show 8 - s = (8 - s - 1) + 1 by omega]
                        exact szG_done _ s K (by have := unhide HM; omega)
                    have HSE := hide hsE
                    have hmK : K ≤ m := by omega
                    clear hsE HSZ hmk
                    as_aux_lemma =>
                      have k8 := blk_below (unhide K7) (unhide HX) (blk_lt (unhide K7))
                      have hlG := blk_lt k8
                      have q0 : w9.cell? ⟨G, 0, none⟩ = some (.int .i64 (fW : Int)) := blk_cell k8 0
                      have q1 : w9.cell? ⟨G, 1, none⟩ = some (.int .i64 (fH : Int)) := blk_cell k8 1
                      have p0 : ∀ P : BelowOf w9.heap.size w9, P.wld.cell? ⟨G, 0, none⟩ = some (.int .i64 (fW : Int)) := fun P => bcell P.prf hlG q0
                      have p1 : ∀ P : BelowOf w9.heap.size w9, P.wld.cell? ⟨G, 1, none⟩ = some (.int .i64 (fH : Int)) := fun P => bcell P.prf hlG q1
                      obtain ⟨sI, hsI⟩ : ∃ x, x = IntKind.i64.wrap (128 + (s : Int)) := ⟨_, rfl⟩
                      have Z128 : Hid ((byV sI).data.toList = [UInt8.ofNat (128 + s)]) := by
                        have e : IntKind.i64.wrap (128 + (s : Int)) = ((128 + s : Nat) : Int) := by rw [IntKind.wrap_i64]; omega
                        show _ = _
                        rw [hsI, e]
                        exact byV_nat _
                      have zsI : IntKind.i64.wrap (128 + (s : Int)) = sI := hsI.symm
                      have zo1 := unhide HS
                      clear k8 hlG q0 q1
                      have n0 : ¬ (9223372036854775807 < o1.size + (byV 44).size) := by have := byV_size 44; omega
                      have n1 : ¬ (9223372036854775807 < o1.size + (byV 44).size + (liV 0).size) := by have := byV_size 44; have := liV_size 0; omega
                      have n2 : ¬ (9223372036854775807 < o1.size + (byV 44).size + (liV 0).size + (liV 0).size) := by have := byV_size 44; have := liV_size 0; omega
                      have n3 : ¬ (9223372036854775807 < o1.size + (byV 44).size + (liV 0).size + (liV 0).size + (liV (fW : Int)).size) := by have := byV_size 44; have := liV_size 0; have := liV_size (fW : Int); omega
                      have n4 : ¬ (9223372036854775807 < o1.size + (byV 44).size + (liV 0).size + (liV 0).size + (liV (fW : Int)).size + (liV (fH : Int)).size) := by have := byV_size 44; have := liV_size 0; have := liV_size (fW : Int); have := liV_size (fH : Int); omega
                      have n5 : ¬ (9223372036854775807 < o1.size + (byV 44).size + (liV 0).size + (liV 0).size + (liV (fW : Int)).size + (liV (fH : Int)).size + (byV sI).size) := by have := byV_size 44; have := liV_size 0; have := liV_size (fW : Int); have := liV_size (fH : Int); have := byV_size sI; omega
                      have HT2 : Hid ((o1 ++ byV 44 ++ liV 0 ++ liV 0 ++ liV (fW : Int) ++ liV (fH : Int) ++ byV sI).data.toList = o1.data.toList ++ ([44, 0, 0, 0, 0] ++ (pairL fW ++ (pairL fH ++ [UInt8.ofNat (128 + s)])))) := by
                        show _ = _
                        simp only [ByteArray.data_append, Array.toList_append, byV_lit44, liV_lit0, unhide Z128, liV_nat fW (by omega), liV_nat fH (by omega)]
                        simp
                      have HS2 : Hid ((o1 ++ byV 44 ++ liV 0 ++ liV 0 ++ liV (fW : Int) ++ liV (fH : Int) ++ byV sI).size = o.size + 18) := by
                        show _ = _
                        simp only [ByteArray.size_append, byV_size, liV_size]
                        omega
                      clear zo1 Z128 hsI
                      go_upto_region 34 with fail
                      haveI : Nonempty (BelowOf w9.heap.size w9) := ⟨⟨w9, Below.refl _ _⟩⟩
                      refine region_below w9.heap.size w9 (Below.refl _ _) (by kernel_rfl) ?_
                      repeat (quiet_step ((first | (go_at_call 63; with_reducible exact Calls.below_of (Nat.le_refl _) (unhide HBY _ _)) | (go_at_call 62; with_reducible exact Calls.below_of (Nat.le_refl _) (unhide HLI _ _)))))
                      refine wpQuiet_nil ?_
                      intro wp hw'
                      obtain ⟨pw, hpw⟩ := hw'
                      have hwp := pw.prf
                      rw [← hpw] at hwp
                      clear hpw
                      have HW := hide ((unhide HW).below hwp)
                      have HX := hide ((unhide HX).trans (hwp.mono (unhide HX).size))
                      generalize o1 ++ byV 44 ++ liV 0 ++ liV 0 ++ liV (fW : Int) ++ liV (fH : Int) ++ byV sI = o2 at *
                      clear p0 p1 hwp zsI n0 n1 n2 n3 n4 n5
                      as_aux_lemma =>
                        have HIX := hide (fun wx (h : Below w8.heap.size w8 wx) => (unhide HPU).below h)
                        have ho2 : o2.size ≤ 100018 + i * 40000 := by rw [unhide HS2]; omega
                        go_wp2
                        go_loopw [7, 19] (fun ov kv wr => ∃ (k : Nat) (o3 : ByteArray), k ≤ m ∧ kv = .int .i64 (k : Int) ∧ ov = .string o3 ∧ Hid (o3.data.toList = o2.data.toList ++ colT U k) ∧ o3.size = o2.size + 3 * k ∧ Hid (FG w wr gf) ∧ Hid (Below w8.heap.size w8 wr) ∧ w8.heap.size ≤ wr.heap.size) (fun _ kv _ => m - (intOf kv).toNat)
                        case atStart => exact ⟨0, o2, by omega, rfl, rfl, by show _ = _; exact (List.append_nil _).symm, by omega, HW, HX, (unhide HX).size⟩
                        case round =>
                          clear HW HX
                          obtain ⟨k, o3, hk, rfl, rfl, HO3, ho3, HW, HX, hz8⟩ := hrel
                          have ho3b : o3.size ≤ 1000000 := by omega
                          have Ho3 := hide ho3
                          clear ho3
                          obtain ⟨w10, rfl⟩ : ∃ w10, w10 = wr := ⟨_, rfl⟩
                          by_cases hkm : k < m
                          · have d2 : decide ((k : Int) < (m : Int)) = true := decide_eq_true (by omega)
                            have d2n : decide (k < m) = true := decide_eq_true hkm
                            obtain ⟨x, hx⟩ : ∃ x, x = U.getD k pz := ⟨_, rfl⟩
                            have HCT : Hid (colT U (k + 1) = colT U k ++ [x.r, x.g, x.b]) := by show _ = _; rw [hx]; rfl
                            have HX0 : Hid (¬ k < K → x = pz) := fun h => by rw [hx, List.getD_eq_getElem?_getD, List.getElem?_eq_none (by rw [← unhide HK]; omega)]; rfl
                            have HXC : Hid (k < K → U.getD k default = x) := fun h => by rw [hx, List.getD_eq_getElem?_getD, List.getD_eq_getElem?_getD, List.getElem?_eq_getElem (by rw [← unhide HK]; exact h)]; rfl
                            have HA := hide (al1 w10 (.cells #[.int .u8 0, .int .u8 0, .int .u8 0, .int .u8 0] 78))
                            have hgw := (unhide HW).lt
                            clear hx
                            go_upto_region 39 with fail
                            generalize w10.alloc (.cells #[.int .u8 0, .int .u8 0, .int .u8 0, .int .u8 0] 78) = w11 at *
                            obtain ⟨hs11, k11, hb11⟩ := unhide HA
                            obtain ⟨Q, hQ⟩ : ∃ Q, Q = w10.heap.size := ⟨_, rfl⟩
                            rw [← hQ] at k11 hs11 hb11 hz8 hgw ⊢
                            have HB11 := hide hb11
                            have hgQ : gf < Q := hgw
                            clear HA hQ hgw
                            by_cases hkK : k < K
                            · have d3 : decide ((k : Int) < (K : Int)) = true := decide_eq_true (by omega)
                              have d3n : decide (k < K) = true := decide_eq_true hkK
                              have hkI : (k : Int) < (K : Int) := by omega
                              have hbx : Below w8.heap.size w8 w11 := (unhide HX).trans ((unhide HB11).mono hz8)
                              obtain ⟨b2, off2, e2, _, hc2⟩ := (unhide HIX w11 hbx).resolve_left (by omega)
                              have hcp : PxAt w11 b2 (off2 + k * 4) (U.getD k default) := hc2 k hkK
                              rw [unhide HXC hkK] at hcp
                              obtain ⟨c0, c1, c2, c3⟩ := hcp
                              have e0 : w11.cell? ⟨Q, 0, none⟩ = some (.int .u8 0) := blk_cell k11 0
                              have e1 : w11.cell? ⟨Q, 1, none⟩ = some (.int .u8 0) := blk_cell k11 1
                              have e3 : w11.cell? ⟨Q, 2, none⟩ = some (.int .u8 0) := blk_cell k11 2
                              have e4 : w11.cell? ⟨Q, 3, none⟩ = some (.int .u8 0) := blk_cell k11 3
                              have f0 := blk_frozen k11 0
                              have f1 := blk_frozen k11 1
                              have f2 := blk_frozen k11 2
                              have f3 := blk_frozen k11 3
                              have hlQ : Q < w11.heap.size := by omega
                              have HK12 : Hid (((((w11.setCell ⟨Q, 0, none⟩ (.int .u8 (x.r.toNat : Int))).setCell ⟨Q, 1, none⟩ (.int .u8 (x.g.toNat : Int))).setCell ⟨Q, 2, none⟩ (.int .u8 (x.b.toNat : Int))).setCell ⟨Q, 3, none⟩ (.int .u8 (x.a.toNat : Int))).heap[Q]? = some (.cells #[.int .u8 (x.r.toNat : Int), .int .u8 (x.g.toNat : Int), .int .u8 (x.b.toNat : Int), .int .u8 (x.a.toNat : Int)] 78)) := by
                                show _ = _
                                have := set_cells (j := 3) (set_cells (j := 2) (set_cells (j := 1) (set_cells (j := 0) k11 (.int .u8 (x.r.toNat : Int))) (.int .u8 (x.g.toNat : Int))) (.int .u8 (x.b.toNat : Int))) (.int .u8 (x.a.toNat : Int))
                                simpa using this
                              have HB12 : Hid (Below Q w10 ((((w11.setCell ⟨Q, 0, none⟩ (.int .u8 (x.r.toNat : Int))).setCell ⟨Q, 1, none⟩ (.int .u8 (x.g.toNat : Int))).setCell ⟨Q, 2, none⟩ (.int .u8 (x.b.toNat : Int))).setCell ⟨Q, 3, none⟩ (.int .u8 (x.a.toNat : Int)))) := ((((unhide HB11).setCell (p := ⟨Q, 0, none⟩) (Nat.le_refl _) _).setCell (p := ⟨Q, 1, none⟩) (Nat.le_refl _) _).setCell (p := ⟨Q, 2, none⟩) (Nat.le_refl _) _).setCell (p := ⟨Q, 3, none⟩) (Nat.le_refl _) _
                              subst e2
                              clear hc2 hbx k11 hs11 hb11
                              go_upto_region 41 with fail
                              generalize ((((w11.setCell ⟨Q, 0, none⟩ (.int .u8 (x.r.toNat : Int))).setCell ⟨Q, 1, none⟩ (.int .u8 (x.g.toNat : Int))).setCell ⟨Q, 2, none⟩ (.int .u8 (x.b.toNat : Int))).setCell ⟨Q, 3, none⟩ (.int .u8 (x.a.toNat : Int))) = w12 at *
                              have k12 := unhide HK12
                              have hb12 := unhide HB12
                              clear HK12 HB12 c0 c1 c2 c3 f0 f1 f2 f3 e0 e1 e3 e4 hlQ hkI d3 d3n
                              have r256 : x.r.toNat < 256 := x.r.toNat_lt
                              have g256 : x.g.toNat < 256 := x.g.toNat_lt
                              have b256 : x.b.toNat < 256 := x.b.toNat_lt
                              have hlQ := blk_lt k12
                              have t0 := blk_cell k12 0
                              have t1 := blk_cell k12 1
                              have t2 := blk_cell k12 2
                              have HU3 : Hid (UInt8.ofNat x.r.toNat = x.r ∧ UInt8.ofNat x.g.toNat = x.g ∧ UInt8.ofNat x.b.toNat = x.b) := ⟨UInt8.ofNat_toNat, UInt8.ofNat_toNat, UInt8.ofNat_toNat⟩
                              have HW := hide ((unhide HW).keep hb12 hgQ)
                              have HX := hide ((unhide HX).trans (hb12.mono hz8))
                              generalize x.r.toNat = xr at *
                              generalize x.g.toNat = xg at *
                              generalize x.b.toNat = xb at *
                              have t0 : w12.cell? ⟨Q, 0, none⟩ = some (.int .u8 (xr : Int)) := t0
                              have t1 : w12.cell? ⟨Q, 1, none⟩ = some (.int .u8 (xg : Int)) := t1
                              have t2 : w12.cell? ⟨Q, 2, none⟩ = some (.int .u8 (xb : Int)) := t2
                              have p0 : ∀ P : BelowOf w12.heap.size w12, P.wld.cell? ⟨Q, 0, none⟩ = some (.int .u8 (xr : Int)) := fun P => bcell P.prf hlQ t0
                              have p1 : ∀ P : BelowOf w12.heap.size w12, P.wld.cell? ⟨Q, 1, none⟩ = some (.int .u8 (xg : Int)) := fun P => bcell P.prf hlQ t1
                              have p2 : ∀ P : BelowOf w12.heap.size w12, P.wld.cell? ⟨Q, 2, none⟩ = some (.int .u8 (xb : Int)) := fun P => bcell P.prf hlQ t2
                              have hz12 : w8.heap.size ≤ w12.heap.size := (unhide HX).size
                              have v0 : IntKind.i64.wrap (xr : Int) = (xr : Int) := by rw [IntKind.wrap_i64]; omega
                              have v1 : IntKind.i64.wrap (xg : Int) = (xg : Int) := by rw [IntKind.wrap_i64]; omega
                              have v2 : IntKind.i64.wrap (xb : Int) = (xb : Int) := by rw [IntKind.wrap_i64]; omega
                              clear hb12 k12 t0 t1 t2 HXC HX0 HB11
                              have n0 : ¬ (9223372036854775807 < o3.size + (byV (xr : Int)).size) := by have := byV_size (xr : Int); omega
                              have n1 : ¬ (9223372036854775807 < o3.size + (byV (xr : Int)).size + (byV (xg : Int)).size) := by have := byV_size (xr : Int); have := byV_size (xg : Int); omega
                              have n2 : ¬ (9223372036854775807 < o3.size + (byV (xr : Int)).size + (byV (xg : Int)).size + (byV (xb : Int)).size) := by have := byV_size (xr : Int); have := byV_size (xg : Int); have := byV_size (xb : Int); omega
                              have HT3 : Hid ((o3 ++ byV (xr : Int) ++ byV (xg : Int) ++ byV (xb : Int)).data.toList = o2.data.toList ++ colT U (k + 1)) := by
                                obtain ⟨u1, u2, u3⟩ := unhide HU3
                                show _ = _
                                simp only [ByteArray.data_append, Array.toList_append, byV_nat, unhide HO3, unhide HCT, u1, u2, u3]
                                simp
                              have HS4 : Hid ((o3 ++ byV (xr : Int) ++ byV (xg : Int) ++ byV (xb : Int)).size = o3.size + 3) := by
                                show _ = _
                                simp only [ByteArray.size_append, byV_size]
                              clear HO3 HCT HU3
                              haveI : Nonempty (BelowOf w12.heap.size w12) := ⟨⟨w12, Below.refl _ _⟩⟩
                              refine region_below w12.heap.size w12 (Below.refl _ _) (by kernel_rfl) ?_
                              repeat (quiet_step ((first | (go_at_call 63; with_reducible exact Calls.below_of (Nat.le_refl _) (unhide HBY _ _)))))
                              refine wpQuiet_nil ?_
                              intro wp hw'
                              obtain ⟨pw, hpw⟩ := hw'
                              have hwp := pw.prf
                              rw [← hpw] at hwp
                              clear hpw
                              have HW := hide ((unhide HW).below hwp)
                              have HX := hide ((unhide HX).trans (hwp.mono hz12))
                              generalize o3 ++ byV (xr : Int) ++ byV (xg : Int) ++ byV (xb : Int) = o4 at *
                              have hzz := (unhide HX).size
                              have hs4 := unhide HS4
                              have ho3 := unhide Ho3
                              have ho4 : o4.size = o2.size + 3 * (k + 1) := by omega
                              clear ho3 hs4
                              clear p0 p1 p2 v0 v1 v2 hwp n0 n1 n2 r256 g256 b256 HS4 Ho3
                              have HO4S := hide ho4
                              clear ho4
                              go_wp2
                              go_roundw
                              case rel => exact ⟨k + 1, o4, by omega, by go_num, rfl, HT3, unhide HO4S, HW, HX, hzz⟩
                              case measure => simp [intOf]; omega
                            · have d3 : decide ((k : Int) < (K : Int)) = false := decide_eq_false (by omega)
                              have d3n : decide (k < K) = false := decide_eq_false hkK
                              have k12 := k11
                              have hb12 := hb11
                              have hx := unhide HX0 hkK
                              rw [show (.cells #[.int .u8 0, .int .u8 0, .int .u8 0, .int .u8 0] 78 : Obj) = .cells #[.int .u8 (x.r.toNat : Int), .int .u8 (x.g.toNat : Int), .int .u8 (x.b.toNat : Int), .int .u8 (x.a.toNat : Int)] 78 by rw [hx]; rfl] at k12
                              clear hx k11 hs11 hb11
                              go_upto_region 41 with fail
                              clear d3 d3n
                              have r256 : x.r.toNat < 256 := x.r.toNat_lt
                              have g256 : x.g.toNat < 256 := x.g.toNat_lt
                              have b256 : x.b.toNat < 256 := x.b.toNat_lt
                              have hlQ := blk_lt k12
                              have t0 := blk_cell k12 0
                              have t1 := blk_cell k12 1
                              have t2 := blk_cell k12 2
                              have HU3 : Hid (UInt8.ofNat x.r.toNat = x.r ∧ UInt8.ofNat x.g.toNat = x.g ∧ UInt8.ofNat x.b.toNat = x.b) := ⟨UInt8.ofNat_toNat, UInt8.ofNat_toNat, UInt8.ofNat_toNat⟩
                              have HW := hide ((unhide HW).keep hb12 hgQ)
                              have HX := hide ((unhide HX).trans (hb12.mono hz8))
                              generalize x.r.toNat = xr at *
                              generalize x.g.toNat = xg at *
                              generalize x.b.toNat = xb at *
                              have t0 : w11.cell? ⟨Q, 0, none⟩ = some (.int .u8 (xr : Int)) := t0
                              have t1 : w11.cell? ⟨Q, 1, none⟩ = some (.int .u8 (xg : Int)) := t1
                              have t2 : w11.cell? ⟨Q, 2, none⟩ = some (.int .u8 (xb : Int)) := t2
                              have p0 : ∀ P : BelowOf w11.heap.size w11, P.wld.cell? ⟨Q, 0, none⟩ = some (.int .u8 (xr : Int)) := fun P => bcell P.prf hlQ t0
                              have p1 : ∀ P : BelowOf w11.heap.size w11, P.wld.cell? ⟨Q, 1, none⟩ = some (.int .u8 (xg : Int)) := fun P => bcell P.prf hlQ t1
                              have p2 : ∀ P : BelowOf w11.heap.size w11, P.wld.cell? ⟨Q, 2, none⟩ = some (.int .u8 (xb : Int)) := fun P => bcell P.prf hlQ t2
                              have hz12 : w8.heap.size ≤ w11.heap.size := (unhide HX).size
                              have v0 : IntKind.i64.wrap (xr : Int) = (xr : Int) := by rw [IntKind.wrap_i64]; omega
                              have v1 : IntKind.i64.wrap (xg : Int) = (xg : Int) := by rw [IntKind.wrap_i64]; omega
                              have v2 : IntKind.i64.wrap (xb : Int) = (xb : Int) := by rw [IntKind.wrap_i64]; omega
                              clear hb12 k12 t0 t1 t2 HXC HX0 HB11
                              have n0 : ¬ (9223372036854775807 < o3.size + (byV (xr : Int)).size) := by have := byV_size (xr : Int); omega
                              have n1 : ¬ (9223372036854775807 < o3.size + (byV (xr : Int)).size + (byV (xg : Int)).size) := by have := byV_size (xr : Int); have := byV_size (xg : Int); omega
                              have n2 : ¬ (9223372036854775807 < o3.size + (byV (xr : Int)).size + (byV (xg : Int)).size + (byV (xb : Int)).size) := by have := byV_size (xr : Int); have := byV_size (xg : Int); have := byV_size (xb : Int); omega
                              have HT3 : Hid ((o3 ++ byV (xr : Int) ++ byV (xg : Int) ++ byV (xb : Int)).data.toList = o2.data.toList ++ colT U (k + 1)) := by
                                obtain ⟨u1, u2, u3⟩ := unhide HU3
                                show _ = _
                                simp only [ByteArray.data_append, Array.toList_append, byV_nat, unhide HO3, unhide HCT, u1, u2, u3]
                                simp
                              have HS4 : Hid ((o3 ++ byV (xr : Int) ++ byV (xg : Int) ++ byV (xb : Int)).size = o3.size + 3) := by
                                show _ = _
                                simp only [ByteArray.size_append, byV_size]
                              clear HO3 HCT HU3
                              haveI : Nonempty (BelowOf w11.heap.size w11) := ⟨⟨w11, Below.refl _ _⟩⟩
                              refine region_below w11.heap.size w11 (Below.refl _ _) (by kernel_rfl) ?_
                              repeat (quiet_step ((first | (go_at_call 63; with_reducible exact Calls.below_of (Nat.le_refl _) (unhide HBY _ _)))))
                              refine wpQuiet_nil ?_
                              intro wp hw'
                              obtain ⟨pw, hpw⟩ := hw'
                              have hwp := pw.prf
                              rw [← hpw] at hwp
                              clear hpw
                              have HW := hide ((unhide HW).below hwp)
                              have HX := hide ((unhide HX).trans (hwp.mono hz12))
                              generalize o3 ++ byV (xr : Int) ++ byV (xg : Int) ++ byV (xb : Int) = o4 at *
                              have hzz := (unhide HX).size
                              have hs4 := unhide HS4
                              have ho3 := unhide Ho3
                              have ho4 : o4.size = o2.size + 3 * (k + 1) := by omega
                              clear ho3 hs4
                              clear p0 p1 p2 v0 v1 v2 hwp n0 n1 n2 r256 g256 b256 HS4 Ho3
                              have HO4S := hide ho4
                              clear ho4
                              go_wp2
                              go_roundw
                              case rel => exact ⟨k + 1, o4, by omega, by go_num, rfl, HT3, unhide HO4S, HW, HX, hzz⟩
                              case measure => simp [intOf]; omega
                          · obtain rfl : k = m := by omega
                            have d2 : decide ((k : Int) < (k : Int)) = false := by simp
                            as_aux_lemma =>
                              have hks := unhide Ho3
                              have Ho3s := hide (show o3.size ≤ 101000 + i * 40000 by omega)
                              have HO3F : Hid (o3.data.toList = o2.data.toList ++ colT U (2 * 2 ^ szOf K)) := by show _ = _; rw [unhide HO3, unhide HM, unhide HSE]
                              clear hks ho3b Ho3 HO3
                              go_upto_if 205 with fail
                              go_cut [21] from 71 to 232 (fun v wz => v = .int .i64 (wdN K : Int) ∧ wz = w10)
                              case first =>
                                by_cases hs2 : s + 1 < 2
                                · have d3 : decide ((s : Int) + 1 < 2) = true := decide_eq_true (by omega)
                                  have hs2i : (s : Int) + 1 < 2 := by omega
                                  have HWD := hide ((wdN_two K).1 (by rw [unhide HSE]; exact hs2))
                                  clear hs2
                                  go_wp2
                                  go_meet
                                  case rel => exact ⟨by rw [unhide HWD]; rfl, rfl⟩
                                · have d3 : decide ((s : Int) + 1 < 2) = false := decide_eq_false (by omega)
                                  have hs2i : ¬ (s : Int) + 1 < 2 := by omega
                                  have HWD := hide ((wdN_two K).2 (by rw [unhide HSE]; exact hs2))
                                  clear hs2
                                  go_wp2
                                  go_meet
                                  case rel => exact ⟨by rw [unhide HWD, unhide HSE]; rfl, rfl⟩
                              case rest =>
                                obtain ⟨rfl, rfl⟩ := hcut
                                obtain ⟨w13, rfl⟩ : ∃ w13, w13 = wc := ⟨_, rfl⟩
                                have hmk := fun w => mk_bytes fn (by omega) w
                                have HOM := hide (bytes_made fn (by omega) w13)
                                have HIN := hide (fun wx (h : Below w8.heap.size w8 wx) => (unhide HNM).below h)
                                have hbz := (Below.refl w13.heap.size w13).alloc (Nat.le_refl _) (.cells (madeCells #[.int .u8 0] fn) 5)
                                have HX0z := HX
                                have HW0z := HW
                                have HW := hide ((unhide HW).below hbz)
                                have HX := hide ((unhide HX).trans (hbz.mono (unhide HX).size))
                                have Hz13 := hide (show w8.heap.size ≤ w13.heap.size from (unhide HX0z).size)
                                have HgD := hide (unhide HW0z).lt
                                clear hbz HX0z HW0z
                                as_aux_lemma =>
                                  go_upto_region 46 with fail
                                  generalize w13.alloc (.cells (madeCells #[.int .u8 0] fn) 5) = w14 at *
                                  obtain ⟨DD, hDD⟩ : ∃ DD, DD = w13.heap.size := ⟨_, rfl⟩
                                  have hDz : w8.heap.size ≤ DD := by rw [hDD]; exact unhide Hz13
                                  have hgD : gf < DD := by rw [hDD]; exact unhide HgD
                                  rw [← hDD] at HOM ⊢
                                  have HOM0 : Hid (OwnM w14 DD (.slice (some ⟨DD, 0, none⟩) fn fn) (bytL N fn 0)) := by show OwnM _ _ _ _; rw [bytL_zero]; exact unhide HOM
                                  clear HOM hmk hDD
                                  go_wp2
                                  go_loopw [23] (fun kv wr => ∃ k : Nat, k ≤ fn ∧ kv = .int .i64 (k : Int) ∧ Hid (OwnM wr DD (.slice (some ⟨DD, 0, none⟩) fn fn) (bytL N fn k)) ∧ Hid (FG w wr gf) ∧ Hid (Below w8.heap.size w8 wr)) (fun kv _ => fn - (intOf kv).toNat)
                                  case atStart => exact ⟨0, by omega, rfl, HOM0, HW, HX⟩
                                  case round =>
                                    clear HOM0 HW HX
                                    obtain ⟨k, hk, rfl, HOM, HW, HX⟩ := hrel
                                    by_cases hkn : k < fn
                                    · have d3 : decide ((k : Int) < (fn : Int)) = true := decide_eq_true (by omega)
                                      have d3n : decide (k < fn) = true := decide_eq_true hkn
                                      have hkI : (k : Int) < (fn : Int) := by omega
                                      obtain ⟨g3, e3, hg3, hc3⟩ := unhide HIN wr (unhide HX)
                                      have x3 := hc3 k (by rw [hNl]; exact hkn)
                                      have hmem : N.getD k 0 ∈ N := by rw [List.getD_eq_getElem?_getD, List.getElem?_eq_getElem (by rw [hNl]; exact hkn)]; exact List.getElem_mem _
                                      have hv := unhide HNlt _ hmem
                                      have hv256 : N.getD k 0 < 256 := by omega
                                      have hbl := bytL_length hNl hk
                                      obtain ⟨g', cap', e', _, hgl', _, _, hfree, _⟩ := (unhide HOM).ex
                                      rw [hbl] at e'
                                      injection e' with e1 _ e2
                                      injection e1 with e1
                                      injection e1 with e1
                                      subst e1 e2
                                      obtain ⟨hs1, hf1⟩ := hfree k hkn
                                      obtain ⟨ov, hov⟩ := Option.isSome_iff_exists.1 hs1
                                      have HNX : Hid (OwnM (wr.setCell ⟨DD, k, none⟩ (.int .u8 ((UInt8.ofNat (N.getD k 0)).toNat : Int))) DD (.slice (some ⟨DD, 0, none⟩) fn fn) (bytL N fn (k + 1))) := by
                                        have h := (unhide HOM)
                                        show OwnM _ _ _ _
                                        have := OwnM.put (l := bytL N fn k) (by rw [hbl]; exact h) k (by rw [hbl]; exact hkn) (UInt8.ofNat (N.getD k 0))
                                        rwa [hbl, bytL_set hNl hkn] at this
                                      have e8 : (UInt8.ofNat (N.getD k 0)).toNat = N.getD k 0 := by rw [UInt8.toNat_ofNat']; omega
                                      rw [e8] at HNX
                                      have HWN : Hid (FG w (wr.setCell ⟨DD, k, none⟩ (.int .u8 (N.getD k 0 : Int))) gf) := (unhide HW).keep ((Below.refl DD wr).setCell (p := ⟨DD, k, none⟩) (Nat.le_refl _) _) hgD
                                      have HXN : Hid (Below w8.heap.size w8 (wr.setCell ⟨DD, k, none⟩ (.int .u8 (N.getD k 0 : Int)))) := (unhide HX).setCell (p := ⟨DD, k, none⟩) hDz _
                                      subst e3
                                      clear hc3 hmem hv hbl hfree hs1 e8 HOM HW HX
                                      generalize N.getD k 0 = nk at *
                                      go_wp2
                                      go_roundw
                                      case rel => exact ⟨k + 1, by omega, by go_num, HNX, HWN, HXN⟩
                                      case measure => simp [intOf]; omega
                                    · obtain rfl : fn = k := by omega
                                      have d3 : decide ((fn : Int) < (fn : Int)) = false := by simp
                                      as_aux_lemma =>
                                        have hball := bytL_all hNl
                                        have hnumL : (numL N).length = fn := by unfold numL; rw [List.length_map]; exact hNl
                                        obtain ⟨wd, hwd⟩ : ∃ x, x = wdN K := ⟨_, rfl⟩
                                        obtain ⟨bt, hbt⟩ : ∃ q : ByteArray, q = ⟨(numL N).toArray⟩ := ⟨_, rfl⟩
                                        obtain ⟨pk, hpk⟩ : ∃ q : ByteArray, q = pakT K N := ⟨_, rfl⟩
                                        obtain ⟨bk, hbk⟩ : ∃ q : ByteArray, q = ⟨(blkL (pakT K N)).toArray⟩ := ⟨_, rfl⟩
                                        have hsz8 := szOf_le hU256
                                        have hw8 : 2 ≤ wdN K ∧ wdN K ≤ 8 := by unfold wdN; omega
                                        have hbtl : bt.data.toList = numL N := by rw [hbt]
                                        have hbts : bt.size = fn := by rw [hbt]; show (numL N).toArray.size = _; rw [List.size_toArray, hnumL]
                                        have hpks : pk.size ≤ 200000 := by
                                          rw [hpk]
                                          have := packAll_len (wdN K) hw8.2 (numL N)
                                          unfold pakT
                                          rw [textP_size]
                                          omega
                                        have hbks : bk.size ≤ 400002 := by
                                          have := blocksL_length pk.size pk.data.toList
                                          rw [size_list] at this
                                          rw [hbk]
                                          show (blkL (pakT K N)).toArray.size ≤ _
                                          rw [List.size_toArray, ← hpk]
                                          unfold blkL
                                          omega
                                        have hpw : 2 * 2 ^ szOf K ≤ 2 ^ wdN K := by
                                          have : 2 * 2 ^ szOf K = 2 ^ (szOf K + 1) := by rw [Nat.pow_succ]; omega
                                          rw [this]
                                          exact Nat.pow_le_pow_right (by omega) (by unfold wdN; omega)
                                        have HLZ : Hid (∀ w, Calls Tryz.prog 68 #[.string bt, .int .i64 (wd : Int)] w fun e w' => e = .returned (.string pk) ∧ Below w.heap.size w w') := fun w => by
                                          have h := lzwOf_any (wdN K) bt w hw8.1 hw8.2 (by omega) (fun x hx => by
                                            rw [hbtl] at hx
                                            obtain ⟨y, hy, rfl⟩ := List.mem_map.1 hx
                                            have := unhide HNlt y hy
                                            rw [UInt8.toNat_ofNat']
                                            omega)
                                          rw [hbtl] at h
                                          rw [hwd, hpk]
                                          exact h
                                        have HBK : Hid (∀ w, Calls Tryz.prog 67 #[.string pk] w fun e w' => e = .returned (.string bk) ∧ Below w.heap.size w w') := fun w => by
                                          have h := blocksOf_any pk w hpks
                                          rw [hbk, ← hpk]
                                          exact h
                                        have HBE : Hid (bk.data.toList = blkL (pakT K N)) := by show _ = _; rw [hbk]
                                        have HTX : ∀ P : BelowOf wr.heap.size wr, (convert 107 9 (.slice (some ⟨DD, 0, none⟩) fn fn)).run Tryz.prog P.wld = .ok (.string bt) P.wld := fun P => by
                                          have h := ((unhide HOM).below P.prf).text
                                          rw [hball] at h
                                          rw [hbt]
                                          exact h
                                        rw [← hwd]
                                        have HWD := hide hwd
                                        have ho3c := unhide Ho3s
                                        clear hball hnumL hwd hbt hpk hbk hsz8 hw8 hbtl hbts hpks hpw HOM
                                        have n0 : ¬ (9223372036854775807 < o3.size + (byV (wd : Int)).size) := by have := byV_size (wd : Int); omega
                                        have n1 : ¬ (9223372036854775807 < o3.size + (byV (wd : Int)).size + bk.size) := by have := byV_size (wd : Int); omega
                                        have HFin : Hid ((o3 ++ byV (wd : Int) ++ bk).data.toList = gifB V n lp ++ frsL (tfsF V (i + 1))) := by
                                          show _ = _
                                          rw [unhide HFL, unhide HTF]
                                          unfold frL hdL
                                          simp only [ByteArray.data_append, Array.toList_append, byV_nat, unhide HBE, unhide HO3F, unhide HT2, unhide HT, unhide HO, unhide HFLE, unhide HNME, unhide HWD, ← unhide HK, unhide HSE]
                                          simp only [List.append_assoc, List.cons_append, List.nil_append]
                                        have HSz : Hid ((o3 ++ byV (wd : Int) ++ bk).size ≤ 100 + (i + 1) * 40000) := by
                                          have h1 := congrArg List.length (unhide HFin)
                                          have h2 := congrArg List.length (unhide HO)
                                          have h3 := unhide HTK (unhide HG0)
                                          rw [unhide HFL, ← List.append_assoc, List.length_append, ← h2, Array.length_toList, Array.length_toList] at h1
                                          have h4 : T.N.length = fn := by rw [unhide HTF]; exact hNl
                                          rw [h4] at h3
                                          show _ ≤ _
                                          have e1 : (o3 ++ byV (wd : Int) ++ bk).data.size = (o3 ++ byV (wd : Int) ++ bk).size := rfl
                                          have e2 : o.data.size = o.size := rfl
                                          rw [e1, e2] at h1
                                          omega
                                        have HEN : Hid (∀ j, j < i + 1 → frE (V j).f (V 0).f = 0) := fun j hj => by
                                          by_cases q : j = i
                                          · rw [q]; exact unhide HG0
                                          · exact unhide HE j (by omega)
                                        clear HT HT2 HO HO3F HFL HTF HTK hbks ho3c
                                        go_upto_region 50 with fail
                                        haveI : Nonempty (BelowOf wr.heap.size wr) := ⟨⟨wr, Below.refl _ _⟩⟩
                                        refine region_below wr.heap.size wr (Below.refl _ _) (by kernel_rfl) ?_
                                        repeat (quiet_step ((first | (go_at_call 63; with_reducible exact Calls.below_of (Nat.le_refl _) (unhide HBY _ _)) | (go_at_call 68; with_reducible exact Calls.below_of (Nat.le_refl _) (unhide HLZ _)) | (go_at_call 67; with_reducible exact Calls.below_of (Nat.le_refl _) (unhide HBK _)))))
                                        refine wpQuiet_nil ?_
                                        intro wp hw'
                                        obtain ⟨pw, hpw⟩ := hw'
                                        have hwp := pw.prf
                                        rw [← hpw] at hwp
                                        clear hpw
                                        have HW := hide ((unhide HW).below hwp)
                                        generalize o3 ++ byV (wd : Int) ++ bk = o5 at *
                                        clear hwp HTX n0 n1 HE HG0 HLZ HBK
                                        go_wp2
                                        go_roundw
                                        case rel => exact ⟨i + 1, o5, by omega, rfl, by go_num, rfl, HEN, HFin, unhide HSz, HW⟩
                                        case measure => simp [intOf]; omega
      · obtain rfl : i = n := by omega
        have d1 : decide ((i : Int) < (i : Int)) = false := by simp
        as_aux_lemma =>
          have HX := hide (fun w => gfine_any w)
          have n1 : ¬ (9223372036854775807 < o.size + 1) := by omega
          have hRt0 : RightP (V 0).f.W (V 0).f.H (V 0).f.n := frE_right (unhide HE 0 hnp)
          have HRes : Hid (GoA V i (lp : Int) (.returned (.tuple #[.string (o ++ ⟨#[59]⟩), .agg #[.int .i64 0, .int .i64 (-1)]]))) := .inr (.inr ⟨unhide HP, unhide HE, by
            have e : o ++ ⟨#[59]⟩ = (⟨(gifL (V 0).f.W.toNat (V 0).f.H.toNat (tfsF V i) (lp : Int).toNat).toArray⟩ : ByteArray) := by
              apply text_ext
              rw [show ((lp : Int)).toNat = lp from rfl, ← gifB_all V i lp hRt0, ByteArray.data_append, Array.toList_append, unhide HO]
            rw [e]⟩)
          clear hRt0 HE HO HRW HVW HZ HC HBY HLI HP HBw
          go_wp2_with fail
          refine (unhide HX _).mono ?_
          rintro e w2 ⟨rfl, hb2⟩
          have HW := hide ((unhide HW).below hb2)
          clear HX hb2
          have f0 := (unhide HW).f0
          have f1 := (unhide HW).f1
          have z0 := (unhide HW).z0
          have z1 := (unhide HW).z1
          have HF := hide ((unhide HW).fin (.int .i64 0) (.int .i64 (-1)))
          go_wp2
          refine bodyPost_ret (v := .tuple #[.string (o ++ ⟨#[59]⟩), .agg #[.int .i64 0, .int .i64 (-1)]]) ?_ rfl ⟨unhide HRes, unhide HF⟩
          rw [results_tc (u := 4) (p := 5) (ty := 34) (by kernel_rfl)]
          go_simp
end Go.Proofs.YtjcoahahponabaaGreatDoor
