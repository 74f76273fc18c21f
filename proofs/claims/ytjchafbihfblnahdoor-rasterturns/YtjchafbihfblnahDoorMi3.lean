/- Pixels, mixed: the document's, walked. -/
import Derived.Test.YtjchafbihfblnahDoorMi2
namespace Go.Proofs.YtjchafbihfblnahDoor
open Go.RowKit

/-- A pixel's cells, anywhere, as numbers. -/
structure Q4' (w : World) (k o : Nat) (r g b a : Nat) : Prop where
  r : w.cell? ⟨k, o, none⟩ = some (.int .u8 (r : Int))
  g : w.cell? ⟨k, o + 1, none⟩ = some (.int .u8 (g : Int))
  b : w.cell? ⟨k, o + 2, none⟩ = some (.int .u8 (b : Int))
  a : w.cell? ⟨k, o + 3, none⟩ = some (.int .u8 (a : Int))
theorem Q4'.below {w w' : World} {k o r g b a B : Nat} (h : Q4' w k o r g b a) (hb : Below B w w') (hB : k < B) : Q4' w' k o r g b a :=
  ⟨(hb.cell (p := ⟨k, o, none⟩) hB).trans h.r, (hb.cell (p := ⟨k, o + 1, none⟩) hB).trans h.g, (hb.cell (p := ⟨k, o + 2, none⟩) hB).trans h.b, (hb.cell (p := ⟨k, o + 3, none⟩) hB).trans h.a⟩
theorem once3 {R G : Prop} (h : R → G) (r : R) : G := h r

set_option maxHeartbeats 8000000 in
set_option maxRecDepth 100000 in
theorem mixOf_any (a : Option Addr) (n c : Nat) (q : Nat → Px) (w : World) (hP : IsPx w a n q) (hn : n ≤ 100000) :
    Calls Tryd.prog 66 #[.slice a n c] w fun e w' => e = .returned (mixP q n).val ∧ Below w.heap.size w w' := by
  have HW := hide (S4.start w)
  unfold q4Obj at HW
  have hz0 : ((0 : Nat) : Int) = 0 := rfl
  rw [hz0] at HW
  have HP := hide hP
  obtain ⟨B, hB⟩ : ∃ B, B = w.heap.size := ⟨_, rfl⟩
  obtain ⟨V, hV⟩ : ∃ V, V = (mixP q n).val := ⟨_, rfl⟩
  rw [← hV]
  have HV := hide hV
  have hmk := mki4
  clear hP hV
  go_enter Tryd.func66, Tryd.ntmps66
  go_wp2
  generalize (w.alloc (.cells #[.int .u8 0, .int .u8 0, .int .u8 0, .int .u8 0] 23)).alloc (.cells #[.int .i64 0, .int .i64 0, .int .i64 0, .int .i64 0] 3) = w1 at *
  rw [← hB] at HW ⊢
  have HBE := hide hB
  clear hB hmk
  go_loopw [4, 5] (fun iv _ wr => ∃ i : Nat, i ≤ n ∧ iv = .int .i64 (i : Int) ∧ Hid (S4 w wr B (sumP fR q i) (sumP fG q i) (sumP fB q i) (sumP fA q i))) (fun iv _ _ => n - (intOf iv).toNat)
  case atStart => exact ⟨0, by omega, rfl, HW⟩
  case round =>
    clear HW
    obtain ⟨i, hi, rfl, HS⟩ := hrel
    obtain ⟨ia, ir, ig, ib⟩ := sums q i
    have n1 : B + 1 < wr.heap.size := by have := (unhide HS).size; omega
    have n0 : B < wr.heap.size := by omega
    by_cases hlt : i < n
    · have g1 : decide ((i : Int) < (n : Int)) = true := decide_eq_true (by omega)
      have g1n : decide (i < n) = true := decide_eq_true hlt
      obtain ⟨bP, oP, rfl, hm, hc⟩ := (unhide HP).resolve_left (by omega)
      have hbp : bP < B := by have := (hc i hlt).lt; have := unhide HBE; omega
      have HC0 := hide (hc i hlt)
      obtain ⟨c0, c1, c2, c3⟩ := (hc i hlt).below (B := B) (unhide HS).below hbp
      have hii : (i : Int) < (n : Int) := by omega
      have HNa : Hid (sumP fA q (i + 1) = sumP fA q i + (q i).a.toNat) := rfl
      have HNr : Hid (sumP fR q (i + 1) = sumP fR q i + (q i).a.toNat * (q i).r.toNat) := rfl
      have HNg : Hid (sumP fG q (i + 1) = sumP fG q i + (q i).a.toNat * (q i).g.toNat) := rfl
      have HNb : Hid (sumP fB q (i + 1) = sumP fB q i + (q i).a.toNat * (q i).b.toNat) := rfl
      have la := u8_le (q i).a
      have lr := u8_le (q i).r
      have lg := u8_le (q i).g
      have lb := u8_le (q i).b
      have HC : Hid (PxAt w bP (oP + i * 4) (q i)) := HC0
      clear HC0
      generalize hqi : q i = y at *
      generalize hr' : y.r.toNat = r at *
      generalize hg' : y.g.toNat = g at *
      generalize hb' : y.b.toNat = b at *
      generalize ha' : y.a.toNat = x at *
      have HC : Hid (Q4' w bP (oP + i * 4) r g b x) := ⟨by rw [(unhide HC).r, hr'], by rw [(unhide HC).g, hg'], by rw [(unhide HC).b, hb'], by rw [(unhide HC).a, ha']⟩
      clear hqi hr' hg' hb' ha'
      obtain ⟨pr, er⟩ : ∃ p, p = x * r := ⟨_, rfl⟩
      obtain ⟨pg, eg⟩ : ∃ p, p = x * g := ⟨_, rfl⟩
      obtain ⟨pb, eb⟩ : ∃ p, p = x * b := ⟨_, rfl⟩
      have zr : (x : Int) * (r : Int) = (pr : Int) := by rw [er]; simp
      have zg : (x : Int) * (g : Int) = (pg : Int) := by rw [eg]; simp
      have zb : (x : Int) * (b : Int) = (pb : Int) := by rw [eb]; simp
      have kr : pr ≤ 255 * 255 := by rw [er]; exact Nat.mul_le_mul la lr
      have kg : pg ≤ 255 * 255 := by rw [eg]; exact Nat.mul_le_mul la lg
      have kb : pb ≤ 255 * 255 := by rw [eb]; exact Nat.mul_le_mul la lb
      rw [← er] at HNr
      rw [← eg] at HNg
      rw [← eb] at HNb
      have wr1 : IntKind.i64.wrap (pr : Int) = (pr : Int) := by rw [IntKind.wrap_i64]; omega
      have wg1 : IntKind.i64.wrap (pg : Int) = (pg : Int) := by rw [IntKind.wrap_i64]; omega
      have wb1 : IntKind.i64.wrap (pb : Int) = (pb : Int) := by rw [IntKind.wrap_i64]; omega
      have sA : sumP fA q i ≤ 25500000 := by omega
      have sR : sumP fR q i ≤ 6502500000 := by omega
      have sG : sumP fG q i ≤ 6502500000 := by omega
      have sB : sumP fB q i ≤ 6502500000 := by omega
      have s0 := (unhide HS).r
      have fs0 := (unhide HS).f.f0
      clear er eg eb hc ia ir ig ib HV
      generalize sumP fR q i = tR at *
      generalize sumP fG q i = tG at *
      generalize sumP fB q i = tB at *
      generalize sumP fA q i = tA at *
      have wt1 : IntKind.i64.wrap ((tR : Int) + (pr : Int)) = (tR : Int) + (pr : Int) := by rw [IntKind.wrap_i64]; omega
      have wt2 : IntKind.i64.wrap ((tG : Int) + (pg : Int)) = (tG : Int) + (pg : Int) := by rw [IntKind.wrap_i64]; omega
      have wt3 : IntKind.i64.wrap ((tB : Int) + (pb : Int)) = (tB : Int) + (pb : Int) := by rw [IntKind.wrap_i64]; omega
      have HS0 := HS
      go_wp2_with fail
      apply once3
      · intro hrest
        go_region
        all_goals exact hrest
      have HS1 : Hid (S4 w ((wr.setCell ⟨B + 1, 0, none⟩ (.int .i64 (((tR + pr : Nat)) : Int))).drewN 1) B (tR + pr) tG tB tA) := (unhide HS0).setR _ 1
      have ez1 : (((tR + pr : Nat)) : Int) = (tR : Int) + (pr : Int) := by omega
      rw [ez1] at HS1
      have ew1 : (wr.setCell ⟨B + 1, 0, none⟩ (.int .i64 ((tR : Int) + (pr : Int)))).drewN 1 = (wr.setCell ⟨B + 1, 0, none⟩ (.int .i64 ((tR : Int) + (pr : Int)))).drew := rfl
      rw [ew1] at HS1
      clear ew1 ez1 s0 fs0 c0 c1 c2 c3 n1 n0
      generalize (wr.setCell ⟨B + 1, 0, none⟩ (.int .i64 ((tR : Int) + (pr : Int)))).drew = wr1 at *
      obtain ⟨c0, c1, c2, c3⟩ := (unhide HC).below (B := B) (unhide HS1).below hbp
      have n1 : B + 1 < wr1.heap.size := by have := (unhide HS1).size; omega
      have n0 : B < wr1.heap.size := by omega
      have s0 := (unhide HS1).g
      have fs0 := (unhide HS1).f.f1
      go_wp2_with fail
      apply once3
      · intro hrest
        go_region
        all_goals exact hrest
      have HS2 : Hid (S4 w ((wr1.setCell ⟨B + 1, 1, none⟩ (.int .i64 (((tG + pg : Nat)) : Int))).drewN 1) B (tR + pr) (tG + pg) tB tA) := (unhide HS1).setG _ 1
      have ez2 : (((tG + pg : Nat)) : Int) = (tG : Int) + (pg : Int) := by omega
      rw [ez2] at HS2
      have ew2 : (wr1.setCell ⟨B + 1, 1, none⟩ (.int .i64 ((tG : Int) + (pg : Int)))).drewN 1 = (wr1.setCell ⟨B + 1, 1, none⟩ (.int .i64 ((tG : Int) + (pg : Int)))).drew := rfl
      rw [ew2] at HS2
      clear ew2 ez2 s0 fs0 c0 c1 c2 c3 n1 n0
      generalize (wr1.setCell ⟨B + 1, 1, none⟩ (.int .i64 ((tG : Int) + (pg : Int)))).drew = wr2 at *
      obtain ⟨c0, c1, c2, c3⟩ := (unhide HC).below (B := B) (unhide HS2).below hbp
      have n1 : B + 1 < wr2.heap.size := by have := (unhide HS2).size; omega
      have n0 : B < wr2.heap.size := by omega
      have s0 := (unhide HS2).b
      have fs0 := (unhide HS2).f.f2
      go_wp2_with fail
      apply once3
      · intro hrest
        go_region
        all_goals exact hrest
      have HS3 : Hid (S4 w ((wr2.setCell ⟨B + 1, 2, none⟩ (.int .i64 (((tB + pb : Nat)) : Int))).drewN 1) B (tR + pr) (tG + pg) (tB + pb) tA) := (unhide HS2).setB _ 1
      have ez3 : (((tB + pb : Nat)) : Int) = (tB : Int) + (pb : Int) := by omega
      rw [ez3] at HS3
      have ew3 : (wr2.setCell ⟨B + 1, 2, none⟩ (.int .i64 ((tB : Int) + (pb : Int)))).drewN 1 = (wr2.setCell ⟨B + 1, 2, none⟩ (.int .i64 ((tB : Int) + (pb : Int)))).drew := rfl
      rw [ew3] at HS3
      clear ew3 ez3 s0 fs0 c0 c1 c2 c3 n1 n0
      generalize (wr2.setCell ⟨B + 1, 2, none⟩ (.int .i64 ((tB : Int) + (pb : Int)))).drew = wr3 at *
      obtain ⟨c0, c1, c2, c3⟩ := (unhide HC).below (B := B) (unhide HS3).below hbp
      have n1 : B + 1 < wr3.heap.size := by have := (unhide HS3).size; omega
      have n0 : B < wr3.heap.size := by omega
      have s0 := (unhide HS3).a
      have fs0 := (unhide HS3).f.f3
      have HS4 : Hid (S4 w (wr3.setCell ⟨B + 1, 3, none⟩ (.int .i64 (((tA + x : Nat)) : Int))) B (tR + pr) (tG + pg) (tB + pb) (tA + x)) := (unhide HS3).setA _
      rw [show (((tA + x : Nat)) : Int) = (tA : Int) + (x : Int) by omega] at HS4
      clear HS HS0 HS1 HS2 HS3 HC
      go_wp2
      go_roundw
      case rel => exact ⟨i + 1, by omega, by go_num, by rw [unhide HNr, unhide HNg, unhide HNb, unhide HNa]; exact HS4⟩
      case measure => simp [intOf]; omega
    · obtain rfl : i = n := by omega
      have g1 : decide ((i : Int) < (i : Int)) = false := by simp
      obtain ⟨y1, y2, y3, y4⟩ := (unhide HS).z0
      obtain ⟨f0, f1, f2, f3⟩ := (unhide HS).f0
      have s0 := (unhide HS).r
      have s1 := (unhide HS).g
      have s2 := (unhide HS).b
      have s3 := (unhide HS).a
      have HBl := hide (unhide HS).below
      by_cases h0 : sumP fA q i = 0
      · have e0 : ((sumP fA q i : Int) == 0) = true := by rw [h0]; rfl
        have HK : Hid (V = .agg #[.int .u8 0, .int .u8 0, .int .u8 0, .int .u8 0]) := by show V = _; rw [unhide HV]; unfold mixP; rw [if_pos h0]; rfl
        clear h0 HV HS HP ia ir ig ib
        go_wp2
        refine bodyPost_ret (v := .agg #[.int .u8 0, .int .u8 0, .int .u8 0, .int .u8 0]) ?_ rfl ⟨by rw [unhide HK], ?_⟩
        · rw [results_c (p := 2) (ty := 23) (by kernel_rfl)]
          go_simp
        · rw [← unhide HBE]
          exact ((((unhide HBl).setCell (p := ⟨B, 0, none⟩) (Nat.le_refl _) _).setCell (p := ⟨B, 1, none⟩) (Nat.le_refl _) _).setCell (p := ⟨B, 2, none⟩) (Nat.le_refl _) _).setCell (p := ⟨B, 3, none⟩) (Nat.le_refl _) _
      · have e0 : ((sumP fA q i : Int) == 0) = false := beq_eq_false_iff_ne.2 (by omega)
        have hi0 : 0 < i := by rcases Nat.eq_zero_or_pos i with e | e; exact absurd (by rw [e]; rfl) h0; exact e
        have HR1 := hide (fun w => rrounded_any (sumP fR q i) (sumP fA q i) w (by omega) (by omega) ir)
        have HR2 := hide (fun w => rrounded_any (sumP fG q i) (sumP fA q i) w (by omega) (by omega) ig)
        have HR3 := hide (fun w => rrounded_any (sumP fB q i) (sumP fA q i) w (by omega) (by omega) ib)
        have HR4 := hide (fun w => rrounded_any (sumP fA q i) i w (by omega) (by omega) ia)
        have l1 := Ov.rnd_le ir (by omega)
        have l2 := Ov.rnd_le ig (by omega)
        have l3 := Ov.rnd_le ib (by omega)
        have l4 := Ov.rnd_le ia hi0
        have HK : Hid (V = .agg #[.int .u8 (Ov.rnd (sumP fR q i) (sumP fA q i) : Int), .int .u8 (Ov.rnd (sumP fG q i) (sumP fA q i) : Int), .int .u8 (Ov.rnd (sumP fB q i) (sumP fA q i) : Int), .int .u8 (Ov.rnd (sumP fA q i) i : Int)]) := by
          show V = _
          rw [unhide HV]
          unfold mixP
          rw [if_neg h0]
          unfold Px.val
          dsimp only
          rw [u8_of l1, u8_of l2, u8_of l3, u8_of l4]
        generalize Ov.rnd (sumP fR q i) (sumP fA q i) = k1 at *
        generalize Ov.rnd (sumP fG q i) (sumP fA q i) = k2 at *
        generalize Ov.rnd (sumP fB q i) (sumP fA q i) = k3 at *
        generalize Ov.rnd (sumP fA q i) i = k4 at *
        have u1 : IntKind.u8.wrap (k1 : Int) = (k1 : Int) := by rw [IntKind.wrap_u8]; omega
        have u2 : IntKind.u8.wrap (k2 : Int) = (k2 : Int) := by rw [IntKind.wrap_u8]; omega
        have u3 : IntKind.u8.wrap (k3 : Int) = (k3 : Int) := by rw [IntKind.wrap_u8]; omega
        have u4 : IntKind.u8.wrap (k4 : Int) = (k4 : Int) := by rw [IntKind.wrap_u8]; omega
        clear HV HS HP ia ir ig ib h0 l1 l2 l3 l4
        generalize sumP fR q i = tR at *
        generalize sumP fG q i = tG at *
        generalize sumP fB q i = tB at *
        generalize sumP fA q i = tA at *
        go_wp2_with fail
        go_region_held (fun w' => w'.cell? ⟨B + 1, 0, none⟩ = some (.int .i64 (tR : Int)) ∧ w'.cell? ⟨B + 1, 1, none⟩ = some (.int .i64 (tG : Int)) ∧ w'.cell? ⟨B + 1, 2, none⟩ = some (.int .i64 (tB : Int))) (first | (go_keep; done) | (refine ⟨(far4 _ _ _ _ _ _ _ _ (by omega)).trans ?_, (far4 _ _ _ _ _ _ _ _ (by omega)).trans ?_, (far4 _ _ _ _ _ _ _ _ (by omega)).trans ?_⟩ <;> simp [*])) (first
          | (go_at_call_of 80 tR; refine (unhide HR1 _).mono ?_; rintro e w7 ⟨rfl, rfl⟩)
          | (go_at_call_of 80 tG; refine (unhide HR2 _).mono ?_; rintro e w7 ⟨rfl, rfl⟩)
          | (go_at_call_of 80 tB; refine (unhide HR3 _).mono ?_; rintro e w7 ⟨rfl, rfl⟩)
          | (go_at_call_of 80 i; refine (unhide HR4 _).mono ?_; rintro e w7 ⟨rfl, rfl⟩))
        all_goals
          go_wp2
          refine bodyPost_ret (v := .agg #[.int .u8 (k1 : Int), .int .u8 (k2 : Int), .int .u8 (k3 : Int), .int .u8 (k4 : Int)]) ?_ rfl ⟨by rw [unhide HK], ?_⟩
          · rw [results_c (p := 2) (ty := 23) (by kernel_rfl)]
            go_simp
          · rw [← unhide HBE]
            exact (((((unhide HBl).setCell (p := ⟨B, 0, none⟩) (Nat.le_refl _) _).setCell (p := ⟨B, 1, none⟩) (Nat.le_refl _) _).setCell (p := ⟨B, 2, none⟩) (Nat.le_refl _) _).setCell (p := ⟨B, 3, none⟩) (Nat.le_refl _) _).drew
end Go.Proofs.YtjchafbihfblnahDoor
