/- Pixels over pixels: the document's OverOf. -/
import Derived.Test.YtkdckcengmkhhajDoorMg13
namespace Go.Proofs.YtkdckcengmkhhajDoor
open Go.RowKit

set_option maxHeartbeats 8000000 in
set_option maxRecDepth 100000 in
theorem overOfN_some (m tr tg tb ta ur ug ub ua : Nat) (w : World) (hm : m ≤ 5) (l1 : tr ≤ 255) (l2 : tg ≤ 255) (l3 : tb ≤ 255) (l5 : ur ≤ 255) (l6 : ug ≤ 255) (l7 : ub ≤ 255) (l4 : ta ≤ 255) (l8 : ua ≤ 255) (h0 : 0 < Ov.cov ta ua) :
    Calls Tryd.prog 67 #[.int .i64 (m : Int), .agg #[.int .u8 (tr : Int), .int .u8 (tg : Int), .int .u8 (tb : Int), .int .u8 (ta : Int)], .agg #[.int .u8 (ur : Int), .int .u8 (ug : Int), .int .u8 (ub : Int), .int .u8 (ua : Int)]] w fun e w' => e = .returned (.agg #[.int .u8 (Ov.col m ta ua tr ur : Int), .int .u8 (Ov.col m ta ua tg ug : Int), .int .u8 (Ov.col m ta ua tb ub : Int), .int .u8 (Ov.rnd (Ov.cov ta ua) 255 : Int)]) ∧ Below w.heap.size w w' := by
  have HO := hide (O3.start w tr tg tb ta ur ug ub ua)
  unfold q4Obj at HO
  have hz0 : ((0 : Nat) : Int) = 0 := rfl
  rw [hz0] at HO
  have hcl := Ov.cov_le ta ua l4 l8
  have hcd := Ov.cov_doc ta ua l4
  obtain ⟨p, hp⟩ : ∃ p, p = ta * ua := ⟨_, rfl⟩
  have zp : (ta : Int) * (ua : Int) = (p : Int) := by rw [hp]; simp
  have hpl : p ≤ 255 * 255 := by rw [hp]; exact Nat.mul_le_mul l4 l8
  rw [← hp] at hcd
  have HCol : Hid (∀ i, Ov.col m ta ua (c3 tr tg tb i) (c3 ur ug ub i) ≤ 255) := fun i => Ov.col_le _ _ _ _ _ l8 (c3_le _ _ _ _ _ l1 l2 l3) (c3_le _ _ _ _ _ l5 l6 l7) h0
  have HR : Hid (∀ i w, Calls Tryd.prog 66 #[.int .i64 (Ov.num m ta ua (c3 tr tg tb i) (c3 ur ug ub i) : Int), .int .i64 (255 * (Ov.cov ta ua : Int))] w fun e w' => e = .returned (.int .i64 (Ov.col m ta ua (c3 tr tg tb i) (c3 ur ug ub i) : Int)) ∧ w' = w) := fun i w => by
    have := rrounded_any (Ov.num m ta ua (c3 tr tg tb i) (c3 ur ug ub i)) (255 * Ov.cov ta ua) w (by omega) (by omega) (Ov.num_le _ _ _ _ _ l8 (c3_le _ _ _ _ _ l1 l2 l3) (c3_le _ _ _ _ _ l5 l6 l7))
    rwa [show (((255 * Ov.cov ta ua : Nat)) : Int) = 255 * (Ov.cov ta ua : Int) by omega] at this
  have HA := hide (fun w => rrounded_any (Ov.cov ta ua) 255 w (by omega) (by omega) (by omega))
  have HCv := hide (Ov.covers_le ta ua l4 l8)
  have HM : Hid (∀ i w, Calls Tryd.prog 89 #[.int .i64 (m : Int), .int .i64 (c3 tr tg tb i : Int), .int .i64 (c3 ur ug ub i : Int)] w fun e w' => e = .returned (.int .i64 (Ov.mt m (c3 tr tg tb i) (c3 ur ug ub i) : Int)) ∧ w' = w) := fun i w => blend_any m _ _ w hm (c3_le _ _ _ _ _ l1 l2 l3) (c3_le _ _ _ _ _ l5 l6 l7)
  have HMl : Hid (∀ i, Ov.mt m (c3 tr tg tb i) (c3 ur ug ub i) ≤ 65025) := fun i => Ov.mt_le _ _ _ (c3_le _ _ _ _ _ l1 l2 l3) (c3_le _ _ _ _ _ l5 l6 l7)
  have HS : Hid (∀ i, c3 tr tg tb i ≤ 255 ∧ c3 ur ug ub i ≤ 255) := fun i => ⟨c3_le _ _ _ _ _ l1 l2 l3, c3_le _ _ _ _ _ l5 l6 l7⟩
  have HN : Hid (∀ i, Ov.num m ta ua (c3 tr tg tb i) (c3 ur ug ub i) = 255 * (ta * (255 - ua) * c3 tr tg tb i + ua * (255 - ta) * c3 ur ug ub i) + ta * ua * Ov.mt m (c3 tr tg tb i) (c3 ur ug ub i)) := fun i => rfl
  have HO6 := hide (fun w3 h => OL.start (w := w) (w3 := w3) (tr := tr) (tg := tg) (tb := tb) (ta := ta) (ur := ur) (ug := ug) (ub := ub) (ua := ua) (B := w.heap.size) h (fun i => Ov.col m ta ua (c3 tr tg tb i) (c3 ur ug ub i)))
  have hfin : Ov.col m ta ua tr ur = Ov.col m ta ua (c3 tr tg tb 0) (c3 ur ug ub 0) ∧ Ov.col m ta ua tg ug = Ov.col m ta ua (c3 tr tg tb 1) (c3 ur ug ub 1) ∧ Ov.col m ta ua tb ub = Ov.col m ta ua (c3 tr tg tb 2) (c3 ur ug ub 2) := ⟨rfl, rfl, rfl⟩
  rw [hfin.1, hfin.2.1, hfin.2.2]
  clear hfin
  obtain ⟨C, hC⟩ : ∃ C, C = Ov.cov ta ua := ⟨_, rfl⟩
  rw [← hC] at hcd hcl h0 HR HA HCv ⊢
  have zC : 255 * (ta : Int) + 255 * (ua : Int) - (p : Int) = (C : Int) := by omega
  have wp' : IntKind.i64.wrap (p : Int) = (p : Int) := by rw [IntKind.wrap_i64]; omega
  have wC : IntKind.i64.wrap (C : Int) = (C : Int) := by rw [IntKind.wrap_i64]; omega
  have wC2 : IntKind.i64.wrap (255 * (C : Int)) = 255 * (C : Int) := by rw [IntKind.wrap_i64]; omega
  have C0 : ((C : Int) == 0) = false := beq_eq_false_iff_ne.2 (by omega)
  have HP := hide hp
  have HL1 := hide l4
  have HL2 := hide l8
  clear hp hC hcd h0 hm
  obtain ⟨B, hB⟩ : ∃ B, B = w.heap.size := ⟨_, rfl⟩
  have hmk := mk3
  obtain ⟨W3, hW3⟩ : ∃ W3, W3 = ((w.alloc (.cells #[.int .u8 (tr : Int), .int .u8 (tg : Int), .int .u8 (tb : Int), .int .u8 (ta : Int)] 42)).alloc (.cells #[.int .u8 (ur : Int), .int .u8 (ug : Int), .int .u8 (ub : Int), .int .u8 (ua : Int)] 42)).alloc (.cells #[.int .u8 0, .int .u8 0, .int .u8 0, .int .u8 0] 42) := ⟨_, rfl⟩
  rw [← hW3] at HO
  have HW := hide (unhide HO6 _ (unhide HO))
  rw [hW3] at HW
  clear HO HO6 hW3
  generalize hcol : (fun i => Ov.col m ta ua (c3 tr tg tb i) (c3 ur ug ub i)) = col at *
  have ecol : ∀ i, Ov.col m ta ua (c3 tr tg tb i) (c3 ur ug ub i) = col i := fun i => by rw [← hcol]
  simp only [ecol] at HR HCol ⊢
  clear hcol ecol
  go_enter Tryd.func67, Tryd.ntmps67
  go_wp2_with fail
  generalize (((((w.alloc (.cells #[.int .u8 (tr : Int), .int .u8 (tg : Int), .int .u8 (tb : Int), .int .u8 (ta : Int)] 42)).alloc (.cells #[.int .u8 (ur : Int), .int .u8 (ug : Int), .int .u8 (ub : Int), .int .u8 (ua : Int)] 42)).alloc (.cells #[.int .u8 0, .int .u8 0, .int .u8 0, .int .u8 0] 42)).alloc (.cells #[.int .i64 (tr : Int), .int .i64 (tg : Int), .int .i64 (tb : Int)] 3)).alloc (.cells #[.int .i64 (ur : Int), .int .i64 (ug : Int), .int .i64 (ub : Int)] 3)).alloc (.cells #[.int .u8 0, .int .u8 0, .int .u8 0] 5) = w6 at *
  rw [← hB] at HW ⊢
  have HBE := hide hB
  clear hB hmk l1 l2 l3 l5 l6 l7
  generalize c3 tr tg tb = s at *
  generalize c3 ur ug ub = d at *
  go_loopw [13, 14] (fun iv nv wr => ∃ i : Nat, i ≤ 3 ∧ iv = .int .i64 (i : Int) ∧ Hid (OL w wr B s d col i)) (fun iv _ _ => 3 - (intOf iv).toNat)
  case atStart => exact ⟨0, by omega, rfl, HW⟩
  case round =>
    obtain ⟨i, hi, rfl, HL⟩ := hrel
    clear HW
    have hsz := (unhide HL).size
    have n5 : B + 5 < wr.heap.size := by omega
    by_cases hlt : i < 3
    · have g1 : decide ((i : Int) < 3) = true := decide_eq_true (by omega)
      have g1n : decide (i < 3) = true := decide_eq_true hlt
      have cs := (unhide HL).s i hlt
      have cd := (unhide HL).d i hlt
      have cc := (unhide HL).c i hlt
      have cf := (unhide HL).f i hlt
      have HMi := hide (unhide HM i)
      have HRi := hide (unhide HR i)
      have hMl := unhide HMl i
      have hSi := unhide HS i
      have hNi := unhide HN i
      have hcol := unhide HCol i
      generalize hS' : s i = S at *
      generalize hD' : d i = D at *
      generalize hK' : col i = K at *
      generalize Ov.mt m S D = M at *
      generalize Ov.num m ta ua S D = N at *
      have h1 : ta * (255 - ua) * S ≤ 255 * 255 * 255 := Ov.three_le l4 (by omega) hSi.1
      have h2 : ua * (255 - ta) * D ≤ 255 * 255 * 255 := Ov.three_le l8 (by omega) hSi.2
      have h6 : ta * ua * M ≤ 255 * 255 * 65025 := Ov.three_le l4 l8 hMl
      have h4 : ta * (255 - ua) ≤ 255 * 255 := Nat.mul_le_mul l4 (by omega)
      have h5 : ua * (255 - ta) ≤ 255 * 255 := Nat.mul_le_mul l8 (by omega)
      rw [← unhide HP] at hNi h6
      obtain ⟨x, hx⟩ : ∃ x, x = 255 - ta := ⟨_, rfl⟩
      obtain ⟨y, hy⟩ : ∃ y, y = 255 - ua := ⟨_, rfl⟩
      rw [← hx] at h2 h5 hNi
      rw [← hy] at h1 h4 hNi
      have zx : (255 : Int) - (ta : Int) = (x : Int) := by omega
      have zy : (255 : Int) - (ua : Int) = (y : Int) := by omega
      have hx2 : x ≤ 255 := by omega
      have hy2 : y ≤ 255 := by omega
      clear hx hy
      obtain ⟨p1, e1⟩ : ∃ q, q = ta * y := ⟨_, rfl⟩
      obtain ⟨p2, e2⟩ : ∃ q, q = ua * x := ⟨_, rfl⟩
      rw [← e1] at h1 h4 hNi
      rw [← e2] at h2 h5 hNi
      obtain ⟨p4, e4⟩ : ∃ q, q = p1 * S := ⟨_, rfl⟩
      obtain ⟨p5, e5⟩ : ∃ q, q = p2 * D := ⟨_, rfl⟩
      obtain ⟨p6, e6⟩ : ∃ q, q = p * M := ⟨_, rfl⟩
      rw [← e4] at h1 hNi
      rw [← e5] at h2 hNi
      rw [← e6] at h6 hNi
      have z1 : 255 * (ta : Int) * (y : Int) = 255 * (p1 : Int) := by rw [e1]; simp [Int.mul_assoc]
      have z2 : 255 * (ua : Int) * (x : Int) = 255 * (p2 : Int) := by rw [e2]; simp [Int.mul_assoc]
      have z4 : 255 * (p1 : Int) * (S : Int) = 255 * (p4 : Int) := by rw [e4]; simp [Int.mul_assoc]
      have z5 : 255 * (p2 : Int) * (D : Int) = 255 * (p5 : Int) := by rw [e5]; simp [Int.mul_assoc]
      have z6 : (p : Int) * (M : Int) = (p6 : Int) := by rw [e6]; simp
      have zN : 255 * (p4 : Int) + 255 * (p5 : Int) + (p6 : Int) = (N : Int) := by omega
      have w1 : IntKind.i64.wrap (255 * (p1 : Int)) = 255 * (p1 : Int) := by rw [IntKind.wrap_i64]; omega
      have w2 : IntKind.i64.wrap (255 * (p2 : Int)) = 255 * (p2 : Int) := by rw [IntKind.wrap_i64]; omega
      have w4 : IntKind.i64.wrap (255 * (p4 : Int)) = 255 * (p4 : Int) := by rw [IntKind.wrap_i64]; omega
      have w5 : IntKind.i64.wrap (255 * (p5 : Int)) = 255 * (p5 : Int) := by rw [IntKind.wrap_i64]; omega
      have w6' : IntKind.i64.wrap (p6 : Int) = (p6 : Int) := by rw [IntKind.wrap_i64]; omega
      have w7 : IntKind.i64.wrap (255 * (p4 : Int) + 255 * (p5 : Int)) = 255 * (p4 : Int) + 255 * (p5 : Int) := by rw [IntKind.wrap_i64]; omega
      have w9 : IntKind.i64.wrap (N : Int) = (N : Int) := by rw [IntKind.wrap_i64]; omega
      have wx : IntKind.i64.wrap (x : Int) = (x : Int) := by rw [IntKind.wrap_i64]; omega
      have wy : IntKind.i64.wrap (y : Int) = (y : Int) := by rw [IntKind.wrap_i64]; omega
      have wa : IntKind.i64.wrap (255 * (ta : Int)) = 255 * (ta : Int) := by rw [IntKind.wrap_i64]; omega
      have wb : IntKind.i64.wrap (255 * (ua : Int)) = 255 * (ua : Int) := by rw [IntKind.wrap_i64]; omega
      have wk : IntKind.u8.wrap (K : Int) = (K : Int) := by rw [IntKind.wrap_u8]; omega
      have HK := hide hK'
      clear hNi e1 e2 e4 e5 e6 hS' hD' hK' hsz HM HR HMl HS HN
      go_wp2_with fail
      go_quiet ((go_at_call 89; exact Calls.quiet_of_same (unhide HMi _)))
      go_wp2_with (go_at_call 66; refine (unhide HRi _).mono ?_; rintro e w7 ⟨rfl, rfl⟩)
      go_roundw
      case rel => exact ⟨i + 1, by omega, by go_num, by rw [← unhide HK]; exact (unhide HL).next hlt⟩
      case measure => simp [intOf]; omega
    · obtain rfl : i = 3 := by omega
      have g1 : decide (((3 : Nat) : Int) < 3) = false := rfl
      have q0 := (unhide HL).c 0 (by omega)
      have q1 := (unhide HL).c 1 (by omega)
      have q2 := (unhide HL).c 2 (by omega)
      rw [if_pos (by omega)] at q0 q1 q2
      obtain ⟨y1, y2, y3, y4⟩ := (unhide HL).z0
      obtain ⟨f0, f1, f2, f3⟩ := (unhide HL).f0
      have n2 : B + 2 < wr.heap.size := by omega
      have hcv := unhide HCv
      have wk : IntKind.u8.wrap (Ov.rnd C 255 : Int) = (Ov.rnd C 255 : Int) := by rw [IntKind.wrap_u8]; omega
      have HBl := hide (unhide HL).below
      obtain ⟨K, eK⟩ : ∃ K, K = Ov.rnd C 255 := ⟨_, rfl⟩
      obtain ⟨k0, e0⟩ : ∃ k, k = col 0 := ⟨_, rfl⟩
      obtain ⟨k1, e1⟩ : ∃ k, k = col 1 := ⟨_, rfl⟩
      obtain ⟨k2, e2⟩ : ∃ k, k = col 2 := ⟨_, rfl⟩
      rw [← eK] at wk HA
      rw [← e0] at q0
      rw [← e1] at q1
      rw [← e2] at q2
      have HE : Hid (K = Ov.rnd C 255 ∧ k0 = col 0 ∧ k1 = col 1 ∧ k2 = col 2) := ⟨eK, e0, e1, e2⟩
      clear eK e0 e1 e2
      clear HL HM HR HMl HS HN HCol HCv hcv HP HL1 HL2 hlt hi hsz
      go_wp2_with fail
      go_region_held (fun w' => w'.cell? ⟨B + 5, 0, none⟩ = some (.int .u8 (k0 : Int)) ∧ w'.cell? ⟨B + 5, 1, none⟩ = some (.int .u8 (k1 : Int)) ∧ w'.cell? ⟨B + 5, 2, none⟩ = some (.int .u8 (k2 : Int))) (first | (go_keep; done) | (refine ⟨(far4 _ _ _ _ _ _ _ _ (by omega)).trans ?_, (far4 _ _ _ _ _ _ _ _ (by omega)).trans ?_, (far4 _ _ _ _ _ _ _ _ (by omega)).trans ?_⟩ <;> simp [*])) (first | (go_at_call 66; refine (unhide HA _).mono ?_; rintro e w7 ⟨rfl, rfl⟩))
      go_wp2
      refine bodyPost_ret (v := .agg #[.int .u8 (k0 : Int), .int .u8 (k1 : Int), .int .u8 (k2 : Int), .int .u8 (K : Int)]) ?_ rfl ⟨by obtain ⟨q, r, s, t⟩ := unhide HE; rw [q, r, s, t], ?_⟩
      · rw [results_c (p := 6) (ty := 42) (by kernel_rfl)]
        go_simp
      · rw [← unhide HBE]
        exact (((((unhide HBl).setCell (p := ⟨B + 1 + 1, 0, none⟩) (by show B ≤ B + 1 + 1; omega) _).setCell (p := ⟨B + 1 + 1, 1, none⟩) (by show B ≤ B + 1 + 1; omega) _).setCell (p := ⟨B + 1 + 1, 2, none⟩) (by show B ≤ B + 1 + 1; omega) _).setCell (p := ⟨B + 1 + 1, 3, none⟩) (by show B ≤ B + 1 + 1; omega) _).drew

set_option maxHeartbeats 4000000 in
set_option maxRecDepth 100000 in
theorem overOfN_none (m tr tg tb ta ur ug ub ua : Nat) (w : World) (za : ta = 0) (zb : ua = 0) :
    Calls Tryd.prog 67 #[.int .i64 (m : Int), .agg #[.int .u8 (tr : Int), .int .u8 (tg : Int), .int .u8 (tb : Int), .int .u8 (ta : Int)], .agg #[.int .u8 (ur : Int), .int .u8 (ug : Int), .int .u8 (ub : Int), .int .u8 (ua : Int)]] w fun e w' => e = .returned (.agg #[.int .u8 0, .int .u8 0, .int .u8 0, .int .u8 0]) ∧ Below w.heap.size w w' := by
  subst za zb
  have HO := hide (O3.start w tr tg tb 0 ur ug ub 0)
  unfold q4Obj at HO
  have hz0 : ((0 : Nat) : Int) = 0 := rfl
  rw [hz0] at HO ⊢
  obtain ⟨B, hB⟩ : ∃ B, B = w.heap.size := ⟨_, rfl⟩
  go_enter Tryd.func67, Tryd.ntmps67
  go_wp2
  refine bodyPost_ret (v := .agg #[.int .u8 0, .int .u8 0, .int .u8 0, .int .u8 0]) ?_ rfl ⟨rfl, (unhide HO).below⟩
  rw [results_c (p := 6) (ty := 42) (by kernel_rfl)]
  go_simp

theorem overOf_any (m : Nat) (t u : Px) (w : World) (hm : m ≤ 5) :
    Calls Tryd.prog 67 #[.int .i64 (m : Int), t.val, u.val] w fun e w' => e = .returned (overP m t u).val ∧ Below w.heap.size w w' := by
  have l1 := u8_le t.r
  have l2 := u8_le t.g
  have l3 := u8_le t.b
  have l4 := u8_le t.a
  have l5 := u8_le u.r
  have l6 := u8_le u.g
  have l7 := u8_le u.b
  have l8 := u8_le u.a
  unfold overP
  by_cases h0 : Ov.cov t.a.toNat u.a.toNat = 0
  · rw [if_pos h0]
    refine overOfN_none m t.r.toNat t.g.toNat t.b.toNat t.a.toNat u.r.toNat u.g.toNat u.b.toNat u.a.toNat w ?_ ?_
    · rcases Nat.eq_zero_or_pos t.a.toNat with q | q
      · exact q
      · exact absurd h0 (by have := Ov.cov_pos t.a.toNat u.a.toNat (.inl q) l8; omega)
    · rcases Nat.eq_zero_or_pos u.a.toNat with q | q
      · exact q
      · exact absurd h0 (by have := Ov.cov_pos t.a.toNat u.a.toNat (.inr q) l8; omega)
  · rw [if_neg h0]
    have h1 : 0 < Ov.cov t.a.toNat u.a.toNat := Nat.pos_of_ne_zero h0
    have := overOfN_some m t.r.toNat t.g.toNat t.b.toNat t.a.toNat u.r.toNat u.g.toNat u.b.toNat u.a.toNat w hm l1 l2 l3 l5 l6 l7 l4 l8 h1
    unfold Px.val
    dsimp only
    rw [u8_of (Ov.col_le m _ _ _ _ l8 l1 l5 h1), u8_of (Ov.col_le m _ _ _ _ l8 l2 l6 h1), u8_of (Ov.col_le m _ _ _ _ l8 l3 l7 h1), u8_of (Ov.covers_le _ _ l4 l8)]
    exact this
end Go.Proofs.YtkdckcengmkhhajDoor
