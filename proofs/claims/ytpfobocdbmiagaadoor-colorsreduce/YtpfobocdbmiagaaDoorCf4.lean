/- Pixels by the least far colors, and how far they are: the document's. -/
import Derived.Test.YtpfobocdbmiagaaDoorCf3
import Derived.Test.YtpfobocdbmiagaaDoorMg3
import Derived.Sort.AtCall
namespace Go.Proofs.YtpfobocdbmiagaaDoor
open Go.RowKit

/-- The number of the least far color of each pixel. -/
def mpL (p q : Nat → Px) (m n : Nat) : List Nat := (List.range n).map fun i => lst q (p i) m
theorem mpL_succ (p q : Nat → Px) (m n : Nat) : mpL p q m (n + 1) = mpL p q m n ++ [lst q (p n) m] := by unfold mpL; rw [List.range_succ, List.map_append]; rfl
theorem mpL_length (p q : Nat → Px) (m n : Nat) : (mpL p q m n).length = n := by unfold mpL; rw [List.length_map, List.length_range]
theorem mpL_at (p q : Nat → Px) (m n i : Nat) (h : i < n) : (mpL p q m n).getD i 0 = lst q (p i) m := by
  unfold mpL
  rw [List.getD_eq_getElem?_getD, List.getElem?_map, List.getElem?_range h]
  rfl
/-- In all worlds where nothing old has turned, the cells are as they were. -/
theorem all_px {w : World} {b o : Nat} {x : Px} (h : PxAt w b o x) : ∀ P : BelowOf w.heap.size w, PxAt P.wld b o x := fun P => h.below P.prf h.lt

set_option maxHeartbeats 8000000 in
set_option maxRecDepth 100000 in
theorem mapOf_any (W H : Int) (a : Option Addr) (n c : Nat) (p : Nat → Px) (b : Option Addr) (m d : Nat) (q : Nat → Px) (w : World) (hA : IsPx w a n p) (hP : IsPx w b (m + 1) q) (hn : n ≤ 70000) (hm : m ≤ 1000) :
    Calls Tryd.prog 22 #[.agg #[.int .i64 W, .int .i64 H, .slice a n c], .slice b (m + 1) d] w fun e w' => ∃ a2 c2, e = .returned (.tuple #[.slice a2 n c2, .int .i64 (farN p q n m : Int)]) ∧ w'.ownsRow w.heap.size 3 1 (.slice a2 n c2) n (nV (mpL p q m n)) ∧ Below w.heap.size w w' := by
  have HA := hide (fun w1 (h : Below w.heap.size w w1) => hA.below h)
  have HP := hide (fun w1 (h : Below w.heap.size w w1) => hP.below h)
  have HC := hide (fun x y w' => dapart_any x y w')
  have HAL := hide (al1 w (.cells #[.int .i64 W, .int .i64 H, .slice a n c] 24))
  obtain ⟨M, hM⟩ : ∃ M, M = m + 1 := ⟨_, rfl⟩
  rw [← hM] at HP ⊢
  have hM2 : 1 ≤ M ∧ M ≤ 1001 := by omega
  have HME := hide hM
  obtain ⟨B, hB⟩ : ∃ B, B = w.heap.size := ⟨_, rfl⟩
  unfold Px.val at HC
  clear hA hP hM hm
  go_enter Tryd.func22, Tryd.ntmps22
  go_wp2
  generalize w.alloc (.cells #[.int .i64 W, .int .i64 H, .slice a n c] 24) = w1 at *
  rw [← hB] at HAL HA HP ⊢
  obtain ⟨hs1, k1, hb1⟩ := unhide HAL
  have HB0 := hide hb1
  have HK0 := hide k1
  have HBE := hide hB
  have hz1 : B + 1 ≤ w1.heap.size := by omega
  have HN0 : Hid (w1.ownsRow (B + 1) 3 1 (.slice none 0 0) (mpL p q m 0).length (nV (mpL p q m 0))) := World.ownsRow_nil _ _ _ _
  clear HAL hb1 hB hs1 k1
  go_loopw [6, 7, 8] (fun nv fv iv wr => ∃ i s : Nat, i ≤ n ∧ iv = .int .i64 (i : Int) ∧ fv = .int .i64 (s : Int) ∧ Hid (s = farN p q i m) ∧ Hid (wr.ownsRow (B + 1) 3 1 nv (mpL p q m i).length (nV (mpL p q m i))) ∧ Hid (wr.heap[B]? = some (.cells #[.int .i64 W, .int .i64 H, .slice a n c] 24)) ∧ Hid (Below B w wr) ∧ B + 1 ≤ wr.heap.size) (fun _ _ iv _ => n - (intOf iv).toNat)
  case atStart => exact ⟨0, 0, Nat.zero_le _, rfl, rfl, rfl, HN0, HK0, HB0, hz1⟩
  case round =>
    clear HN0 HB0 HK0 hz1
    obtain ⟨i, s, hi, rfl, rfl, HS, HN, HK, HB, hz⟩ := hrel
    obtain ⟨na, nc, rfl, _⟩ := own_shape (unhide HN)
    have k2 : wr.cell? ⟨B, 2, none⟩ = some (.slice a n c) := blk_cell (unhide HK) 2
    by_cases hlt : i < n
    · have d1 : decide ((i : Int) < (n : Int)) = true := decide_eq_true (by omega)
      have d1n : decide (i < n) = true := decide_eq_true hlt
      have hii : (i : Int) < (n : Int) := by omega
      obtain ⟨bP, oP, hab, _, _⟩ := (unhide HA wr (unhide HB)).resolve_left (by omega)
      subst hab
      have HX : Hid (∀ w', Below B w w' → PxAt w' bP (oP + i * 4) (p i)) := fun w' hb => by
        obtain ⟨b', o', e, _, h⟩ := (unhide HA w' hb).resolve_left (by omega)
        injection e with e
        injection e with e1 e2 _
        subst e1 e2
        exact h i hlt
      obtain ⟨bQ, oQ, hbb, _, _⟩ := (unhide HP wr (unhide HB)).resolve_left (by omega)
      subst hbb
      have HY : Hid (∀ w' j, j < M → Below B w w' → PxAt w' bQ (oQ + j * 4) (q j)) := fun w' j hj hb => by
        obtain ⟨b', o', e, _, h⟩ := (unhide HP w' hb).resolve_left (by omega)
        injection e with e
        injection e with e1 e2 _
        subst e1 e2
        exact h j hj
      have HNS := hide (mpL_succ p q m i)
      have HSS : Hid (farN p q (i + 1) m = farN p q i m + farP (p i) (q (lst q (p i) m))) := rfl
      have hsb := farN_le p q i m
      rw [← unhide HS] at hsb
      have hsb2 : s ≤ 70000 * 260100 := Nat.le_trans hsb (Nat.mul_le_mul_right _ (by omega))
      obtain ⟨ni, hni⟩ : ∃ ni, ni = (mpL p q m i).length := ⟨_, rfl⟩
      rw [← hni] at HN ⊢
      have HNI := hide hni
      have hnib : ni ≤ 70000 := by rw [hni, mpL_length]; omega
      clear hni hsb
      generalize hx : p i = x at *
      clear hx
      obtain ⟨w4, rfl⟩ : ∃ w4, w4 = wr := ⟨_, rfl⟩
      go_wp2
      go_loopw [9, 10] (fun gv kv wq => ∃ k g : Nat, 1 ≤ k ∧ k ≤ M ∧ kv = .int .i64 (k : Int) ∧ gv = .int .i64 (g : Int) ∧ g < M ∧ Hid (g = lst q x (k - 1)) ∧ Hid (Below w4.heap.size w4 wq)) (fun _ kv _ => M - (intOf kv).toNat)
      case atStart => exact ⟨1, 0, by omega, by omega, rfl, rfl, by omega, rfl, Below.refl _ _⟩
      case round =>
        obtain ⟨k, g, hk1, hk, rfl, rfl, hg, HG, HW⟩ := hrel
        have hzw := (unhide HW).size
        have HBr := hide ((unhide HB).trans ((unhide HW).mono (show B ≤ w4.heap.size by omega)))
        have HKr := hide (blk_below (unhide HK) (unhide HW) (blk_lt (unhide HK)))
        have cB : wr.cell? ⟨B, 2, none⟩ = some (.slice (some ⟨bP, oP, none⟩) n c) := blk_cell (unhide HKr) 2
        by_cases hlk : k < M
        · have d2 : decide ((k : Int) < (M : Int)) = true := decide_eq_true (by omega)
          have d2n : decide (k < M) = true := decide_eq_true hlk
          have hkk : (k : Int) < (M : Int) := by omega
          have hgg : (g : Int) < (M : Int) := by omega
          have hBl : B < wr.heap.size := by omega
          have u2 : ∀ P : BelowOf wr.heap.size wr, P.wld.cell? ⟨B, 2, none⟩ = some (.slice (some ⟨bP, oP, none⟩) n c) := fun P => (P.prf.cell (p := ⟨B, 2, none⟩) hBl).trans cB
          have hX := all_px (unhide HX wr (unhide HBr))
          have hY := all_px (unhide HY wr k hlk (unhide HBr))
          have hZ := all_px (unhide HY wr g hg (unhide HBr))
          have hX1 := unhide HX wr (unhide HBr)
          have hY1 := unhide HY wr k hlk (unhide HBr)
          have hZ1 := unhide HY wr g hg (unhide HBr)
          have HST : Hid (lst q x k = if farP x (q k) < farP x (q g) then k else g) := by
            obtain ⟨j, rfl⟩ : ∃ j, k = j + 1 := ⟨k - 1, by omega⟩
            have e := unhide HG
            rw [Nat.add_sub_cancel] at e
            show lst q x (j + 1) = _
            unfold lst
            rw [← e]
          have C1 := hide (unhide HC x (q k))
          have C2 := hide (unhide HC x (q g))
          generalize farP x (q k) = f1 at *
          generalize farP x (q g) = f2 at *
          generalize q k = y at *
          generalize q g = z at *
          have x0 := fun P => (hX P).r
          have x1 := fun P => (hX P).g
          have x2 := fun P => (hX P).b
          have x3 := fun P => (hX P).a
          have y0 := fun P => (hY P).r
          have y1 := fun P => (hY P).g
          have y2 := fun P => (hY P).b
          have y3 := fun P => (hY P).a
          have z0 := fun P => (hZ P).r
          have z1 := fun P => (hZ P).g
          have z2 := fun P => (hZ P).b
          have z3 := fun P => (hZ P).a
          generalize x.r.toNat = xr at *
          generalize x.g.toNat = xg at *
          generalize x.b.toNat = xb at *
          generalize x.a.toNat = xa at *
          generalize y.r.toNat = yr at *
          generalize y.g.toNat = yg at *
          generalize y.b.toNat = yb at *
          generalize y.a.toNat = ya at *
          generalize z.r.toNat = zr at *
          generalize z.g.toNat = zg at *
          generalize z.b.toNat = zb at *
          generalize z.a.toNat = za at *
          clear hX hY hZ hX1 hY1 hZ1
          by_cases hfg : f1 < f2
          all_goals
            have hfd : decide ((f1 : Int) < (f2 : Int)) = decide (f1 < f2) := by simp
            first | rw [decide_eq_true hfg] at hfd | rw [decide_eq_false hfg] at hfd
            have hfi := hfg
            first | rw [← Int.ofNat_lt] at hfi | skip
            go_wp2_with fail
            haveI : Nonempty (BelowOf wr.heap.size wr) := ⟨⟨wr, Below.refl _ _⟩⟩
            refine region_below wr.heap.size wr (Below.refl _ _) (by kernel_rfl) ?_
            repeat (quiet_step (first | (go_at_call_of 35 yr; with_reducible exact Calls.below_of (Nat.le_refl _) (unhide C1 _)) | (go_at_call_of 35 zr; with_reducible exact Calls.below_of (Nat.le_refl _) (unhide C2 _))))
            refine wpQuiet_nil ?_
            intro wb hw'
            obtain ⟨pw, hpw⟩ := hw'
            have hwb := pw.prf
            rw [← hpw] at hwb
            have HWB := hide ((unhide HW).trans (hwb.mono hzw))
            clear hpw hwb x0 x1 x2 x3 y0 y1 y2 y3 z0 z1 z2 z3 u2 cB C1 C2
            go_wp2
            go_roundw
          case rel =>
            refine ⟨k + 1, k, by omega, by omega, by go_num, rfl, hlk, ?_, HWB⟩
            show _ = _
            rw [Nat.add_sub_cancel, unhide HST, if_pos hfg]
          case measure => simp [intOf]; omega
          case rel =>
            refine ⟨k + 1, g, by omega, by omega, by go_num, rfl, hg, ?_, HWB⟩
            show _ = _
            rw [Nat.add_sub_cancel, unhide HST, if_neg hfg]
          case measure => simp [intOf]; omega
        · obtain rfl : k = M := by omega
          have d2 : decide ((k : Int) < (k : Int)) = false := by simp
          have HGM : Hid (g = lst q x m) := by
            have e := unhide HG
            rw [show k - 1 = m by have := unhide HME; omega] at e
            exact e
          have HNr := hide (own_belowP (unhide HN) (unhide HW))
          have HA5 := hide (al1 wr (.cells #[.int .i64 (g : Int)] 3))
          have HQ : Hid ((wr.alloc (.cells #[.int .i64 (g : Int)] 3)).cell? ⟨wr.heap.size, 0, none⟩ = some (.int .i64 (g : Int))) := by
            show _ = _
            rw [World.cell?_alloc_mark]
            rfl
          have HN5 := hide ((unhide HNr).alloc (.cells #[.int .i64 (g : Int)] 3))
          have hBr : B + 1 ≤ wr.heap.size := by omega
          clear HN HW HK HB HNr hlk k2 cB
          go_wp2_with (at_builtin; refine wpList_appN2 _ rfl (.tmp 46) (.tmp 48) rfl (B + 1) wr.heap.size (.slice na ni nc) (mpL p q m i) g rfl rfl (by rw [← unhide HNI]; exact unhide HN5) (unhide HQ) (by rw [← unhide HNI]; omega) (by have := (unhide HA5).size; omega) ?_)
          intro v6 w6 ho6 hg6 hat6
          obtain ⟨hs5, _, hb5⟩ := unhide HA5
          have hz6 := hg6.size
          have hno : ∀ q, (Value.slice na ni nc).ownBlock = some q → B < q := fun q e => ((unhide HN5).lt q e).1
          have HN6 : Hid (w6.ownsRow (B + 1) 3 1 v6 (mpL p q m (i + 1)).length (nV (mpL p q m (i + 1)))) := by
            show World.ownsRow _ _ _ _ _ _ _
            rw [unhide HNS, ← unhide HGM]
            first | exact ho6 | (rw [List.length_append]; exact ho6)
          have HB6 := hide (((unhide HBr).trans (hb5.mono (show B ≤ wr.heap.size by omega))).grown hg6 (by omega) (fun z e => by have := hno z e; omega))
          have HK6 := hide ((hg6.block B (by omega) (fun e => by have := hno B e.symm; omega)).trans (blk_alloc (unhide HKr) (.cells #[.int .i64 (g : Int)] 3)))
          have hz7 : B + 1 ≤ w6.heap.size := by omega
          have cB : w6.cell? ⟨B, 2, none⟩ = some (.slice (some ⟨bP, oP, none⟩) n c) := blk_cell (unhide HK6) 2
          have u2 : ∀ P : BelowOf w6.heap.size w6, P.wld.cell? ⟨B, 2, none⟩ = some (.slice (some ⟨bP, oP, none⟩) n c) := fun P => (P.prf.cell (p := ⟨B, 2, none⟩) (by show B < _; omega)).trans cB
          have hX := all_px (unhide HX w6 (unhide HB6))
          have hZ := all_px (unhide HY w6 g hg (unhide HB6))
          have hX1 := unhide HX w6 (unhide HB6)
          have hZ1 := unhide HY w6 g hg (unhide HB6)
          have C1 := hide (unhide HC x (q g))
          have hfl := farP_le x (q g)
          have hgg : (g : Int) < (k : Int) := by omega
          have HSN : Hid (s + farP x (q g) = farN p q (i + 1) m) := by
            show _ = _
            rw [unhide HSS, ← unhide HS, ← unhide HGM]
          generalize farP x (q g) = f at *
          generalize q g = z at *
          have hsw : IntKind.i64.wrap ((s : Int) + (f : Int)) = (s : Int) + (f : Int) := by rw [IntKind.wrap_i64]; omega
          have x0 := fun P => (hX P).r
          have x1 := fun P => (hX P).g
          have x2 := fun P => (hX P).b
          have x3 := fun P => (hX P).a
          have z0 := fun P => (hZ P).r
          have z1 := fun P => (hZ P).g
          have z2 := fun P => (hZ P).b
          have z3 := fun P => (hZ P).a
          generalize x.r.toNat = xr at *
          generalize x.g.toNat = xg at *
          generalize x.b.toNat = xb at *
          generalize x.a.toNat = xa at *
          generalize z.r.toNat = zr at *
          generalize z.g.toNat = zg at *
          generalize z.b.toNat = zb at *
          generalize z.a.toNat = za at *
          clear hX hZ hX1 hZ1 ho6 hg6 hat6 hno hb5 hs5 hz6 HA5 HQ HN5 HBr HKr HNS HNI HSS HG HGM HS
          go_wp2_with fail
          haveI : Nonempty (BelowOf w6.heap.size w6) := ⟨⟨w6, Below.refl _ _⟩⟩
          refine region_below w6.heap.size w6 (Below.refl _ _) (by kernel_rfl) ?_
          repeat (quiet_step ((go_at_call_of 35 zr; with_reducible exact Calls.below_of (Nat.le_refl _) (unhide C1 _))))
          refine wpQuiet_nil ?_
          intro wb hw'
          obtain ⟨pw, hpw⟩ := hw'
          have hwb := pw.prf
          rw [← hpw] at hwb
          have hzb := hwb.size
          have HBb := hide ((unhide HB6).trans (hwb.mono (show B ≤ w6.heap.size by omega)))
          have HKb := hide (blk_below (unhide HK6) hwb (blk_lt (unhide HK6)))
          have HNb := hide (own_belowP (unhide HN6) hwb)
          have hz8 : B + 1 ≤ wb.heap.size := by omega
          clear hpw hwb x0 x1 x2 x3 z0 z1 z2 z3 u2 cB C1 HB6 HK6 HN6
          go_wp2
          go_roundw
          case rel => exact ⟨i + 1, s + f, by omega, by go_num, by go_num, HSN, HNb, HKb, HBb, hz8⟩
          case measure => simp [intOf]; omega
    · obtain rfl : i = n := by omega
      have d1 : decide ((i : Int) < (i : Int)) = false := by simp
      have hnl := mpL_length p q m i
      rw [hnl] at HN
      have HF := hide (own_rebase (unhide HN) (Nat.le_succ B))
      clear HN
      go_wp2
      go_ret2
      rw [← unhide HBE, ← unhide HS]
      exact ⟨na, nc, by first | rfl | (simp only [hnl]; rfl), unhide HF, unhide HB⟩
end Go.Proofs.YtpfobocdbmiagaaDoor
