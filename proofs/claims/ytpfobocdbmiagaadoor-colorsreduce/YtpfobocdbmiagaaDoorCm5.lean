/- A better palette: the document's. -/
import Derived.Test.YtpfobocdbmiagaaDoorCf4
import Derived.Test.YtpfobocdbmiagaaDoorCm2
import Derived.Test.YtpfobocdbmiagaaDoorMg12
import Derived.Test.YtpfobocdbmiagaaDoorRo0
namespace Go.Proofs.YtpfobocdbmiagaaDoor
open Go.RowKit

theorem dmean_any (n t : Nat) (w : World) (ht : 1 ≤ t) (ht2 : t ≤ 1000000) (hn : n ≤ 255 * t) :
    Calls Tryd.prog 36 #[.int .i64 (n : Int), .int .i64 (t : Int)] w fun e w' => e = .returned (.int .u8 (rdN n t : Int)) ∧ w' = w := by
  have hl := rdN_le ht hn
  have hp := rdN_parts (n := n) ht
  have hq : n / t * t ≤ n := Nat.div_mul_le_self n t
  have hqb : n / t ≤ 255 := by
    refine Nat.lt_succ_iff.1 (Nat.div_lt_of_lt_mul ?_)
    have e : t * Nat.succ 255 = 256 * t := Nat.mul_comm _ _
    omega
  have hd : (n : Int) / (t : Int) = ((n / t : Nat) : Int) := by simp
  have hm : ((n / t : Nat) : Int) * (t : Int) = ((n / t * t : Nat) : Int) := by simp
  have HP := hide hp
  clear hp
  generalize n / t = q at *
  obtain ⟨y, hy⟩ : ∃ y, y = q * t := ⟨_, rfl⟩
  rw [← hy] at hm hq HP
  generalize rdN n t = r at *
  have ht0 : ¬ (t : Int) = 0 := by omega
  have htp : 0 < (t : Int) := by omega
  have h1000 : (n : Int) ≤ 300000000 := by omega
  clear hy hn
  by_cases hc : 2 * (n - y) ≥ t
  · have HR : Hid (r = q + 1) := by have := unhide HP; rw [if_pos hc] at this; exact this
    have d1 : decide (2 * ((n : Int) - (y : Int)) ≥ (t : Int)) = true := decide_eq_true (by omega)
    have d1' : decide ((t : Int) ≤ 2 * ((n : Int) - (y : Int))) = true := d1
    have hwr : IntKind.u8.wrap ((q : Int) + 1) = (q : Int) + 1 := by rw [IntKind.wrap_u8]; have := unhide HR; omega
    have hql : q + 1 ≤ 255 := by have := unhide HR; omega
    clear HP hl
    go_enter Tryd.func36, Tryd.ntmps36
    go_wp2
    go_ret
    rw [unhide HR]
    exact ⟨rfl, rfl⟩
  · have HR : Hid (r = q) := by have := unhide HP; rw [if_neg hc] at this; exact this
    have d1 : decide (2 * ((n : Int) - (y : Int)) ≥ (t : Int)) = false := decide_eq_false (by omega)
    have d1' : decide ((t : Int) ≤ 2 * ((n : Int) - (y : Int))) = false := d1
    have hwr : IntKind.u8.wrap (q : Int) = (q : Int) := by rw [IntKind.wrap_u8]; omega
    clear HP hl
    go_enter Tryd.func36, Tryd.ntmps36
    go_wp2
    go_ret
    rw [unhide HR]
    exact ⟨rfl, rfl⟩

/-- The first n colors of the better palette. -/
def btL (p q : Nat → Px) (n m i : Nat) : List Px := (List.range i).map (btP p q n m)
theorem btL_succ (p q : Nat → Px) (n m i : Nat) : btL p q n m (i + 1) = btL p q n m i ++ [btP p q n m i] := by unfold btL; rw [List.range_succ, List.map_append]; rfl
theorem btL_length (p q : Nat → Px) (n m i : Nat) : (btL p q n m i).length = i := by unfold btL; rw [List.length_map, List.length_range]
theorem btL_at (p q : Nat → Px) (n m i j : Nat) (h : j < i) : (btL p q n m i).getD j default = btP p q n m j := by
  unfold btL
  rw [List.getD_eq_getElem?_getD, List.getElem?_map, List.getElem?_range h]
  rfl
theorem one_tot (p : Nat → Px) (n : Nat) : totU (oneU p) n = n := by
  induction n with
  | zero => rfl
  | succ n ih => show totU (oneU p) n + 1 = n + 1; rw [ih]
/-- A round over the pixels. -/
theorem sS_one (p : Nat → Px) (nr : Nat → Nat) (k i : Nat) : sS (oneU p) nr k (i + 1) = if nr i = k then ⟨(sS (oneU p) nr k i).r + (p i).r.toNat, (sS (oneU p) nr k i).g + (p i).g.toNat, (sS (oneU p) nr k i).b + (p i).b.toNat, (sS (oneU p) nr k i).a + (p i).a.toNat, (sS (oneU p) nr k i).t + 1⟩ else sS (oneU p) nr k i := by
  show (if nr i = k then (sS (oneU p) nr k i).add (oneU p i) else sS (oneU p) nr k i) = _
  unfold Sm.add oneU
  simp only [Nat.mul_one]

set_option maxHeartbeats 8000000 in
set_option maxRecDepth 100000 in
theorem betterOf_any (W H : Int) (a : Option Addr) (n c : Nat) (p : Nat → Px) (b : Option Addr) (m d : Nat) (q : Nat → Px) (w : World) (hA : IsPx w a n p) (hP : IsPx w b (m + 1) q) (hn : n ≤ 70000) (hn1 : 1 ≤ n) (hm : m ≤ 1000) :
    Calls Tryd.prog 23 #[.agg #[.int .i64 W, .int .i64 H, .slice a n c], .slice b (m + 1) d] w fun e w' => ∃ a3 c3, e = .returned (.slice a3 (m + 1) c3) ∧ IsPx w' a3 (m + 1) (btP p q n m) ∧ Below w.heap.size w w' := by
  obtain ⟨bP, oP, rfl, hmP, hcP⟩ := hA.resolve_left (by omega)
  have hbP := (hcP 0 (by omega)).lt
  have HX := hide (fun w1 (h : Below w.heap.size w w1) i (hi : i < n) => (hcP i hi).below h hbP)
  have HQ := hide (fun w1 (h : Below w.heap.size w w1) => hP.below h)
  have HM := hide (fun w1 (h : Below w.heap.size w w1) => mapOf_any W H (some ⟨bP, oP, none⟩) n c p b m d q w1 (hA.below h) (hP.below h) hn hm)
  have HAL := hide (al1 w (.cells #[.int .i64 W, .int .i64 H, .slice (some ⟨bP, oP, none⟩) n c] 24))
  obtain ⟨M, hM⟩ : ∃ M, M = m + 1 := ⟨_, rfl⟩
  rw [← hM] at HQ HM ⊢
  have hM2 : 1 ≤ M ∧ M ≤ 1001 := by omega
  obtain ⟨nr, hnr⟩ : ∃ nr : Nat → Nat, nr = fun i => lst q (p i) m := ⟨_, rfl⟩
  have HNL : Hid (∀ i, i < n → (mpL p q m n).getD i 0 = nr i ∧ nr i ≤ 1000) := fun i hi => by
    rw [hnr]
    exact ⟨mpL_at p q m n i hi, by have := lst_le q (p i) m; show lst q (p i) m ≤ 1000; omega⟩
  have HBT : Hid (∀ k, btP p q n m k = if 0 < (sS (oneU p) nr k n).t then meanP (sS (oneU p) nr k n) else q k) := fun k => by rw [hnr]; rfl
  obtain ⟨B, hB⟩ : ∃ B, B = w.heap.size := ⟨_, rfl⟩
  clear hA hP hM hm hcP hbP hmP hnr
  go_enter Tryd.func23, Tryd.ntmps23
  go_wp2_with fail
  generalize w.alloc (.cells #[.int .i64 W, .int .i64 H, .slice (some ⟨bP, oP, none⟩) n c] 24) = w1 at *
  rw [← hB] at HAL HX HQ HM ⊢
  obtain ⟨hs1, k1, hb1⟩ := unhide HAL
  have HBE := hide hB
  refine (unhide HM _ hb1).mono ?_
  rintro e w2 ⟨aN, cN, rfl, hoN, hb2⟩
  have hz2 := hb2.size
  obtain ⟨gN, rfl, hgN, hgl⟩ := own_some hoN (by omega)
  have HN2 := hide (fun wr (h : Below w2.heap.size w2 wr) i (hi : i < n) => show wr.cell? ⟨gN, i, none⟩ = some (.int .i64 (nr i : Int)) by
    rw [h.cell (p := ⟨gN, i, none⟩) hgl, hoN.cellAt i (by omega), nV_at _ _ (by rw [mpL_length]; exact hi), (unhide HNL i hi).1])
  have HB2 := hide (hb1.trans (hb2.mono (by omega)))
  have HK2 := hide (blk_below k1 hb2 (blk_lt k1))
  obtain ⟨C, hC⟩ : ∃ C, C = w2.heap.size := ⟨_, rfl⟩
  rw [← hC] at HN2
  have hCB : B + 1 ≤ C := by omega
  have HNR : Hid (∀ i, i < n → nr i ≤ 1000) := fun i hi => (unhide HNL i hi).2
  have HN0 : Hid (w2.ownsRow C 40 4 (.slice none 0 0) (btL p q n m 0).length (pxL (btL p q n m 0))) := World.ownsRow_nil _ _ _ _
  have HBK := hide (fun wr (h : Below C w2 wr) => And.intro ((unhide HB2).trans (h.mono (show B ≤ C by omega))) (blk_below (unhide HK2) h (show B < C by omega)))
  have HSL : Hid (∀ k i, i ≤ n → (sS (oneU p) nr k i).t ≤ 70000 ∧ (sS (oneU p) nr k i).r ≤ 255 * (sS (oneU p) nr k i).t ∧ (sS (oneU p) nr k i).g ≤ 255 * (sS (oneU p) nr k i).t ∧ (sS (oneU p) nr k i).b ≤ 255 * (sS (oneU p) nr k i).t ∧ (sS (oneU p) nr k i).a ≤ 255 * (sS (oneU p) nr k i).t) := fun k i hi => ⟨by have h1 := sS_tot (oneU p) nr k i; rw [one_tot] at h1; omega, sS_le (oneU p) nr k i⟩
  have hz0 : C ≤ w2.heap.size := by omega
  have HBb : Hid (Below C w2 w2) := Below.refl _ _
  clear HAL k1 hb1 hB hs1 hoN hgN hb2 HM HB2 HK2 hC hgl HNL hz2
  go_wp2
  go_loopw [7, 8] (fun nv iv wr => ∃ k : Nat, k ≤ M ∧ iv = .int .i64 (k : Int) ∧ Hid (wr.ownsRow C 40 4 nv (btL p q n m k).length (pxL (btL p q n m k))) ∧ Hid (Below C w2 wr) ∧ C ≤ wr.heap.size) (fun _ iv _ => M - (intOf iv).toNat)
  case atStart => exact ⟨0, Nat.zero_le _, rfl, HN0, HBb, hz0⟩
  case round =>
    clear HN0 HBb hz0
    obtain ⟨k, hk, rfl, HN, HB, hz⟩ := hrel
    obtain ⟨na, nc, rfl⟩ := own_shape4 (unhide HN)
    by_cases hlt : k < M
    · have d1 : decide ((k : Int) < (M : Int)) = true := decide_eq_true (by omega)
      have d1n : decide (k < M) = true := decide_eq_true hlt
      have hii : (k : Int) < (M : Int) := by omega
      obtain ⟨ni, hni⟩ : ∃ ni, ni = (btL p q n m k).length := ⟨_, rfl⟩
      rw [← hni] at HN ⊢
      have HNI := hide hni
      have hnib : ni ≤ 1001 := by rw [hni, btL_length]; omega
      clear hni
      go_wp2
      go_loopw [9, 10, 11, 12, 13, 14] (fun rv gv bv av tv iv wq => ∃ (i nn : Nat) (s : Sm), i ≤ n ∧ iv = .int .i64 (i : Int) ∧ rv = .int .i64 (s.r : Int) ∧ gv = .int .i64 (s.g : Int) ∧ bv = .int .i64 (s.b : Int) ∧ av = .int .i64 (s.a : Int) ∧ tv = .int .i64 (s.t : Int) ∧ Hid (s = sS (oneU p) nr k i) ∧ wq = wr.drewN nn) (fun _ _ _ _ _ iv _ => n - (intOf iv).toNat)
      case atStart => exact ⟨0, 0, sm0, Nat.zero_le _, rfl, rfl, rfl, rfl, rfl, rfl, rfl, rfl⟩
      case round =>
        obtain ⟨i, nn, s, hi, rfl, rfl, rfl, rfl, rfl, rfl, HS, rfl⟩ := hrel
        have cB : wr.cell? ⟨B, 2, none⟩ = some (.slice (some ⟨bP, oP, none⟩) n c) := blk_cell ((unhide HBK) wr (unhide HB)).2 2
        have hb := (unhide HSL) k i hi
        rw [← unhide HS] at hb
        obtain ⟨b5, b1, b2, b3, b4⟩ := hb
        by_cases hlt2 : i < n
        · have d2 : decide ((i : Int) < (n : Int)) = true := decide_eq_true (by omega)
          have d2n : decide (i < n) = true := decide_eq_true hlt2
          have hii2 : (i : Int) < (n : Int) := by omega
          obtain ⟨x0, x1, x2, x3⟩ := unhide HX wr ((unhide HBK) wr (unhide HB)).1 i hlt2
          have n0 := unhide HN2 wr (unhide HB) i hlt2
          have hnb := unhide HNR i hlt2
          have HS1 := hide (sS_one p nr k i)
          have l1 := (p i).r.toNat_lt
          have l2 := (p i).g.toNat_lt
          have l3 := (p i).b.toNat_lt
          have l4 := (p i).a.toNat_lt
          by_cases he : nr i = k
          · have e1 : ((nr i : Int) == (k : Int)) = true := by simp; omega
            have e2 : (nr i : Int) = (k : Int) := by omega
            have HS2 : Hid ((⟨s.r + (p i).r.toNat, s.g + (p i).g.toNat, s.b + (p i).b.toNat, s.a + (p i).a.toNat, s.t + 1⟩ : Sm) = sS (oneU p) nr k (i + 1)) := by
              show _ = _
              rw [unhide HS1, if_pos he, ← unhide HS]
            generalize hk2 : nr i = k2 at *
            generalize p i = x at *
            subst he
            clear HS HS1 hk2
            go_wp2
            go_roundw
            case rel => exact ⟨i + 1, _, ⟨s.r + x.r.toNat, s.g + x.g.toNat, s.b + x.b.toNat, s.a + x.a.toNat, s.t + 1⟩, by omega, by go_num, by go_num, by go_num, by go_num, by go_num, by go_num, HS2, rfl⟩
            case measure => simp [intOf]; omega
          · have e1 : ((nr i : Int) == (k : Int)) = false := by simp; omega
            have e2 : ¬ (nr i : Int) = (k : Int) := by omega
            have HS2 : Hid (s = sS (oneU p) nr k (i + 1)) := by
              show _ = _
              rw [unhide HS1, if_neg he]
              exact unhide HS
            generalize nr i = k2 at *
            generalize p i = x at *
            clear HS HS1 he
            go_wp2
            go_roundw
            case rel => exact ⟨i + 1, _, s, by omega, by go_num, rfl, rfl, rfl, rfl, rfl, HS2, rfl⟩
            case measure => simp [intOf]; omega
        · obtain rfl : i = n := by omega
          have d2 : decide ((i : Int) < (i : Int)) = false := by simp
          obtain ⟨bQ, oQ, rfl, _, hcQ⟩ := (unhide HQ wr ((unhide HBK) wr (unhide HB)).1).resolve_left (by omega)
          obtain ⟨x0, x1, x2, x3⟩ := hcQ k hlt
          have HY := hide (unhide HBT k)
          rw [← unhide HS] at HY
          have HBS := hide (btL_succ p q i m k)
          have hbD := below_drewN (Below.refl wr.heap.size wr) nn
          have HB4 := hide ((unhide HB).trans (hbD.mono hz))
          have HN4 := hide (own_belowP (unhide HN) hbD)
          have hz4 : C ≤ (wr.drewN nn).heap.size := hz
          have x0 : (wr.drewN nn).cell? ⟨bQ, oQ + k * 4, none⟩ = _ := x0
          have x1 : (wr.drewN nn).cell? ⟨bQ, oQ + k * 4 + 1, none⟩ = _ := x1
          have x2 : (wr.drewN nn).cell? ⟨bQ, oQ + k * 4 + 2, none⟩ = _ := x2
          have x3 : (wr.drewN nn).cell? ⟨bQ, oQ + k * 4 + 3, none⟩ = _ := x3
          have cB : (wr.drewN nn).cell? ⟨B, 2, none⟩ = _ := cB
          generalize wr.drewN nn = w4 at *
          generalize btP p q i m k = y at *
          generalize q k = z at *
          have HA1 := hide (al1 w4 (.cells #[.int .u8 (z.r.toNat : Int), .int .u8 (z.g.toNat : Int), .int .u8 (z.b.toNat : Int), .int .u8 (z.a.toNat : Int)] 40))
          clear hcQ hbD HN HB HS hz HX HN2
          go_upto_region 21 with fail
          generalize w4.alloc (.cells #[.int .u8 (z.r.toNat : Int), .int .u8 (z.g.toNat : Int), .int .u8 (z.b.toNat : Int), .int .u8 (z.a.toNat : Int)] 40) = w5 at *
          obtain ⟨hs5, k5, hb5⟩ := unhide HA1
          have HB5 := hide ((unhide HB4).trans (hb5.mono hz4))
          have HN5 := hide (own_belowP (unhide HN4) hb5)
          obtain ⟨V, hV⟩ : ∃ V, V = w4.heap.size := ⟨_, rfl⟩
          rw [← hV] at hs5 k5 ⊢
          have HVN : Hid (∀ g, (Value.slice na ni nc).ownBlock = some g → g < V) := fun g e => by have := ((unhide HN4).lt g e).2; omega
          have hVC : C ≤ V := by omega
          clear HA1 HN4 HB4 hb5 x0 x1 x2 x3 hz4 hV cB
          by_cases ht : 0 < s.t
          · have e1 : decide ((s.t : Int) > 0) = true := decide_eq_true (by omega)
            have e1' : decide ((0 : Int) < (s.t : Int)) = true := e1
            have e1n : decide (0 < s.t) = true := decide_eq_true ht
            have C1 := hide (fun w' => dmean_any s.r s.t w' ht (by omega) b1)
            have C2 := hide (fun w' => dmean_any s.g s.t w' ht (by omega) b2)
            have C3 := hide (fun w' => dmean_any s.b s.t w' ht (by omega) b3)
            have C4 := hide (fun w' => dmean_any s.a s.t w' ht (by omega) b4)
            have HV : Hid ((y.r.toNat : Int) = (rdN s.r s.t : Int) ∧ (y.g.toNat : Int) = (rdN s.g s.t : Int) ∧ (y.b.toNat : Int) = (rdN s.b s.t : Int) ∧ (y.a.toNat : Int) = (rdN s.a s.t : Int)) := by
              have h := unhide HY
              rw [if_pos ht] at h
              rw [h]
              exact ⟨u8_num (rdN_le ht b1), u8_num (rdN_le ht b2), u8_num (rdN_le ht b3), u8_num (rdN_le ht b4)⟩
            generalize rdN s.r s.t = m1 at *
            generalize rdN s.g s.t = m2 at *
            generalize rdN s.b s.t = m3 at *
            generalize rdN s.a s.t = m4 at *
            have t0 : w5.cell? ⟨V, 0, none⟩ = some (.int .u8 (z.r.toNat : Int)) := blk_cell k5 0
            have t1 : w5.cell? ⟨V, 1, none⟩ = some (.int .u8 (z.g.toNat : Int)) := blk_cell k5 1
            have t2 : w5.cell? ⟨V, 2, none⟩ = some (.int .u8 (z.b.toNat : Int)) := blk_cell k5 2
            have t3 : w5.cell? ⟨V, 3, none⟩ = some (.int .u8 (z.a.toNat : Int)) := blk_cell k5 3
            have f0 := blk_frozen k5 0
            have f1 := blk_frozen k5 1
            have f2 := blk_frozen k5 2
            have f3 := blk_frozen k5 3
            have HT := hide (show PxAt w5 V 0 z from ⟨t0, t1, t2, t3⟩)
            clear k5 HY
            go_wp2_with fail
            refine (unhide C1 _).mono ?_; rintro e w5 ⟨rfl, rfl⟩
            go_wp2_with fail
            refine (unhide C2 _).mono ?_; rintro e w5 ⟨rfl, rfl⟩
            go_wp2_with fail
            refine (unhide C3 _).mono ?_; rintro e w5 ⟨rfl, rfl⟩
            go_wp2_with fail
            refine (unhide C4 _).mono ?_; rintro e w5 ⟨rfl, rfl⟩
            go_upto_region 23 with fail
            obtain ⟨g1, g2, g3, g4⟩ := unhide HV
            have hpe : (((w5.setCell ⟨V, 0, none⟩ (.int .u8 (m1 : Int))).setCell ⟨V, 1, none⟩ (.int .u8 (m2 : Int))).setCell ⟨V, 2, none⟩ (.int .u8 (m3 : Int))).setCell ⟨V, 3, none⟩ (.int .u8 (m4 : Int)) = put4 w5 V 0 y := by
              unfold put4
              rw [g1, g2, g3, g4]
            rw [hpe]
            obtain ⟨v0, v1, v2, v3⟩ := put4_at y (unhide HT)
            have HN6 := hide (own_stay (unhide HN5) (fun g e => put4_far w5 V 0 g y (by have := unhide HVN g e; omega)))
            have HB6 := hide (put4_below (unhide HB5) hVC y (o := 0))
            have hs6 : (put4 w5 V 0 y).heap.size = V + 1 := by rw [put4_size]; exact hs5
            generalize put4 w5 V 0 y = w6 at *
            clear hpe g1 g2 g3 g4 HV HT HN5 HB5 HVN t0 t1 t2 t3 f0 f1 f2 f3 C1 C2 C3 C4 hs5
            have HA7 := hide (al1 w6 (.cells #[.int .u8 (y.r.toNat : Int), .int .u8 (y.g.toNat : Int), .int .u8 (y.b.toNat : Int), .int .u8 (y.a.toNat : Int)] 40))
            have HF7 := hide (four_new w6 y 40)
            have HN7 := hide ((unhide HN6).alloc (.cells #[.int .u8 (y.r.toNat : Int), .int .u8 (y.g.toNat : Int), .int .u8 (y.b.toNat : Int), .int .u8 (y.a.toNat : Int)] 40))
            have HS6 := hide hs6
            clear HN6 HSL hs6
            go_wp2_with (at_builtin; refine wpList_appPx1 _ rfl (.tmp 98) (.tmp 100) rfl C w6.heap.size (.slice na ni nc) (btL p q i m k) y rfl rfl (by rw [← unhide HNI]; exact unhide HN7) (unhide HF7) (by rw [← unhide HNI]; omega) (by have := (unhide HA7).size; have := unhide HS6; omega) ?_)
            intro v8 w8 ho8 hg8 hat8
            have hs6 := unhide HS6
            obtain ⟨hs7, _, hb7⟩ := unhide HA7
            have hz8 := hg8.size
            have hno : ∀ q, (Value.slice na ni nc).ownBlock = some q → C ≤ q := fun q e => ((unhide HN7).lt q e).1
            have HN8 : Hid (w8.ownsRow C 40 4 v8 (btL p q i m (k + 1)).length (pxL (btL p q i m (k + 1)))) := by
              show World.ownsRow _ _ _ _ _ _ _
              rw [unhide HBS]
              first | exact ho8 | (rw [List.length_append]; exact ho8)
            have HB8 : Hid (Below C w2 w8) := ((unhide HB6).trans (hb7.mono (show C ≤ w6.heap.size by omega))).grown hg8 (by omega) (fun z e => hno z e)
            have hz9 : C ≤ w8.heap.size := by omega
            clear ho8 hg8 hat8 HN7 HB6 HA7 HF7 hno hb7 hs7 hz8 HBS HNI v0 v1 v2 v3
            go_wp2
            go_roundw
            case rel => exact ⟨k + 1, by omega, by go_num, HN8, HB8, hz9⟩
            case measure => simp [intOf]; omega
          · have e1 : decide ((s.t : Int) > 0) = false := decide_eq_false (by omega)
            have e1' : decide ((0 : Int) < (s.t : Int)) = false := e1
            have e1n : decide (0 < s.t) = false := decide_eq_false ht
            have hyz : y = z := by have h := unhide HY; rw [if_neg ht] at h; exact h
            subst hyz
            have v0 : w5.cell? ⟨V, 0, none⟩ = some (.int .u8 (y.r.toNat : Int)) := blk_cell k5 0
            have v1 : w5.cell? ⟨V, 1, none⟩ = some (.int .u8 (y.g.toNat : Int)) := blk_cell k5 1
            have v2 : w5.cell? ⟨V, 2, none⟩ = some (.int .u8 (y.b.toNat : Int)) := blk_cell k5 2
            have v3 : w5.cell? ⟨V, 3, none⟩ = some (.int .u8 (y.a.toNat : Int)) := blk_cell k5 3
            obtain ⟨w6, rfl⟩ : ∃ w6, w6 = w5 := ⟨_, rfl⟩
            have HN6 := HN5
            have HB6 := HB5
            have hs6 := hs5
            clear HN5 HB5 hs5 k5 HY HVN
            have HA7 := hide (al1 w6 (.cells #[.int .u8 (y.r.toNat : Int), .int .u8 (y.g.toNat : Int), .int .u8 (y.b.toNat : Int), .int .u8 (y.a.toNat : Int)] 40))
            have HF7 := hide (four_new w6 y 40)
            have HN7 := hide ((unhide HN6).alloc (.cells #[.int .u8 (y.r.toNat : Int), .int .u8 (y.g.toNat : Int), .int .u8 (y.b.toNat : Int), .int .u8 (y.a.toNat : Int)] 40))
            have HS6 := hide hs6
            clear HN6 HSL hs6
            go_wp2_with (at_builtin; refine wpList_appPx1 _ rfl (.tmp 98) (.tmp 100) rfl C w6.heap.size (.slice na ni nc) (btL p q i m k) y rfl rfl (by rw [← unhide HNI]; exact unhide HN7) (unhide HF7) (by rw [← unhide HNI]; omega) (by have := (unhide HA7).size; have := unhide HS6; omega) ?_)
            intro v8 w8 ho8 hg8 hat8
            have hs6 := unhide HS6
            obtain ⟨hs7, _, hb7⟩ := unhide HA7
            have hz8 := hg8.size
            have hno : ∀ q, (Value.slice na ni nc).ownBlock = some q → C ≤ q := fun q e => ((unhide HN7).lt q e).1
            have HN8 : Hid (w8.ownsRow C 40 4 v8 (btL p q i m (k + 1)).length (pxL (btL p q i m (k + 1)))) := by
              show World.ownsRow _ _ _ _ _ _ _
              rw [unhide HBS]
              first | exact ho8 | (rw [List.length_append]; exact ho8)
            have HB8 : Hid (Below C w2 w8) := ((unhide HB6).trans (hb7.mono (show C ≤ w6.heap.size by omega))).grown hg8 (by omega) (fun z e => hno z e)
            have hz9 : C ≤ w8.heap.size := by omega
            clear ho8 hg8 hat8 HN7 HB6 HA7 HF7 hno hb7 hs7 hz8 HBS HNI v0 v1 v2 v3
            go_wp2
            go_roundw
            case rel => exact ⟨k + 1, by omega, by go_num, HN8, HB8, hz9⟩
            case measure => simp [intOf]; omega
    · obtain rfl : k = M := by omega
      have d1 : decide ((k : Int) < (k : Int)) = false := by simp
      have hnl := btL_length p q n m k
      have hX := unhide HN
      rw [pxL_vals, hnl] at hX
      have HF := hide (And.intro ((own_px hX (by unfold maxLen; omega)).congr (q := btP p q n m) (fun j hj => btL_at p q n m k j hj)) ((unhide HBK) wr (unhide HB)).1)
      clear HN hX HSL HBK HX HN2
      go_wp2
      go_ret
      rw [← unhide HBE]
      exact ⟨na, nc, by first | rfl | (simp only [hnl]; rfl), (unhide HF).1, (unhide HF).2⟩
end Go.Proofs.YtpfobocdbmiagaaDoor
