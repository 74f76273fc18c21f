/- Moving pictures: what covers all or nothing. Moving pictures: what covers nothing has no color: the document's Clean. -/
import Derived.Test.YtjcoahahponabaaGreatDoorMg9
import Derived.Test.YtjcoahahponabaaGreatDoorMg10
import Derived.Deep.CutBlock
namespace Go.Proofs.YtjcoahahponabaaGreatDoor
open Go.RowKit

theorem u8_eq0 {x : UInt8} (h : x.toNat = 0) : x = 0 := UInt8.toNat_inj.1 (by simpa using h)
theorem u8_eq255 {x : UInt8} (h : x.toNat = 255) : x = 255 := UInt8.toNat_inj.1 (by simpa using h)

set_option maxHeartbeats 4000000 in
set_option maxRecDepth 100000 in
theorem allOr_any (W H : Int) (a : Option Addr) (n c : Nat) (q : Nat → Px) (w : World) (hP : IsPx w a n q) (hn : n ≤ 70000) :
    Calls Tryz.prog 89 #[.agg #[.int .i64 W, .int .i64 H, .slice a n c]] w fun e w' => ((AN q n ∧ ∃ a2 c2, e = .returned (.tuple #[.agg #[.int .i64 W, .int .i64 H, .slice a2 n c2], .bool true]) ∧ IsPx w' a2 n (clQ q)) ∨
      (¬ AN q n ∧ e = .returned (.tuple #[.agg #[.int .i64 0, .int .i64 0, .slice none 0 0], .bool false]))) ∧ Below w.heap.size w w' := by
  have hmk := make_pxn n (by omega)
  have HA := hide (al3 w (.cells #[.int .i64 W, .int .i64 H, .slice a n c] 27) (.cells #[.int .i64 0, .int .i64 0, .slice none 0 0] 27) (.cells (madeCells #[.int .u8 0, .int .u8 0, .int .u8 0, .int .u8 0] (n * 4)) 78))
  have HP0 : Hid (PR (((w.alloc (.cells #[.int .i64 W, .int .i64 H, .slice a n c] 27)).alloc (.cells #[.int .i64 0, .int .i64 0, .slice none 0 0] 27)).alloc (.cells (madeCells #[.int .u8 0, .int .u8 0, .int .u8 0, .int .u8 0] (n * 4)) 78)) (w.heap.size + 1 + 1) n (fun k => if k < 0 then clP (q k) else px0)) := by
    have h := made_PR ((w.alloc (.cells #[.int .i64 W, .int .i64 H, .slice a n c] 27)).alloc (.cells #[.int .i64 0, .int .i64 0, .slice none 0 0] 27)) n
    have e : ((w.alloc (.cells #[.int .i64 W, .int .i64 H, .slice a n c] 27)).alloc (.cells #[.int .i64 0, .int .i64 0, .slice none 0 0] 27)).heap.size = w.heap.size + 1 + 1 := by simp
    rw [e] at h
    exact h.congr (fun i _ => by simp)
  have HQ := hide (fun wr (hb : Below w.heap.size w wr) => hP.below hb)
  obtain ⟨B, hB⟩ : ∃ B, B = w.heap.size := ⟨_, rfl⟩
  clear hP
  go_enter Tryz.func89, Tryz.ntmps89
  go_wp2
  generalize ((w.alloc (.cells #[.int .i64 W, .int .i64 H, .slice a n c] 27)).alloc (.cells #[.int .i64 0, .int .i64 0, .slice none 0 0] 27)).alloc (.cells (madeCells #[.int .u8 0, .int .u8 0, .int .u8 0, .int .u8 0] (n * 4)) 78) = w1 at *
  rw [← hB] at HA HP0 HQ ⊢
  obtain ⟨hs1, k0, k1, _, hb1⟩ := unhide HA
  have HB1 := hide hb1
  have HBE := hide hB
  have K0 := hide k0
  have K1 := hide k1
  clear HA hB k0 k1 hb1 hs1 hmk
  have HN0 : Hid (AN q 0) := fun k hk => absurd hk (Nat.not_lt_zero k)
  go_loopw [14] (fun iv wr => ∃ i : Nat, i ≤ n ∧ iv = .int .i64 (i : Int) ∧ Hid (PR wr (B + 1 + 1) n (fun k => if k < i then clP (q k) else px0)) ∧ Hid (AN q i) ∧ Hid (Below B w wr) ∧ Hid (wr.heap[B]? = some (.cells #[.int .i64 W, .int .i64 H, .slice a n c] 27)) ∧ Hid (wr.heap[B + 1]? = some (.cells #[.int .i64 0, .int .i64 0, .slice none 0 0] 27))) (fun iv _ => n - (intOf iv).toNat)
  case atStart => exact ⟨0, by omega, rfl, HP0, HN0, HB1, K0, K1⟩
  case round =>
    clear HP0 HN0 HB1 K0 K1
    obtain ⟨i, hi, rfl, HP, HN, HB, K0, K1⟩ := hrel
    have hlG := (unhide HP).lt
    by_cases hlt : i < n
    · have d1 : decide ((i : Int) < (n : Int)) = true := decide_eq_true (by omega)
      have d1n : decide (i < n) = true := decide_eq_true hlt
      have hii : (i : Int) < (n : Int) := by omega
      obtain ⟨b, o, rfl, _, hc⟩ := (unhide HQ wr (unhide HB)).resolve_left (by omega)
      obtain ⟨x0, x1, x2, x3⟩ := hc i hlt
      have HQI : Hid (q i = q i) := rfl
      obtain ⟨y, hy⟩ : ∃ y, y = q i := ⟨_, rfl⟩
      have HY := hide hy
      rw [← hy] at x0 x1 x2 x3
      have HA5 := hide (al1 wr (.cells #[.int .u8 (y.r.toNat : Int), .int .u8 (y.g.toNat : Int), .int .u8 (y.b.toNat : Int), .int .u8 (y.a.toNat : Int)] 78))
      have HP5 := hide ((unhide HP).block (Below.heap_alloc _ (.cells #[.int .u8 (y.r.toNat : Int), .int .u8 (y.g.toNat : Int), .int .u8 (y.b.toNat : Int), .int .u8 (y.a.toNat : Int)] 78) _ hlG))
      have hBw : B ≤ wr.heap.size := by omega
      clear hc hy HQI
      go_upto_region 5 with fail
      generalize wr.alloc (.cells #[.int .u8 (y.r.toNat : Int), .int .u8 (y.g.toNat : Int), .int .u8 (y.b.toNat : Int), .int .u8 (y.a.toNat : Int)] 78) = w5 at *
      obtain ⟨hs5, k5, hb5⟩ := unhide HA5
      have HB5 := hide ((unhide HB).trans (hb5.mono hBw))
      have K05 := hide (blk_below (unhide K0) hb5 (blk_lt (unhide K0)))
      have K15 := hide (blk_below (unhide K1) hb5 (blk_lt (unhide K1)))
      have y0 : w5.cell? ⟨wr.heap.size, 0, none⟩ = some (.int .u8 (y.r.toNat : Int)) := blk_cell k5 0
      have y1 : w5.cell? ⟨wr.heap.size, 1, none⟩ = some (.int .u8 (y.g.toNat : Int)) := blk_cell k5 1
      have y2 : w5.cell? ⟨wr.heap.size, 2, none⟩ = some (.int .u8 (y.b.toNat : Int)) := blk_cell k5 2
      have y3 : w5.cell? ⟨wr.heap.size, 3, none⟩ = some (.int .u8 (y.a.toNat : Int)) := blk_cell k5 3
      have hY0 : y.a.toNat = 0 → clP y = px0 := fun h => by unfold clP; rw [if_pos (u8_eq0 h)]; rfl
      have hY1 : y.a.toNat ≠ 0 → clP y = y := fun h => by unfold clP; rw [if_neg (fun e => h (by rw [e]; rfl))]
      have HY0 := hide hY0
      have HY1 := hide hY1
      have hGw : B + 1 + 1 ≠ wr.heap.size := by omega
      have hz2 : B + 1 + 1 < w5.heap.size := by omega
      clear HA5 k5 hb5 HP K0 K1 HB x0 x1 x2 x3 hY0 hY1 hs5
      have HE0 : Hid (y.a.toNat = 0 → y.a = 0) := u8_eq0
      have HE1 : Hid (y.a.toNat = 255 → y.a = 255) := u8_eq255
      have HEn : Hid (y.a = 0 ∨ y.a = 255 → y.a.toNat = 0 ∨ y.a.toNat = 255) := fun h => h.imp (fun e => by rw [e]; rfl) (fun e => by rw [e]; rfl)
      by_cases h0 : y.a.toNat = 0
      · have g0 : ((y.a.toNat : Int) == 0) = true := by rw [beq_iff_eq]; omega
        have HNs : Hid (AN q (i + 1)) := fun k hk => by
          rcases Nat.lt_succ_iff_lt_or_eq.1 hk with h | rfl
          · exact unhide HN k h
          · exact .inl (by rw [← unhide HY]; exact unhide HE0 h0)
        have HPs : Hid (PR w5 (B + 1 + 1) n (fun k => if k < i + 1 then clP (q k) else px0)) := (unhide HP5).congr (fun k _ => by
          by_cases e : k = i
          · subst e
            rw [if_neg (by omega), if_pos (by omega), ← unhide HY, unhide HY0 h0]
          · by_cases e2 : k < i
            · rw [if_pos e2, if_pos (by omega)]
            · rw [if_neg e2, if_neg (by omega)])
        clear HP5 HN HE0 HE1 HEn HY HY0 HY1 h0
        go_wp2
        go_roundw
        case rel => exact ⟨i + 1, by omega, by go_num, HPs, HNs, HB5, K05, K15⟩
        case measure => simp [intOf]; omega
      · have g0 : ((y.a.toNat : Int) == 0) = false := by rw [beq_eq_false_iff_ne]; omega
        by_cases h1 : y.a.toNat = 255
        · have g1 : ((y.a.toNat : Int) == 255) = true := by rw [beq_iff_eq]; omega
          have HNs : Hid (AN q (i + 1)) := fun k hk => by
            rcases Nat.lt_succ_iff_lt_or_eq.1 hk with h | rfl
            · exact unhide HN k h
            · exact .inr (by rw [← unhide HY]; exact unhide HE1 h1)
          obtain ⟨t0, t1, t2, t3⟩ := (unhide HP5).px i hlt
          have f0 := (unhide HP5).fr (i * 4)
          have f1 := (unhide HP5).fr (i * 4 + 1)
          have f2 := (unhide HP5).fr (i * 4 + 2)
          have f3 := (unhide HP5).fr (i * 4 + 3)
          have HYs : Hid (clP (q i) = y) := by show _ = _; rw [← unhide HY, unhide HY1 h0]
          clear HN HE0 HE1 HEn HY HY0 HY1 h0 h1
          go_wp2
          go_roundw
          case rel =>
            refine ⟨i + 1, by omega, by go_num, ((unhide HP5).put hlt y).congr (fun k _ => ?_), HNs, put4_below (unhide HB5) (by omega) y, (put4_far _ _ _ _ _ (by omega)).trans (unhide K05), (put4_far _ _ _ _ _ (by omega)).trans (unhide K15)⟩
            unfold updP
            by_cases e : k = i
            · subst e
              rw [if_pos rfl, if_pos (by omega), unhide HYs]
            · rw [if_neg e]
              show (if k < i then clP (q k) else px0) = _
              by_cases e2 : k < i
              · rw [if_pos e2, if_pos (by omega)]
              · rw [if_neg e2, if_neg (by omega)]
          case measure => simp [intOf]; omega
        · have g1 : ((y.a.toNat : Int) == 255) = false := by rw [beq_eq_false_iff_ne]; omega
          have HNo : Hid (¬ AN q n) := fun h => by
            have := h i hlt
            rw [← unhide HY] at this
            rcases unhide HEn this with e | e
            · exact h0 e
            · exact h1 e
          have r0 := blk_frozen (unhide K15) 0
          have r1 := blk_frozen (unhide K15) 1
          have r2 := blk_frozen (unhide K15) 2
          have s0 : w5.cell? ⟨B + 1, 0, none⟩ = some (.int .i64 0) := blk_cell (unhide K15) 0
          have s1 : w5.cell? ⟨B + 1, 1, none⟩ = some (.int .i64 0) := blk_cell (unhide K15) 1
          have s2 : w5.cell? ⟨B + 1, 2, none⟩ = some (.slice none 0 0) := blk_cell (unhide K15) 2
          clear HN HE0 HE1 HEn HY HY0 HY1 HP5 y0 y1 y2 h0 h1
          go_wp2
          refine bodyPost_ret (v := .tuple #[.agg #[.int .i64 0, .int .i64 0, .slice none 0 0], .bool false]) ?_ rfl ⟨.inr ⟨unhide HNo, rfl⟩, ?_⟩
          · rw [results_ct (p := 2) (ty := 27) (u := 3) (by kernel_rfl)]
            go_simp
          · rw [← unhide HBE]
            exact ((((unhide HB5).setCell (p := ⟨B + 1, 0, none⟩) (by show B ≤ B + 1; omega) _).setCell (p := ⟨B + 1, 1, none⟩) (by show B ≤ B + 1; omega) _).setCell (p := ⟨B + 1, 2, none⟩) (by show B ≤ B + 1; omega) _)
    · obtain rfl : i = n := by omega
      have d1 : decide ((i : Int) < (i : Int)) = false := by simp
      have r0 := blk_frozen (unhide K1) 0
      have r1 := blk_frozen (unhide K1) 1
      have r2 := blk_frozen (unhide K1) 2
      have s0 : wr.cell? ⟨B + 1, 0, none⟩ = some (.int .i64 0) := blk_cell (unhide K1) 0
      have s1 : wr.cell? ⟨B + 1, 1, none⟩ = some (.int .i64 0) := blk_cell (unhide K1) 1
      have s2 : wr.cell? ⟨B + 1, 2, none⟩ = some (.slice none 0 0) := blk_cell (unhide K1) 2
      have c0 : wr.cell? ⟨B, 0, none⟩ = some (.int .i64 W) := blk_cell (unhide K0) 0
      have c1 : wr.cell? ⟨B, 1, none⟩ = some (.int .i64 H) := blk_cell (unhide K0) 1
      have c2 : wr.cell? ⟨B, 2, none⟩ = some (.slice a i c) := blk_cell (unhide K0) 2
      have hl : B + 1 < wr.heap.size := blk_lt (unhide K1)
      have HF := hide ((unhide HP).congr (q := clQ q) (fun k hk => by rw [if_pos hk]; rfl))
      clear K0 K1 HP HQ
      go_wp2
      refine bodyPost_ret (v := .tuple #[.agg #[.int .i64 W, .int .i64 H, .slice (some ⟨B + 1 + 1, 0, none⟩) i i], .bool true]) ?_ rfl ⟨.inl ⟨unhide HN, _, _, rfl, ?_⟩, ?_⟩
      · rw [results_ct (p := 2) (ty := 27) (u := 3) (by kernel_rfl)]
        go_simp
      · exact ((unhide HF).block (by rw [Below.heap_setCell _ _ _ _ (by show B + 1 + 1 ≠ B + 1; omega), Below.heap_setCell _ _ _ _ (by show B + 1 + 1 ≠ B + 1; omega), Below.heap_setCell _ _ _ _ (by show B + 1 + 1 ≠ B + 1; omega)])).isPx (by omega)
      · rw [← unhide HBE]
        exact (((unhide HB).setCell (p := ⟨B + 1, 0, none⟩) (by show B ≤ B + 1; omega) _).setCell (p := ⟨B + 1, 1, none⟩) (by show B ≤ B + 1; omega) _).setCell (p := ⟨B + 1, 2, none⟩) (by show B ≤ B + 1; omega) _
end Go.Proofs.YtjcoahahponabaaGreatDoor
namespace Go.Proofs.YtjcoahahponabaaGreatDoor
open Go.RowKit

set_option maxHeartbeats 4000000 in
set_option maxRecDepth 100000 in
theorem clean_any (W H : Int) (a : Option Addr) (n c : Nat) (q : Nat → Px) (w : World) (hP : IsPx w a n q) (h1 : 1 ≤ n) (hn : n ≤ 100000) :
    Calls Tryz.prog 33 #[.agg #[.int .i64 W, .int .i64 H, .slice a n c]] w fun e w' => ∃ g c2, e = .returned (.agg #[.int .i64 W, .int .i64 H, .slice (some ⟨g, 0, none⟩) n c2]) ∧ w.heap.size ≤ g ∧ PR w' g n (clQ q) ∧ Below w.heap.size w w' := by
  have HO := hide (fun wr (hb : Below w.heap.size w wr) => own_any W H a n c q wr (hP.below hb) hn)
  have HA := hide (al2 w (.cells #[.int .i64 W, .int .i64 H, .slice a n c] 27) (.cells #[.int .i64 0, .int .i64 0, .slice none 0 0] 27))
  obtain ⟨B, hB⟩ : ∃ B, B = w.heap.size := ⟨_, rfl⟩
  clear hP
  go_enter Tryz.func33, Tryz.ntmps33
  go_wp2_with fail
  generalize (w.alloc (.cells #[.int .i64 W, .int .i64 H, .slice a n c] 27)).alloc (.cells #[.int .i64 0, .int .i64 0, .slice none 0 0] 27) = w1 at *
  rw [← hB] at HA HO ⊢
  obtain ⟨hs1, k0, k1, hb1⟩ := unhide HA
  have HBE := hide hB
  refine (unhide HO w1 hb1).mono ?_
  rintro e w2 ⟨a2, c2, rfl, ho, hb2⟩
  obtain ⟨g, rfl, hg, hpr⟩ := own_PR ho h1
  have K1 := hide (blk_below k1 hb2 (blk_lt k1))
  have HB2 := hide (hb1.trans (hb2.mono (by omega)))
  have hz2 : B + 2 ≤ w2.heap.size := by have := hb2.size; omega
  have hgB : B + 2 ≤ g := by omega
  have hgl := hpr.lt
  have HP2 := hide hpr
  have HA3 := hide (al1 w2 (.cells #[.int .i64 W, .int .i64 H, .slice (some ⟨g, 0, none⟩) n c2] 27))
  clear HA HO hB k0 k1 hb1 hs1 ho hpr hb2
  go_wp2
  generalize w2.alloc (.cells #[.int .i64 W, .int .i64 H, .slice (some ⟨g, 0, none⟩) n c2] 27) = w3 at *
  obtain ⟨hs3, k3, hb3⟩ := unhide HA3
  obtain ⟨G, hG⟩ : ∃ G, G = w2.heap.size := ⟨_, rfl⟩
  rw [← hG] at k3 hs3 hb3 hgl hz2 ⊢
  have HP3 : Hid (PR w3 g n (fun k => if k < 0 then clP (q k) else q k)) := ((unhide HP2).below hb3 hgl).congr (fun k _ => by simp)
  have HB3 := hide ((unhide HB2).trans (hb3.mono (by omega)))
  have K13 := hide (blk_below (unhide K1) hb3 (by omega))
  have K3 := hide k3
  clear HA3 HP2 HB2 K1 k3 hb3 hG hs3
  go_loopw [4] (fun iv wr => ∃ i : Nat, i ≤ n ∧ iv = .int .i64 (i : Int) ∧ Hid (PR wr g n (fun k => if k < i then clP (q k) else q k)) ∧ Hid (Below B w wr) ∧ Hid (wr.heap[B + 1]? = some (.cells #[.int .i64 0, .int .i64 0, .slice none 0 0] 27)) ∧ Hid (wr.heap[G]? = some (.cells #[.int .i64 W, .int .i64 H, .slice (some ⟨g, 0, none⟩) n c2] 27))) (fun iv _ => n - (intOf iv).toNat)
  case atStart => exact ⟨0, by omega, rfl, HP3, HB3, K13, K3⟩
  case round =>
    clear HP3 HB3 K13 K3
    obtain ⟨i, hi, rfl, HP, HB, K1, K3⟩ := hrel
    have c0 : wr.cell? ⟨G, 0, none⟩ = some (.int .i64 W) := blk_cell (unhide K3) 0
    have c1 : wr.cell? ⟨G, 1, none⟩ = some (.int .i64 H) := blk_cell (unhide K3) 1
    have c2' : wr.cell? ⟨G, 2, none⟩ = some (.slice (some ⟨g, 0, none⟩) n c2) := blk_cell (unhide K3) 2
    have hlG := blk_lt (unhide K3)
    by_cases hlt : i < n
    · have d1 : decide ((i : Int) < (n : Int)) = true := decide_eq_true (by omega)
      have d1n : decide (i < n) = true := decide_eq_true hlt
      have hii : (i : Int) < (n : Int) := by omega
      obtain ⟨y, hy⟩ : ∃ y, y = q i := ⟨_, rfl⟩
      have HY := hide hy
      obtain ⟨x0, x1, x2, x3o⟩ := (unhide HP).px i hlt
      have x3 : wr.cell? ⟨g, i * 4 + 3, none⟩ = some (.int .u8 (y.a.toNat : Int)) := by
        have : (if i < i then clP (q i) else q i) = y := by rw [if_neg (Nat.lt_irrefl i), hy]
        rw [x3o, this]
      clear x3o
      by_cases h0 : y.a.toNat = 0
      · have g0 : ((y.a.toNat : Int) == 0) = true := by rw [beq_iff_eq]; omega
        have f0 := (unhide HP).fr (i * 4)
        have f1 := (unhide HP).fr (i * 4 + 1)
        have f2 := (unhide HP).fr (i * 4 + 2)
        have f3 := (unhide HP).fr (i * 4 + 3)
        have HYs : Hid (clP (q i) = px0) := by show _ = _; rw [← hy]; unfold clP; rw [if_pos (u8_eq0 h0)]; rfl
        have HPW : Hid (put4 wr g (i * 4) px0 = (((wr.setCell ⟨g, i * 4, none⟩ (.int .u8 0)).setCell ⟨g, i * 4 + 1, none⟩ (.int .u8 0)).setCell ⟨g, i * 4 + 2, none⟩ (.int .u8 0)).setCell ⟨g, i * 4 + 3, none⟩ (.int .u8 0)) := rfl
        have HPN : Hid (PR (put4 wr g (i * 4) px0) g n (fun k => if k < i + 1 then clP (q k) else q k)) := ((unhide HP).put hlt px0).congr (fun k _ => by
          unfold updP
          by_cases e : k = i
          · subst e
            rw [if_pos rfl, if_pos (by omega), unhide HYs]
          · rw [if_neg e]
            show (if k < i then clP (q k) else q k) = _
            by_cases e2 : k < i
            · rw [if_pos e2, if_pos (by omega)]
            · rw [if_neg e2, if_neg (by omega)])
        have HBN := hide (put4_below (unhide HB) (show B ≤ g by omega) px0 (o := i * 4))
        have HK1 := hide ((put4_far wr g (i * 4) (B + 1) px0 (by omega)).trans (unhide K1))
        have HK3 := hide ((put4_far wr g (i * 4) G px0 (by omega)).trans (unhide K3))
        rw [unhide HPW] at HPN HBN HK1 HK3
        clear hy HY h0 HPW HYs HP HB K1 K3
        go_wp2
        go_roundw
        case rel => exact ⟨i + 1, by omega, by go_num, HPN, HBN, HK1, HK3⟩
        case measure => simp [intOf]; omega
      · have g0 : ((y.a.toNat : Int) == 0) = false := by rw [beq_eq_false_iff_ne]; omega
        have HPs : Hid (PR wr g n (fun k => if k < i + 1 then clP (q k) else q k)) := (unhide HP).congr (fun k _ => by
          by_cases e : k = i
          · subst e
            rw [if_neg (by omega), if_pos (by omega), ← hy]
            unfold clP
            rw [if_neg (fun e => h0 (by rw [e]; rfl))]
          · by_cases e2 : k < i
            · rw [if_pos e2, if_pos (by omega)]
            · rw [if_neg e2, if_neg (by omega)])
        clear hy HY h0 HP
        go_wp2
        go_roundw
        case rel => exact ⟨i + 1, by omega, by go_num, HPs, HB, K1, K3⟩
        case measure => simp [intOf]; omega
    · obtain rfl : i = n := by omega
      have d1 : decide ((i : Int) < (i : Int)) = false := by simp
      have r0 := blk_frozen (unhide K1) 0
      have r1 := blk_frozen (unhide K1) 1
      have r2 := blk_frozen (unhide K1) 2
      have s0 : wr.cell? ⟨B + 1, 0, none⟩ = some (.int .i64 0) := blk_cell (unhide K1) 0
      have s1 : wr.cell? ⟨B + 1, 1, none⟩ = some (.int .i64 0) := blk_cell (unhide K1) 1
      have s2 : wr.cell? ⟨B + 1, 2, none⟩ = some (.slice none 0 0) := blk_cell (unhide K1) 2
      have hl : B + 1 < wr.heap.size := blk_lt (unhide K1)
      have HF := hide ((unhide HP).congr (q := clQ q) (fun k hk => by rw [if_pos hk]; rfl))
      clear K1 K3 HP
      go_wp2
      refine bodyPost_ret (v := .agg #[.int .i64 W, .int .i64 H, .slice (some ⟨g, 0, none⟩) i c2]) ?_ rfl ⟨g, c2, rfl, by rw [← unhide HBE]; omega, ?_, ?_⟩
      · rw [results_cellP (p := 2) (ty := 27) (by kernel_rfl)]
        go_simp
      · exact (unhide HF).block (by rw [Below.heap_setCell _ _ _ _ (by show g ≠ B + 1; omega), Below.heap_setCell _ _ _ _ (by show g ≠ B + 1; omega), Below.heap_setCell _ _ _ _ (by show g ≠ B + 1; omega)])
      · rw [← unhide HBE]
        exact (((unhide HB).setCell (p := ⟨B + 1, 0, none⟩) (by show B ≤ B + 1; omega) _).setCell (p := ⟨B + 1, 1, none⟩) (by show B ≤ B + 1; omega) _).setCell (p := ⟨B + 1, 2, none⟩) (by show B ≤ B + 1; omega) _
end Go.Proofs.YtjcoahahponabaaGreatDoor
