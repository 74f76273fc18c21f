/- The least far color: the program's. -/
import Derived.Test.YtpfobocdbmiagaaDoorMg5
import Derived.Test.YtpfobocdbmiagaaDoorMg7
namespace Go.Proofs.YtpfobocdbmiagaaDoor
open Go.RowKit

set_option maxHeartbeats 4000000 in
set_option maxRecDepth 100000 in
theorem leastFar_any (x : Px) (a : Option Addr) (m c : Nat) (q : Nat → Px) (w : World) (hP : IsPx w a (m + 1) q) (hm : m ≤ 1000) :
    Calls Tryd.prog 42 #[x.val, .slice a (m + 1) c] w fun e w' => e = .returned (.tuple #[.int .i64 (lst q x m : Int), .int .i64 (farP x (q (lst q x m)) : Int)]) ∧ Below w.heap.size w w' := by
  have HA := hide (al1 w (.cells #[.int .u8 (x.r.toNat : Int), .int .u8 (x.g.toNat : Int), .int .u8 (x.b.toNat : Int), .int .u8 (x.a.toNat : Int)] 40))
  have HP := hide (fun w1 (h : Below w.heap.size w w1) => hP.below h)
  have HC := hide (fun y w' => papart_any x y w')
  obtain ⟨M, hM⟩ : ∃ M, M = m + 1 := ⟨_, rfl⟩
  rw [← hM] at HP ⊢
  have HME := hide hM
  have hM1 : 1 ≤ M ∧ M ≤ 1001 := by omega
  obtain ⟨B, hB⟩ : ∃ B, B = w.heap.size := ⟨_, rfl⟩
  unfold Px.val at HC ⊢
  clear hP hM
  go_enter Tryd.func42, Tryd.ntmps42
  go_wp2
  generalize w.alloc (.cells #[.int .u8 (x.r.toNat : Int), .int .u8 (x.g.toNat : Int), .int .u8 (x.b.toNat : Int), .int .u8 (x.a.toNat : Int)] 40) = w1 at *
  rw [← hB] at HA HP ⊢
  obtain ⟨hs1, k1, hb1⟩ := unhide HA
  have HK0 := hide k1
  have HB0 := hide hb1
  have HBE := hide hB
  have hz1 : B + 1 ≤ w1.heap.size := by omega
  clear HA hb1 hB hs1 k1
  go_loopw [4, 5, 11] (fun nv fv iv wr => ∃ i : Nat, i ≤ M ∧ iv = .int .i64 (i : Int) ∧ (i = 0 ∧ nv = .int .i64 0 ∧ fv = .int .i64 0 ∨ 1 ≤ i ∧ nv = .int .i64 (lst q x (i - 1) : Int) ∧ fv = .int .i64 (farP x (q (lst q x (i - 1))) : Int)) ∧ Hid (wr.heap[B]? = some (.cells #[.int .u8 (x.r.toNat : Int), .int .u8 (x.g.toNat : Int), .int .u8 (x.b.toNat : Int), .int .u8 (x.a.toNat : Int)] 40)) ∧ Hid (Below B w wr) ∧ B + 1 ≤ wr.heap.size) (fun _ _ iv _ => M - (intOf iv).toNat)
  case atStart => exact ⟨0, Nat.zero_le _, rfl, .inl ⟨rfl, rfl, rfl⟩, HK0, HB0, hz1⟩
  case round =>
    clear HK0 HB0 hz1
    obtain ⟨i, hi, rfl, hnf, HK, HB, hz⟩ := hrel
    by_cases hlt : i < M
    · have d1 : decide ((i : Int) < (M : Int)) = true := decide_eq_true (by omega)
      have d1n : decide (i < M) = true := decide_eq_true hlt
      have hii : (i : Int) < (M : Int) := by omega
      obtain ⟨bP, oP, rfl, _, hcP⟩ := (unhide HP wr (unhide HB)).resolve_left (by omega)
      obtain ⟨x0, x1, x2, x3⟩ := hcP i hlt
      have HST : Hid (1 ≤ i → lst q x i = if farP x (q i) < farP x (q (lst q x (i - 1))) then i else lst q x (i - 1)) := fun h => by
        obtain ⟨j, rfl⟩ : ∃ j, i = j + 1 := ⟨i - 1, by omega⟩
        rfl
      have HQI : Hid (i = 0 → lst q x i = 0) := fun h => by subst h; rfl
      have HFE : Hid (∀ y, q i = y → farP x (q i) = farP x y) := fun y h => by rw [h]
      obtain ⟨y, hy⟩ : ∃ y, q i = y := ⟨_, rfl⟩
      rw [hy] at x0 x1 x2 x3
      have HFY := hide (unhide HFE y hy)
      have hfl := farP_le x y
      have HCY := hide (unhide HC y)
      have HA1 := hide (al1 wr (.cells #[.int .u8 (y.r.toNat : Int), .int .u8 (y.g.toNat : Int), .int .u8 (y.b.toNat : Int), .int .u8 (y.a.toNat : Int)] 40))
      generalize farP x y = f at *
      generalize y.r.toNat = yr at *
      generalize y.g.toNat = yg at *
      generalize y.b.toNat = yb at *
      generalize y.a.toNat = ya at *
      clear hcP hy HFE
      go_upto_region 4 with fail
      generalize wr.alloc (.cells #[.int .u8 (yr : Int), .int .u8 (yg : Int), .int .u8 (yb : Int), .int .u8 (ya : Int)] 40) = w2 at *
      obtain ⟨hs2, k2, hb2⟩ := unhide HA1
      have HK2 := hide (blk_below (unhide HK) hb2 (by omega))
      have z0 : w2.cell? ⟨B, 0, none⟩ = some (.int .u8 (x.r.toNat : Int)) := blk_cell (unhide HK2) 0
      have z1 : w2.cell? ⟨B, 1, none⟩ = some (.int .u8 (x.g.toNat : Int)) := blk_cell (unhide HK2) 1
      have z2 : w2.cell? ⟨B, 2, none⟩ = some (.int .u8 (x.b.toNat : Int)) := blk_cell (unhide HK2) 2
      have z3 : w2.cell? ⟨B, 3, none⟩ = some (.int .u8 (x.a.toNat : Int)) := blk_cell (unhide HK2) 3
      have y0 : w2.cell? ⟨wr.heap.size, 0, none⟩ = some (.int .u8 (yr : Int)) := blk_cell k2 0
      have y1 : w2.cell? ⟨wr.heap.size, 1, none⟩ = some (.int .u8 (yg : Int)) := blk_cell k2 1
      have y2 : w2.cell? ⟨wr.heap.size, 2, none⟩ = some (.int .u8 (yb : Int)) := blk_cell k2 2
      have y3 : w2.cell? ⟨wr.heap.size, 3, none⟩ = some (.int .u8 (ya : Int)) := blk_cell k2 3
      have HB2 := hide ((unhide HB).trans (hb2.mono (show B ≤ wr.heap.size by omega)))
      clear HA1 HK HB hb2 x0 x1 x2 x3
      go_wp2_with fail
      refine (unhide HCY _).mono ?_
      rintro e w3 ⟨rfl, hb3⟩
      have hz3 := hb3.size
      have HB3 := hide ((unhide HB2).trans (hb3.mono (by omega)))
      have HK3 := hide (blk_below (unhide HK2) hb3 (blk_lt (unhide HK2)))
      have hz4 : B + 1 ≤ w3.heap.size := by omega
      clear hb3 HB2 HK2 z0 z1 z2 z3 y0 y1 y2 y3 HCY hs2 k2
      rcases hnf with ⟨h0, rfl, rfl⟩ | ⟨h1, rfl, rfl⟩
      · have HR : Hid (lst q x i = 0 ∧ farP x (q (lst q x i)) = f) := by
          have e := unhide HQI h0
          refine ⟨e, ?_⟩
          rw [e, ← unhide HFY, h0]
        subst h0
        clear HST HQI HFY
        go_wp2
        go_roundw
        case rel => exact ⟨1, by omega, rfl, .inr ⟨Nat.le_refl _, rfl, by rw [(unhide HR).2]⟩, HK3, HB3, hz4⟩
        case measure => simp [intOf]; omega
      · have b0 : ((i : Int) == 0) = false := by simp; omega
        have hig : ¬ (i : Int) = 0 := by omega
        have hid0 : decide ((i : Int) = 0) = false := decide_eq_false hig
        have HL := hide (unhide HST h1)
        clear HST HQI
        have hfo := farP_le x (q (lst q x (i - 1)))
        rw [unhide HFY] at HL
        generalize lst q x (i - 1) = ol at *
        generalize hof : farP x (q ol) = g at *
        by_cases hfg : f < g
        · have d2 : decide ((f : Int) < (g : Int)) = true := decide_eq_true (by omega)
          have d2n : decide (f < g) = true := decide_eq_true hfg
          have HR : Hid (lst q x i = i) := by have := unhide HL; rw [if_pos hfg] at this; exact this
          clear HL hof
          go_wp2
          go_roundw
          case rel => exact ⟨i + 1, by omega, by go_num, .inr ⟨by omega, by rw [Nat.add_sub_cancel, unhide HR], by rw [Nat.add_sub_cancel, unhide HR, unhide HFY]⟩, HK3, HB3, hz4⟩
          case measure => simp [intOf]; omega
        · have d2 : decide ((f : Int) < (g : Int)) = false := decide_eq_false (by omega)
          have d2n : decide (f < g) = false := decide_eq_false hfg
          have HR : Hid (lst q x i = ol ∧ farP x (q ol) = g) := ⟨by have := unhide HL; rw [if_neg hfg] at this; exact this, hof⟩
          clear HL hof
          go_wp2
          go_roundw
          case rel => exact ⟨i + 1, by omega, by go_num, .inr ⟨by omega, by rw [Nat.add_sub_cancel, (unhide HR).1], by rw [Nat.add_sub_cancel, (unhide HR).1, (unhide HR).2]⟩, HK3, HB3, hz4⟩
          case measure => simp [intOf]; omega
    · obtain rfl : i = M := by omega
      have d1 : decide ((i : Int) < (i : Int)) = false := by simp
      rcases hnf with ⟨h0, _, _⟩ | ⟨h1, rfl, rfl⟩
      · omega
      · have HE : Hid (i - 1 = m) := by show _ = _; have := unhide HME; omega
        obtain ⟨j, hj⟩ : ∃ j, j = i - 1 := ⟨_, rfl⟩
        rw [← hj] at HE ⊢
        clear hj h1
        go_wp2
        go_ret2
        rw [← unhide HBE, ← unhide HE]
        exact ⟨rfl, unhide HB⟩
end Go.Proofs.YtpfobocdbmiagaaDoor
