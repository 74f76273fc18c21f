/- The means of the uses that are near to each color: the program's. -/
import Derived.Test.YtpfobocdbmiagaaDoorCm2
import Derived.Test.YtpfobocdbmiagaaDoorMg12
import Derived.Test.YtpfobocdbmiagaaDoorRo0
namespace Go.Proofs.YtpfobocdbmiagaaDoor
open Go.RowKit

theorem sum_info : (Tryd.prog.info? 89).map (fun i => (i.zero, i.size, i.bytes)) = some (some (.agg #[.int .i64 0, .int .i64 0, .int .i64 0, .int .i64 0, .int .i64 0]), 5, 40) := by kernel_rfl
theorem make_sum (n : Nat) (hn : n ≤ 100000) (w : World) : (Instr.makeSlice 87 (.int .i64 (n : Int)) (.int .i64 (n : Int))).run Tryd.prog w = .ok (.slice (some ⟨w.heap.size, 0, none⟩) n n) (w.alloc (.cells (madeCells #[.int .i64 0, .int .i64 0, .int .i64 0, .int .i64 0, .int .i64 0] (n * 5)) 89)) := by
  obtain ⟨i0, hi, hz0, hz1, hz2⟩ := info_parts sum_info
  have hr := run_make (P := Tryd.prog) w 87 89 i0 (.agg #[.int .i64 0, .int .i64 0, .int .i64 0, .int .i64 0, .int .i64 0]) Tryd.underlying87 hi hz0 .i64 .i64 n n (by omega) (by omega) (by rw [hz2]; omega) (by omega)
  simp only [Int.toNat_natCast, hz1] at hr
  exact hr
theorem zero_sums (u : Nat → Us) (nr : Nat → Nat) (M : Nat) : (madeCells #[.int .i64 0, .int .i64 0, .int .i64 0, .int .i64 0, .int .i64 0] (M * 5)).toList = smL (rowS u nr M 0) := by
  refine List.ext_getElem? (fun j => ?_)
  rcases Nat.lt_or_ge j (M * 5) with h | h
  · have e := smL_at (rowS u nr M 0) (j / 5) (j % 5) (by rw [rowS_length]; omega) (by omega)
    rw [show j / 5 * 5 + j % 5 = j by omega, rowS_at] at e
    rw [e]
    show _ = sm0.cells[j % 5]?
    rcases (show j % 5 = 0 ∨ j % 5 = 1 ∨ j % 5 = 2 ∨ j % 5 = 3 ∨ j % 5 = 4 by omega) with q | q | q | q | q <;> simp [madeCells, h, q, Sm.cells, sm0]
  · rw [List.getElem?_eq_none (l := smL (rowS u nr M 0)) (by rw [smL_length, rowS_length]; exact h), List.getElem?_eq_none (by simp only [madeCells, Array.length_toList, Array.size_map, Array.size_range]; exact h)]

set_option maxHeartbeats 8000000 in
set_option maxRecDepth 100000 in
theorem means_any (a : Option Addr) (n c : Nat) (u : Nat → Us) (a2 : Option Addr) (c2 : Nat) (nl : List Nat) (nr : Nat → Nat) (b : Option Addr) (m d : Nat) (q : Nat → Px) (w : World) (hU : IsUs w a n u) (hN : IsNm w a2 nl) (hnl : nl.length = n) (hnr : ∀ i, i < n → nl.getD i 0 = nr i ∧ nr i ≤ m) (hP : IsPx w b (m + 1) q) (hn : n ≤ 70000) (hm : m ≤ 1000) (hT : totU u n ≤ 70000) :
    Calls Tryd.prog 34 #[.slice a n c, .slice a2 n c2, .slice b (m + 1) d] w fun e w' => ∃ a3 c3, e = .returned (.slice a3 (m + 1) c3) ∧ IsPx w' a3 (m + 1) (mnP u nr q n) ∧ Below w.heap.size w w' := by
  obtain ⟨M, hM⟩ : ∃ M, M = m + 1 := ⟨_, rfl⟩
  have HU := hide (fun w1 (h : Below w.heap.size w w1) => hU.below h)
  obtain ⟨gN, rfl, hgN, hcN⟩ := hN
  have HN := hide (fun w1 (h : Below w.heap.size w w1) j (hj : j < nl.length) => (h.cell (p := ⟨gN, j, none⟩) hgN).trans (hcN j hj))
  have HP := hide (fun w1 (h : Below w.heap.size w w1) => hP.below h)
  have HNR : Hid (∀ i, i < n → nl.getD i 0 = nr i ∧ nr i < M) := fun i hi => ⟨(hnr i hi).1, by have := (hnr i hi).2; omega⟩
  rw [← hM] at HP ⊢
  have hmk := make_sum M (by omega)
  have HA := hide (al1 w (.cells (madeCells #[.int .i64 0, .int .i64 0, .int .i64 0, .int .i64 0, .int .i64 0] (M * 5)) 89))
  have HR0 : Hid ((w.alloc (.cells (madeCells #[.int .i64 0, .int .i64 0, .int .i64 0, .int .i64 0, .int .i64 0] (M * 5)) 89)).ownsRow w.heap.size 89 5 (.slice (some ⟨w.heap.size, 0, none⟩) M M) M (smL (rowS u nr M 0))) := by
    have h := World.ownsRow_lit (base := w.heap.size) (e := 89) (size := 5) w (madeCells #[.int .i64 0, .int .i64 0, .int .i64 0, .int .i64 0, .int .i64 0] (M * 5)) M (Nat.le_refl _) (by unfold maxLen; omega) (by simp [madeCells])
    rw [zero_sums u nr M] at h
    exact h
  have hM2 : 1 ≤ M ∧ M ≤ 1001 := by omega
  have HTI : Hid (∀ k i, i ≤ n → (sS u nr k i).t ≤ 70000) := fun k i hi => Nat.le_trans (sS_tot u nr k i) (Nat.le_trans (sumN_part _ hi) hT)
  have HTU : Hid (∀ i, i < n → (u i).t ≤ 70000) := fun i hi => by
    have h1 : totU u (i + 1) ≤ totU u n := sumN_part _ hi
    have h2 : totU u (i + 1) = totU u i + (u i).t := rfl
    omega
  have HNL : Hid (nl.length = n) := hnl
  obtain ⟨B, hB⟩ : ∃ B, B = w.heap.size := ⟨_, rfl⟩
  have hgB : gN < B := by omega
  clear hU hcN hP hM hnr hT hm hnl hgN
  go_enter Tryd.func34, Tryd.ntmps34
  go_wp2
  generalize w.alloc (.cells (madeCells #[.int .i64 0, .int .i64 0, .int .i64 0, .int .i64 0, .int .i64 0] (M * 5)) 89) = w1 at *
  rw [← hB] at HA HU HN HP HR0 ⊢
  obtain ⟨hs1, _, hb1⟩ := unhide HA
  have HB0 := hide hb1
  have HBE := hide hB
  have hz1 : B + 1 ≤ w1.heap.size := by omega
  clear HA hb1 hB hs1 hmk
  go_loopw [18] (fun iv wr => ∃ i : Nat, i ≤ n ∧ iv = .int .i64 (i : Int) ∧ Hid (wr.ownsRow B 89 5 (.slice (some ⟨B, 0, none⟩) M M) M (smL (rowS u nr M i))) ∧ Hid (Below B w wr) ∧ B + 1 ≤ wr.heap.size) (fun iv _ => n - (intOf iv).toNat)
  case atStart => exact ⟨0, Nat.zero_le _, rfl, HR0, HB0, hz1⟩
  case round =>
    clear HR0 HB0 hz1
    obtain ⟨i, hi, rfl, HR, HB, hz⟩ := hrel
    by_cases hlt : i < n
    · have d1 : decide ((i : Int) < (n : Int)) = true := decide_eq_true (by omega)
      have d1n : decide (i < n) = true := decide_eq_true hlt
      have hii : (i : Int) < (n : Int) := by omega
      obtain ⟨bP, oP, rfl, _, hcP⟩ := (unhide HU wr (unhide HB)).resolve_left (by omega)
      obtain ⟨⟨x0, x1, x2, x3⟩, x4⟩ := hcP i hlt
      have hnc := unhide HN wr (unhide HB) i (by rw [unhide HNL]; exact hlt)
      obtain ⟨e1, e2⟩ := unhide HNR i hlt
      rw [e1] at hnc
      have hut := unhide HTU i hlt
      have hkM := e2
      have HNX := hide (rowS_next u nr M i)
      have hrl : nr i < (rowS u nr M i).length := by rw [rowS_length]; exact e2
      have hat := rowS_at u nr M i (nr i) hrl
      obtain ⟨l1, l2, l3, l4⟩ := sS_le u nr (nr i) i
      have l5 := unhide HTI (nr i) i hi
      have HAD := hide (fun w' (h : w'.ownsRow B 89 5 (.slice (some ⟨B, 0, none⟩) M M) M (smL (rowS u nr M i))) => add_any B B (nr i) M M 89 (rowS u nr M i) (sS u nr (nr i) i) (u i) w' h hrl hat (rowS_length u nr M i) (by omega) (by omega))
      clear hcP e1 e2 l1 l2 l3 l4 l5 hat hrl
      generalize hk : nr i = k at *
      generalize hx : u i = x at *
      clear hk hx
      have hkk : (k : Int) < (M : Int) := by omega
      have HA1 := hide (al1 wr (.cells #[.int .u8 (x.c.r.toNat : Int), .int .u8 (x.c.g.toNat : Int), .int .u8 (x.c.b.toNat : Int), .int .u8 (x.c.a.toNat : Int), .int .i64 (x.t : Int)] 42))
      have HR1 := hide ((unhide HR).alloc (.cells #[.int .u8 (x.c.r.toNat : Int), .int .u8 (x.c.g.toNat : Int), .int .u8 (x.c.b.toNat : Int), .int .u8 (x.c.a.toNat : Int), .int .i64 (x.t : Int)] 42))
      go_upto_region 5 with fail
      generalize wr.alloc (.cells #[.int .u8 (x.c.r.toNat : Int), .int .u8 (x.c.g.toNat : Int), .int .u8 (x.c.b.toNat : Int), .int .u8 (x.c.a.toNat : Int), .int .i64 (x.t : Int)] 42) = w2 at *
      obtain ⟨hs2, k2, hb2⟩ := unhide HA1
      have y0 : w2.cell? ⟨wr.heap.size, 0, none⟩ = some (.int .u8 (x.c.r.toNat : Int)) := blk_cell k2 0
      have y1 : w2.cell? ⟨wr.heap.size, 1, none⟩ = some (.int .u8 (x.c.g.toNat : Int)) := blk_cell k2 1
      have y2 : w2.cell? ⟨wr.heap.size, 2, none⟩ = some (.int .u8 (x.c.b.toNat : Int)) := blk_cell k2 2
      have y3 : w2.cell? ⟨wr.heap.size, 3, none⟩ = some (.int .u8 (x.c.a.toNat : Int)) := blk_cell k2 3
      have y4 : w2.cell? ⟨wr.heap.size, 4, none⟩ = some (.int .i64 (x.t : Int)) := blk_cell k2 4
      have n0 : w2.cell? ⟨gN, i, none⟩ = some (.int .i64 (k : Int)) := (hb2.cell (p := ⟨gN, i, none⟩) (show gN < wr.heap.size by omega)).trans hnc
      have HB2 := hide ((unhide HB).trans (hb2.mono (show B ≤ wr.heap.size by omega)))
      have KS : Hid (w2.drew.cell? ⟨gN, i, none⟩ = some (.int .i64 (k : Int)) ∧ w2.drew.cell? ⟨wr.heap.size, 0, none⟩ = some (.int .u8 (x.c.r.toNat : Int)) ∧ w2.drew.cell? ⟨wr.heap.size, 1, none⟩ = some (.int .u8 (x.c.g.toNat : Int)) ∧ w2.drew.cell? ⟨wr.heap.size, 2, none⟩ = some (.int .u8 (x.c.b.toNat : Int)) ∧ w2.drew.cell? ⟨wr.heap.size, 3, none⟩ = some (.int .u8 (x.c.a.toNat : Int)) ∧ w2.drew.cell? ⟨wr.heap.size, 4, none⟩ = some (.int .i64 (x.t : Int))) := ⟨n0, y0, y1, y2, y3, y4⟩
      have HRD : Hid (w2.drew.ownsRow B 89 5 (.slice (some ⟨B, 0, none⟩) M M) M (smL (rowS u nr M i))) := unhide HR1
      have hd2 : w2.drew.heap.size = wr.heap.size + 1 := hs2
      have HDW : Hid (Below B w w2.drew) := (unhide HB2).drew
      clear HA1 HR HB hb2 x0 x1 x2 x3 x4 hnc k2
      obtain ⟨V, hV⟩ : ∃ V, V = wr.heap.size := ⟨_, rfl⟩
      rw [← hV] at y0 y1 y2 y3 y4 KS hs2 hd2 ⊢
      have hVB : B < V := by omega
      have KT : Hid (∀ w3, But (fun z => z = B) w2.drew w3 → w3.cell? ⟨gN, i, none⟩ = some (.int .i64 (k : Int)) ∧ w3.cell? ⟨V, 0, none⟩ = some (.int .u8 (x.c.r.toNat : Int)) ∧ w3.cell? ⟨V, 1, none⟩ = some (.int .u8 (x.c.g.toNat : Int)) ∧ w3.cell? ⟨V, 2, none⟩ = some (.int .u8 (x.c.b.toNat : Int)) ∧ w3.cell? ⟨V, 3, none⟩ = some (.int .u8 (x.c.a.toNat : Int)) ∧ w3.cell? ⟨V, 4, none⟩ = some (.int .i64 (x.t : Int))) := fun w3 hb => by
        obtain ⟨q0, q1, q2, q3, q4, q5⟩ := unhide KS
        have hc : ∀ j, w3.cell? ⟨V, j, none⟩ = w2.drew.cell? ⟨V, j, none⟩ := fun j => hb.cell (p := ⟨V, j, none⟩) (by show V < _; omega) (by show ¬ V = B; omega)
        exact ⟨(hb.cell (p := ⟨gN, i, none⟩) (by show gN < _; omega) (by show ¬ gN = B; omega)).trans q0, (hc 0).trans q1, (hc 1).trans q2, (hc 2).trans q3, (hc 3).trans q4, (hc 4).trans q5⟩
      clear hV hz
      go_region_held (fun w' => w'.cell? ⟨gN, i, none⟩ = some (.int .i64 (k : Int)) ∧ w'.cell? ⟨V, 0, none⟩ = some (.int .u8 (x.c.r.toNat : Int)) ∧ w'.cell? ⟨V, 1, none⟩ = some (.int .u8 (x.c.g.toNat : Int)) ∧ w'.cell? ⟨V, 2, none⟩ = some (.int .u8 (x.c.b.toNat : Int)) ∧ w'.cell? ⟨V, 3, none⟩ = some (.int .u8 (x.c.a.toNat : Int)) ∧ w'.cell? ⟨V, 4, none⟩ = some (.int .i64 (x.t : Int))) (first | with_reducible exact unhide KS | with_reducible exact unhide KT _ hbu) (first | (go_at_call 43; refine (unhide HAD _ (unhide HRD)).mono ?_; rintro e w3 ⟨rfl, hr3, hbu⟩))
      have HR3 : Hid (w3.ownsRow B 89 5 (.slice (some ⟨B, 0, none⟩) M M) M (smL (rowS u nr M (i + 1)))) := by
        show World.ownsRow _ _ _ _ _ _ _
        rw [← unhide HNX]
        exact hr3
      have HB3 : Hid (Below B w w3) := (unhide HDW).trans (hbu.below (by omega) (fun z hz hq => by omega))
      have hz3 : B + 1 ≤ w3.heap.size := by have := hbu.size; omega
      clear hr3 hbu KS KT HRD HDW HAD HR1 HB2 y0 y1 y2 y3 y4 n0 HNX hs2 hd2
      go_wp2
      go_roundw
      case rel => exact ⟨i + 1, by omega, by go_num, HR3, HB3, hz3⟩
      case measure => simp [intOf]; omega
    · obtain rfl : i = n := by omega
      have d1 : decide ((i : Int) < (i : Int)) = false := by simp
      have HCl := hide (cloneO_any b M d q wr (unhide HP wr (unhide HB)) (by omega))
      clear HN HNR HTU
      go_wp2_with fail
      refine (unhide HCl).mono ?_
      rintro e w4 ⟨b4, d4, rfl, ho4, hb4⟩
      have hz4 := hb4.size
      obtain ⟨G, rfl, hG, hPR⟩ := own_PR ho4 hM2.1
      have HB4 := hide ((unhide HB).trans (hb4.mono (show B ≤ wr.heap.size by omega)))
      have HR4 := hide (own_belowP (unhide HR) hb4)
      have HPR := hide hPR
      have hGB : B < G := by omega
      clear ho4 hb4 hPR HB HR HCl HP
      go_wp2
      go_loopw [36] (fun jv wq => ∃ (j : Nat) (f : Nat → Px), j ≤ M ∧ jv = .int .i64 (j : Int) ∧ Hid (PR wq G M f) ∧ Hid (∀ k, k < M → f k = if k < j then mnP u nr q i k else q k) ∧ Hid (wq.ownsRow B 89 5 (.slice (some ⟨B, 0, none⟩) M M) M (smL (rowS u nr M i))) ∧ Hid (Below B w wq) ∧ G + 1 ≤ wq.heap.size) (fun jv _ => M - (intOf jv).toNat)
      case atStart => exact ⟨0, q, Nat.zero_le _, rfl, HPR, (fun k _ => by rw [if_neg (Nat.not_lt_zero k)]), HR4, HB4, (unhide HPR).lt⟩
      case round =>
        clear HPR HR4 HB4 hz4 hG
        obtain ⟨j, f, hj, rfl, HF, HFE, HR, HB, hz⟩ := hrel
        by_cases hlt2 : j < M
        · have d2 : decide ((j : Int) < (M : Int)) = true := decide_eq_true (by omega)
          have d2n : decide (j < M) = true := decide_eq_true hlt2
          have hjj : (j : Int) < (M : Int) := by omega
          have hrl : j < (rowS u nr M i).length := by rw [rowS_length]; exact hlt2
          have hsm := own_smAt (unhide HR) j hrl (rowS_length u nr M i)
          rw [rowS_at] at hsm
          obtain ⟨x0, x1, x2, x3, x4⟩ := hsm
          have hl := sS_le u nr j i
          have hl5 := unhide HTI j i (Nat.le_refl _)
          have HM := hide (fun w' (ht : 1 ≤ (sS u nr j i).t) => mean_any (sS u nr j i) w' ht (by omega) hl)
          have HME : Hid (mnP u nr q i j = if 0 < (sS u nr j i).t then meanP (sS u nr j i) else q j) := rfl
          generalize sS u nr j i = s at *
          unfold Sm.val Px.val at HM
          have HA1 := hide (al1 wr (.cells #[.int .i64 (s.r : Int), .int .i64 (s.g : Int), .int .i64 (s.b : Int), .int .i64 (s.a : Int), .int .i64 (s.t : Int)] 89))
          have HR1 := hide ((unhide HR).alloc (.cells #[.int .i64 (s.r : Int), .int .i64 (s.g : Int), .int .i64 (s.b : Int), .int .i64 (s.a : Int), .int .i64 (s.t : Int)] 89))
          clear hl hrl
          go_upto_region 11 with fail
          generalize wr.alloc (.cells #[.int .i64 (s.r : Int), .int .i64 (s.g : Int), .int .i64 (s.b : Int), .int .i64 (s.a : Int), .int .i64 (s.t : Int)] 89) = w2 at *
          obtain ⟨hs2, k2, hb2⟩ := unhide HA1
          obtain ⟨V, hV⟩ : ∃ V, V = wr.heap.size := ⟨_, rfl⟩
          have y0 : w2.cell? ⟨wr.heap.size, 0, none⟩ = some (.int .i64 (s.r : Int)) := blk_cell k2 0
          have y1 : w2.cell? ⟨wr.heap.size, 1, none⟩ = some (.int .i64 (s.g : Int)) := blk_cell k2 1
          have y2 : w2.cell? ⟨wr.heap.size, 2, none⟩ = some (.int .i64 (s.b : Int)) := blk_cell k2 2
          have y3 : w2.cell? ⟨wr.heap.size, 3, none⟩ = some (.int .i64 (s.a : Int)) := blk_cell k2 3
          have y4 : w2.cell? ⟨wr.heap.size, 4, none⟩ = some (.int .i64 (s.t : Int)) := blk_cell k2 4
          have HB2 := hide ((unhide HB).trans (hb2.mono (show B ≤ wr.heap.size by omega)))
          have HF2 := hide ((unhide HF).below hb2 (by omega))
          rw [← hV] at y0 y1 y2 y3 y4 hs2 ⊢
          have hz2 : G + 1 ≤ w2.heap.size := by omega
          clear HA1 HR HB HF hb2 x0 x1 x2 x3 x4 k2 hV
          by_cases ht : 0 < s.t
          · have e1 : decide ((s.t : Int) > 0) = true := decide_eq_true (by omega)
            have e1' : decide ((0 : Int) < (s.t : Int)) = true := e1
            have e1n : decide (0 < s.t) = true := decide_eq_true ht
            go_wp2_with fail
            refine (unhide HM _ ht).mono ?_
            rintro e w3 ⟨rfl, hb3⟩
            have hz3 := hb3.size
            have HF3 := hide ((unhide HF2).below hb3 (by omega))
            have HR3 := hide (own_belowP (unhide HR1) hb3)
            have HB3 := hide ((unhide HB2).trans (hb3.mono (show B ≤ w2.heap.size by omega)))
            obtain ⟨t0, t1, t2, t3⟩ := (unhide HF3).px j hlt2
            have f0 := (unhide HF3).fr (j * 4)
            have f1 := (unhide HF3).fr (j * 4 + 1)
            have f2 := (unhide HF3).fr (j * 4 + 2)
            have f3 := (unhide HF3).fr (j * 4 + 3)
            have HFE' : Hid (∀ k, k < M → updP f j (meanP s) k = if k < j + 1 then mnP u nr q i k else q k) := fun k hk => by
              unfold updP
              by_cases e : k = j
              · subst e
                rw [if_pos rfl, if_pos (by omega), unhide HME, if_pos ht]
              · rw [if_neg e, unhide HFE k hk]
                by_cases e2 : k < j
                · rw [if_pos e2, if_pos (by omega)]
                · rw [if_neg e2, if_neg (by omega)]
            have HF4 := hide ((unhide HF3).put hlt2 (meanP s))
            have HR4 := hide (own_stay (unhide HR3) (fun z e => put4_far w3 G (j * 4) z (meanP s) (by have e3 : B = z := (by injection e); omega)))
            have HB4 := hide (put4_below (unhide HB3) (show B ≤ G by omega) (meanP s) (o := j * 4))
            have hz4 : G + 1 ≤ (put4 w3 G (j * 4) (meanP s)).heap.size := by rw [put4_size]; omega
            have HZ4 := hide hz4
            generalize meanP s = mp at *
            clear hb3 HF2 HR1 HB2 HF3 HR3 HB3 HFE y0 y1 y2 y3 y4 HM HME hz4
            go_wp2
            go_roundw
            case rel => exact ⟨j + 1, _, by omega, by go_num, HF4, HFE', HR4, HB4, unhide HZ4⟩
            case measure => simp [intOf]; omega
          · have e1 : decide ((s.t : Int) > 0) = false := decide_eq_false (by omega)
            have e1' : decide ((0 : Int) < (s.t : Int)) = false := e1
            have e1n : decide (0 < s.t) = false := decide_eq_false ht
            have HFE' : Hid (∀ k, k < M → f k = if k < j + 1 then mnP u nr q i k else q k) := fun k hk => by
              rw [unhide HFE k hk]
              by_cases e : k = j
              · subst e
                rw [if_neg (Nat.lt_irrefl k), if_pos (by omega), unhide HME, if_neg ht]
              · by_cases e2 : k < j
                · rw [if_pos e2, if_pos (by omega)]
                · rw [if_neg e2, if_neg (by omega)]
            clear HFE y0 y1 y2 y3 HM HME
            go_wp2
            go_roundw
            case rel => exact ⟨j + 1, f, by omega, by go_num, HF2, HFE', HR1, HB2, hz2⟩
            case measure => simp [intOf]; omega
        · obtain rfl : j = M := by omega
          have d2 : decide ((j : Int) < (j : Int)) = false := by simp
          have HX := hide (((unhide HF).isPx (by omega)).congr (q := mnP u nr q i) (fun k hk => by rw [unhide HFE k hk, if_pos hk]))
          clear HF HFE HR
          go_wp2
          go_ret
          rw [← unhide HBE]
          exact ⟨some ⟨G, 0, none⟩, d4, rfl, unhide HX, unhide HB⟩
end Go.Proofs.YtpfobocdbmiagaaDoor
