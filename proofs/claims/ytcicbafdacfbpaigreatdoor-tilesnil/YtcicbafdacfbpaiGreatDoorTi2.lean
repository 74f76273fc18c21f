/- Tiles: the pixels in a part of a picture: the program's. -/
import Derived.Test.YtcicbafdacfbpaiGreatDoorTi1
import Derived.Test.YtcicbafdacfbpaiGreatDoorRt0
namespace Go.Proofs.YtcicbafdacfbpaiGreatDoor
open Go.RowKit

theorem pxVals_add (p : Nat → Px) (n m : Nat) : pxVals p (n + m) = pxVals p n ++ pxVals (fun i => p (n + i)) m := by
  induction m with
  | zero => simp [pxVals]
  | succ m ih => rw [show n + (m + 1) = (n + m) + 1 by omega]; simp only [pxVals]; rw [ih, List.append_assoc]

set_option maxHeartbeats 4000000 in
set_option maxRecDepth 100000 in
theorem pixelsIn_any (W H X Y tw th : Nat) (a : Option Addr) (n c : Nat) (p : Nat → Px) (w : World) (hP : IsPx w a n p) (hW : W ≤ 256) (hH : H ≤ 256) (hn : n = W * H) (hX : X + tw ≤ W) (hY : Y + th ≤ H) (h0 : 0 < tw) (hnc : n ≤ c) :
    Calls Tryz.prog 34 #[.agg #[.int .i64 (W : Int), .int .i64 (H : Int), .slice a n c], .agg #[.int .i64 (X : Int), .int .i64 (Y : Int), .int .i64 (tw : Int), .int .i64 (th : Int)]] w fun e w' => ∃ a' c', e = .returned (.slice a' (tw * th) c') ∧ IsPxN w.heap.size w' a' (tw * th) (fun j => p ((Y + j / tw) * W + (X + j % tw))) ∧ Below w.heap.size w w' := by
  obtain ⟨i0, hi, hz0, hz1, hz2⟩ := info_parts px_info
  have Hi := hide hi
  have Hz0 := hide hz0
  have Hz1 := hide hz1
  have Hz2 := hide hz2
  have hMb : tw * th ≤ 65536 := Nat.mul_le_mul (show tw ≤ 256 by omega) (show th ≤ 256 by omega)
  obtain ⟨M, hM⟩ : ∃ M, M = tw * th := ⟨_, rfl⟩
  have zM : (tw : Int) * (th : Int) = (M : Int) := by rw [hM]; simp
  rw [← hM] at hMb ⊢
  have wM : IntKind.i64.wrap (M : Int) = (M : Int) := by rw [IntKind.wrap_i64]; omega
  have hmk := make_px M (by omega)
  have HM := hide hM
  have HNN := hide hn
  obtain ⟨g, hg⟩ : ∃ g : Nat → Px, g = fun j => p ((Y + j / tw) * W + (X + j % tw)) := ⟨_, rfl⟩
  rw [← hg]
  have HG : Hid (∀ y i, i < tw → g (y * tw + i) = p ((Y + y) * W + X + i)) := fun y i hi => by
    rw [hg]
    show p _ = _
    rw [Nat.add_comm (y * tw), Nat.add_mul_div_right _ _ h0, Nat.div_eq_of_lt hi, Nat.zero_add, Nat.add_mul_mod_self_right, Nat.mod_eq_of_lt hi, Nat.add_assoc]
  obtain ⟨B, hB⟩ : ∃ B, B = w.heap.size := ⟨_, rfl⟩
  have HA := hide (al2 w (.cells #[.int .i64 (W : Int), .int .i64 (H : Int), .slice a n c] 24) (.cells #[.int .i64 (X : Int), .int .i64 (Y : Int), .int .i64 (tw : Int), .int .i64 (th : Int)] 37))
  have HPW := hide (fun wr (h : Below w.heap.size w wr) => hP.below h)
  have hnb : n ≤ 65536 := by rw [hn]; exact Nat.mul_le_mul hW hH
  clear hi hz0 hz1 hz2 hM hn hg hP
  go_enter Tryz.func34, Tryz.ntmps34
  go_wp2
  generalize (w.alloc (.cells #[.int .i64 (W : Int), .int .i64 (H : Int), .slice a n c] 24)).alloc (.cells #[.int .i64 (X : Int), .int .i64 (Y : Int), .int .i64 (tw : Int), .int .i64 (th : Int)] 37) = w1 at *
  rw [← hB] at HA HPW ⊢
  obtain ⟨hs1, k0, k1, hb1⟩ := unhide HA
  have HOW := hide (World.ownsRow_made (base := B + 2) (e := 39) (size := 4) w1 (madeCells #[.int .u8 0, .int .u8 0, .int .u8 0, .int .u8 0] (M * 4)) M (by rw [hs1]; omega) (by unfold maxLen; omega) (size_madeCells _ _))
  have HB0 := hide (hb1.alloc (by rw [hs1]; omega) (.cells (madeCells #[.int .u8 0, .int .u8 0, .int .u8 0, .int .u8 0] (M * 4)) 39))
  have HK0 := hide (blk_alloc k0 (.cells (madeCells #[.int .u8 0, .int .u8 0, .int .u8 0, .int .u8 0] (M * 4)) 39))
  have HK1 := hide (blk_alloc k1 (.cells (madeCells #[.int .u8 0, .int .u8 0, .int .u8 0, .int .u8 0] (M * 4)) 39))
  have hs2 : (w1.alloc (.cells (madeCells #[.int .u8 0, .int .u8 0, .int .u8 0, .int .u8 0] (M * 4)) 39)).heap.size = B + 3 := by simp [hs1]
  generalize w1.alloc (.cells (madeCells #[.int .u8 0, .int .u8 0, .int .u8 0, .int .u8 0] (M * 4)) 39) = w2 at *
  rw [hs1] at HOW
  have HBE := hide hB
  clear hB HA hmk k0 k1 hb1 hs1
  go_loopw [5, 16] (fun v yv wr => ∃ (y : Nat) (va : Option Addr) (vn vc : Nat), y ≤ th ∧ yv = .int .i64 (y : Int) ∧ v = .slice va vn vc ∧ Hid (vn = y * tw) ∧ Hid (wr.ownsRow (B + 2) 39 4 (.slice va vn vc) vn (pxVals g vn)) ∧ Hid (Below B w wr) ∧ Hid (wr.heap[B]? = some (.cells #[.int .i64 (W : Int), .int .i64 (H : Int), .slice a n c] 24)) ∧ Hid (wr.heap[B + 1]? = some (.cells #[.int .i64 (X : Int), .int .i64 (Y : Int), .int .i64 (tw : Int), .int .i64 (th : Int)] 37))) (fun _ yv _ => th - (intOf yv).toNat)
  case atStart => exact ⟨0, some ⟨B + 2, 0, none⟩, 0, M, by omega, rfl, rfl, by show 0 = 0 * tw; omega, HOW, HB0, HK0, HK1⟩
  case round =>
    clear HOW HB0 HK0 HK1 hs2
    obtain ⟨y, va, vn, vc, hy, rfl, rfl, HVN, HO, HB, HK0, HK1⟩ := hrel
    by_cases hlt : y < th
    · have d1 : decide ((y : Int) < (th : Int)) = true := by simp; omega
      have d1n : decide (y < th) = true := decide_eq_true hlt
      obtain ⟨t, ht⟩ : ∃ t, t = (Y + y) * W := ⟨_, rfl⟩
      have zt : ((Y : Int) + (y : Int)) * (W : Int) = (t : Int) := by rw [ht]; simp
      obtain ⟨f, hf⟩ : ∃ f, f = t + X := ⟨_, rfl⟩
      have zf : (t : Int) + (X : Int) = (f : Int) := by rw [hf]; simp
      obtain ⟨f2, hf2⟩ : ∃ f2, f2 = f + tw := ⟨_, rfl⟩
      have zf2 : (f : Int) + (tw : Int) = (f2 : Int) := by rw [hf2]; simp
      have htn : t + W ≤ n := by
        rw [ht, unhide HNN, Nat.mul_comm W H]
        have := Nat.mul_le_mul_right W (show Y + y + 1 ≤ H by omega)
        rw [Nat.succ_mul] at this
        exact this
      have wt : IntKind.i64.wrap (t : Int) = (t : Int) := by rw [IntKind.wrap_i64]; omega
      have wf : IntKind.i64.wrap (f : Int) = (f : Int) := by rw [IntKind.wrap_i64]; omega
      have wf2 : IntKind.i64.wrap (f2 : Int) = (f2 : Int) := by rw [IntKind.wrap_i64]; omega
      have hff : f ≤ f2 := by omega
      have hfc : f2 ≤ c := by omega
      have hfn : f2 ≤ n := by omega
      have hfd : f2 - f = tw := by omega
      have hvM : vn ≤ 65536 := by
        have h1 := unhide HVN
        have : y * tw ≤ 256 * 256 := Nat.mul_le_mul (show y ≤ 256 by omega) (show tw ≤ 256 by omega)
        omega
      obtain ⟨b, off, rfl, hm, hc⟩ := (unhide HPW wr (unhide HB)).resolve_left (by omega)
      have HL : Hid (∀ j u, (pxVals (fun i => p (f + i)) tw)[j]? = some u → wr.cell? ((⟨b, off + f * 4, none⟩ : Addr).add j) = some u) := px_lies (fun i hi => by
        have := hc (f + i) (by omega)
        rw [show off + f * 4 + i * 4 = off + (f + i) * 4 by omega]
        exact this)
      have HX : Hid (pxVals g (vn + tw) = pxVals g vn ++ pxVals (fun i => p (f + i)) tw) := by
        show _ = _
        rw [pxVals_add]
        congr 1
        refine pxVals_congr tw fun i hi => ?_
        have := unhide HG y i hi
        rw [unhide HVN, this, hf, ht]
      have HLn := hide (pxVals_length (fun i => p (f + i)) tw)
      have H1 : Hid (∀ u ∈ pxVals (fun i => p (f + i)) tw, u.oneCell' = true) := fun u hu => pxVals_one hu
      have r0 : wr.cell? ⟨B, 0, none⟩ = some (.int .i64 (W : Int)) := blk_cell (unhide HK0) 0
      have r2 : wr.cell? ⟨B, 2, none⟩ = some (.slice (some ⟨b, off, none⟩) n c) := blk_cell (unhide HK0) 2
      have q0 : wr.cell? ⟨B + 1, 0, none⟩ = some (.int .i64 (X : Int)) := blk_cell (unhide HK1) 0
      have q1 : wr.cell? ⟨B + 1, 1, none⟩ = some (.int .i64 (Y : Int)) := blk_cell (unhide HK1) 1
      have q2 : wr.cell? ⟨B + 1, 2, none⟩ = some (.int .i64 (tw : Int)) := blk_cell (unhide HK1) 2
      have hsz : B + 2 ≤ wr.heap.size := by have := blk_lt (unhide HK1); omega
      generalize pxVals (fun i => p (f + i)) tw = pc at *
      clear hc ht hf hf2
      have hown1 := unhide HO
      clear HO
      go_wp2_with (at_builtin; refine wpList_append_lies _ rfl (.tmp 29) (.tmp 37) 22 rfl (B + 2) 39 i0 (.agg #[.int .u8 0, .int .u8 0, .int .u8 0, .int .u8 0]) 4 4 Tryz.underlying22 (unhide Hi) (unhide Hz0) (unhide Hz1) (unhide Hz2) rfl (by omega) (.slice va vn vc) vn (pxVals g vn) rfl hown1 ⟨b, off + f * 4, none⟩ tw (c - f) pc rfl (unhide HLn) (unhide HL) (unhide H1) (by omega) (by unfold maxLen; omega) (by omega) (by omega) _ rfl ?_)
      intro gb cap2 w3 hown hgr hat hlt3
      have HO3 : Hid (w3.ownsRow (B + 2) 39 4 (.slice (some ⟨gb, 0, none⟩) (vn + tw) cap2) (vn + tw) (pxVals g (vn + tw))) := by rw [unhide HX]; exact hown
      have hne : ∀ k, (Value.slice va vn vc).ownBlock = some k → B + 2 ≤ k := fun k e => (hown1.lt k e).1
      have HB3 := hide ((unhide HB).grown hgr (by omega) (fun k e => by have := hne k e; omega))
      have HK03 := hide ((hgr.block B (by omega) (fun e => by have := hne B e.symm; omega)).trans (unhide HK0))
      have HK13 := hide ((hgr.block (B + 1) (by omega) (fun e => by have := hne (B + 1) e.symm; omega)).trans (unhide HK1))
      clear hown hgr hat hlt3 hown1 HB HK0 HK1 HX hne HL HLn H1 r0 r2 q0 q1 q2
      go_wp2
      go_roundw
      case rel => exact ⟨y + 1, some ⟨gb, 0, none⟩, vn + tw, cap2, by omega, by go_num, rfl, by show vn + tw = (y + 1) * tw; have := unhide HVN; rw [Nat.succ_mul]; omega, HO3, HB3, HK03, HK13⟩
      case measure => simp [intOf]; omega
    · obtain rfl : y = th := by omega
      have d1 : decide ((y : Int) < (y : Int)) = false := by simp
      have hvM : vn = M := by rw [unhide HVN, unhide HM, Nat.mul_comm]
      subst hvM
      have HOF := hide (own_pxN (own_rebase (unhide HO) (show B ≤ B + 2 by omega)) (by unfold maxLen; omega))
      clear HVN HO HM
      go_wp2
      go_ret
      rw [← unhide HBE]
      exact ⟨va, vc, rfl, unhide HOF, unhide HB⟩

/-- What is told of a part of a picture: its pixels. -/
theorem ofC_any (kp W H X Y tw th : Nat) (a : Option Addr) (n c : Nat) (p : Nat → Px) (w : World) (hk : w.heap[kp]? = some (.cells #[.int .i64 (W : Int), .int .i64 (H : Int), .slice a n c] 24)) (hP : IsPx w a n p) (hW : W ≤ 256) (hH : H ≤ 256) (hn : n = W * H) (hX : X + tw ≤ W) (hY : Y + th ≤ H) (h0 : 0 < tw) (hnc : n ≤ c) :
    Calls Tryz.prog 33 #[.agg #[.int .i64 (X : Int), .int .i64 (Y : Int), .int .i64 (tw : Int), .int .i64 (th : Int)], .pointer (some ⟨kp, 0, none⟩)] w fun e w' => ∃ a' c', e = .returned (.slice a' (tw * th) c') ∧ IsPxN w.heap.size w' a' (tw * th) (fun j => p ((Y + j / tw) * W + (X + j % tw))) ∧ Below w.heap.size w w' := by
  have HA := hide (al1 w (.cells #[.int .i64 (X : Int), .int .i64 (Y : Int), .int .i64 (tw : Int), .int .i64 (th : Int)] 37))
  have HC := hide (fun w1 (h : Below w.heap.size w w1) => pixelsIn_any W H X Y tw th a n c p w1 (hP.below h) hW hH hn hX hY h0 hnc)
  have hl := blk_lt hk
  have c0 : w.cell? ⟨kp, 0, none⟩ = some (.int .i64 (W : Int)) := blk_cell hk 0
  have c1 : w.cell? ⟨kp, 1, none⟩ = some (.int .i64 (H : Int)) := blk_cell hk 1
  have c2 : w.cell? ⟨kp, 2, none⟩ = some (.slice a n c) := blk_cell hk 2
  clear hk hP hn
  go_enter Tryz.func33, Tryz.ntmps33
  go_wp2_with fail
  generalize w.alloc (.cells #[.int .i64 (X : Int), .int .i64 (Y : Int), .int .i64 (tw : Int), .int .i64 (th : Int)] 37) = w1 at *
  obtain ⟨hs1, k0, hb1⟩ := unhide HA
  refine (unhide HC w1 hb1).mono ?_
  rintro e w2 ⟨a', c', rfl, hp2, hb2⟩
  have HF := hide (show IsPxN w.heap.size w2 a' (tw * th) _ ∧ Below w.heap.size w w2 from ⟨⟨hp2.is, fun q e => by have := hp2.new q e; omega⟩, hb1.trans (hb2.mono (by omega))⟩)
  clear hp2 hb2 hb1 HC HA k0 c0 c1 c2
  go_wp2
  go_ret
  exact ⟨a', c', rfl, (unhide HF).1, (unhide HF).2⟩
end Go.Proofs.YtcicbafdacfbpaiGreatDoor
