/- Four pixels at a place, or as many as there are: the program's. -/
import Derived.Test.YtjchafbihfblnahDoorRt7
import Derived.Lib.MinMax
namespace Go.Proofs.YtjchafbihfblnahDoor
open Go.RowKit

theorem place_lt2 {x y W H : Nat} (hx : x < W) (hy : y < H) : y * W + x < W * H := by
  have h2 : (y + 1) * W ≤ H * W := Nat.mul_le_mul_right W hy
  rw [Nat.mul_comm W H]
  rw [Nat.succ_mul] at h2
  omega
set_option maxHeartbeats 4000000 in
set_option maxRecDepth 100000 in
theorem fourAt_any (W H : Nat) (a : Option Addr) (n c : Nat) (p : Nat → Px) (X Y XE YE cw ch : Nat) (w : World) (hP : IsPx w a n p) (hW : W ≤ 256) (hH : H ≤ 256) (hn : n = W * H) (hXE : XE = min (X + 2) W) (hYE : YE = min (Y + 2) H) (hcw : XE = X + cw) (hch : YE = Y + ch) (hX : X < W) (hY : Y < H) :
    Calls Tryd.prog 64 #[.agg #[.int .i64 (W : Int), .int .i64 (H : Int), .slice a n c], .int .i64 (X : Int), .int .i64 (Y : Int)] w fun e w' => ∃ a2 c2, e = .returned (.slice a2 (cw * ch) c2) ∧ IsPx w' a2 (cw * ch) (grid cw fun i j => p ((Y + j) * W + (X + i))) ∧ Below w.heap.size w w' := by
  obtain ⟨i0, hi, hz0, hz1, hz2⟩ := info_parts px_info
  have Hi := hide hi
  have Hz0 := hide hz0
  have Hz1 := hide hz1
  have Hz2 := hide hz2
  have hmk : ∀ w : World, (Instr.makeSlice 24 (.int .i64 0) (.int .i64 4)).run Tryd.prog w = .ok (.slice (some ⟨w.heap.size, 0, none⟩) 0 4) (w.alloc (.cells (madeCells #[.int .u8 0, .int .u8 0, .int .u8 0, .int .u8 0] 16) 23)) := make_px 4 (by omega)
  have hmX : min ((X : Int) + 2) (W : Int) = (XE : Int) := by omega
  have hmY : min ((Y : Int) + 2) (H : Int) = (YE : Int) := by omega
  have hXW : XE ≤ W := by omega
  have hYH : YE ≤ H := by omega
  have hc2 : cw ≤ 2 := by omega
  have hc1 : 1 ≤ cw := by omega
  have hd2 : ch ≤ 2 := by omega
  have hM4 : cw * ch ≤ 4 := Nat.mul_le_mul hc2 hd2
  obtain ⟨G, hG⟩ : ∃ G, G = grid cw fun i j => p ((Y + j) * W + (X + i)) := ⟨_, rfl⟩
  have HG : Hid (∀ i j, i < cw → G (j * cw + i) = p ((Y + j) * W + (X + i))) := fun i j h => by rw [hG]; exact grid_at cw (fun i j => p ((Y + j) * W + (X + i))) i j h
  rw [← hG]
  have HT := hide (fun wr (hb : Below w.heap.size w wr) x y (hx : x < W) (hy : y < H) => rat_any W H x y a n c p wr (hP.below hb) hW hH hx hy hn)
  have HA2 := hide (al2 w (.cells #[.int .i64 (W : Int), .int .i64 (H : Int), .slice a n c] 26) (.cells (madeCells #[.int .u8 0, .int .u8 0, .int .u8 0, .int .u8 0] 16) 23))
  obtain ⟨B, hB⟩ : ∃ B, B = w.heap.size := ⟨_, rfl⟩
  have hcw' := hide hcw
  have hch' := hide hch
  clear hi hz0 hz1 hz2 hG hP hn hXE hYE
  go_enter Tryd.func64, Tryd.ntmps64
  go_wp2
  have HOW := hide (World.ownsRow_made (base := B + 1) (e := 23) (size := 4) (w.alloc (.cells #[.int .i64 (W : Int), .int .i64 (H : Int), .slice a n c] 26)) (madeCells #[.int .u8 0, .int .u8 0, .int .u8 0, .int .u8 0] 16) 4 (by rw [hB]; simp) (by unfold maxLen; omega) (size_madeCells _ _))
  have e1 : (w.alloc (.cells #[.int .i64 (W : Int), .int .i64 (H : Int), .slice a n c] 26)).heap.size = w.heap.size + 1 := by simp
  rw [e1] at HOW
  clear e1 hmk
  generalize (w.alloc (.cells #[.int .i64 (W : Int), .int .i64 (H : Int), .slice a n c] 26)).alloc (.cells (madeCells #[.int .u8 0, .int .u8 0, .int .u8 0, .int .u8 0] 16) 23) = w2 at *
  rw [← hB] at HOW HA2 HT ⊢
  obtain ⟨hs2, k0, _, hb2⟩ := unhide HA2
  have HBE := hide hB
  have HB2 := hide hb2
  have K0 := hide k0
  clear hB HA2 k0 hb2 hs2 hcw hch
  go_loopw [7, 8] (fun v yv wr => ∃ (sy : Nat) (a1 : Option Addr) (n1 c1 : Nat), Y ≤ sy ∧ sy ≤ YE ∧ yv = .int .i64 (sy : Int) ∧ v = .slice a1 n1 c1 ∧ Hid (n1 = (sy - Y) * cw) ∧ Hid (wr.ownsRow (B + 1) 23 4 (.slice a1 n1 c1) n1 (pxVals G n1)) ∧ Hid (Below B w wr) ∧ Hid (wr.heap[B]? = some (.cells #[.int .i64 (W : Int), .int .i64 (H : Int), .slice a n c] 26))) (fun _ yv _ => YE - (intOf yv).toNat)
  case atStart => exact ⟨Y, some ⟨B + 1, 0, none⟩, 0, 4, Nat.le_refl _, by have := unhide hch'; omega, rfl, rfl, by show 0 = (Y - Y) * cw; rw [Nat.sub_self, Nat.zero_mul], HOW, HB2, K0⟩
  case round =>
    clear HOW HB2 K0
    obtain ⟨sy, va, vn, vc, hy0, hy, rfl, rfl, HVN, HO, HB, K0⟩ := hrel
    have c0 : wr.cell? ⟨B, 0, none⟩ = some (.int .i64 (W : Int)) := blk_cell (unhide K0) 0
    have c1 : wr.cell? ⟨B, 1, none⟩ = some (.int .i64 (H : Int)) := blk_cell (unhide K0) 1
    have c2 : wr.cell? ⟨B, 2, none⟩ = some (.slice a n c) := blk_cell (unhide K0) 2
    by_cases hlt : sy < YE
    · have d1 : decide ((sy : Int) < (YE : Int)) = true := by simp; omega
      have d1n : decide (sy < YE) = true := decide_eq_true hlt
      go_wp2
      go_loopw [7, 9] (fun v xv wr => ∃ (sx : Nat) (a1 : Option Addr) (n1 c1 : Nat), X ≤ sx ∧ sx ≤ XE ∧ xv = .int .i64 (sx : Int) ∧ v = .slice a1 n1 c1 ∧ Hid (n1 = (sy - Y) * cw + (sx - X)) ∧ Hid (wr.ownsRow (B + 1) 23 4 (.slice a1 n1 c1) n1 (pxVals G n1)) ∧ Hid (Below B w wr) ∧ Hid (wr.heap[B]? = some (.cells #[.int .i64 (W : Int), .int .i64 (H : Int), .slice a n c] 26))) (fun _ xv _ => XE - (intOf xv).toNat)
      case atStart => exact ⟨X, va, vn, vc, Nat.le_refl _, by have := unhide hcw'; omega, rfl, rfl, by show vn = (sy - Y) * cw + (X - X); rw [Nat.sub_self]; exact unhide HVN, HO, HB, K0⟩
      case round =>
        clear HO HB K0 HVN c0 c1 c2
        obtain ⟨sx, va, vn, vc, hx0, hx, rfl, rfl, HVN, HO, HB, K0⟩ := hrel
        have c0 : wr.cell? ⟨B, 0, none⟩ = some (.int .i64 (W : Int)) := blk_cell (unhide K0) 0
        have c1 : wr.cell? ⟨B, 1, none⟩ = some (.int .i64 (H : Int)) := blk_cell (unhide K0) 1
        have c2 : wr.cell? ⟨B, 2, none⟩ = some (.slice a n c) := blk_cell (unhide K0) 2
        by_cases hlx : sx < XE
        · have d2 : decide ((sx : Int) < (XE : Int)) = true := by simp; omega
          have d2n : decide (sx < XE) = true := decide_eq_true hlx
          have hxc : sx - X < cw := by have := unhide hcw'; omega
          have HC := hide (unhide HT wr (unhide HB) sx sy (by omega) (by omega))
          have HP : Hid (G vn = p (sy * W + sx)) := by have h := unhide HG (sx - X) (sy - Y) hxc; rw [← unhide HVN, show Y + (sy - Y) = sy by omega, show X + (sx - X) = sx by omega] at h; exact h
          have hvM : vn < 5 := by
            have h1 := unhide HVN
            have hyc : sy - Y < ch := by have := unhide hch'; omega
            have h2 := place_lt2 hxc hyc
            omega
          have hwz : B + 1 ≤ wr.heap.size := by have := blk_lt (unhide K0); omega
          generalize p (sy * W + sx) = q at *
          unfold Px.val at HC
          go_wp2_with fail
          refine (unhide HC).mono ?_
          rintro e w1 ⟨rfl, hb1⟩
          have HO1 := hide ((own_belowP (unhide HO) hb1).alloc (.cells #[.int .u8 (q.r.toNat : Int), .int .u8 (q.g.toNat : Int), .int .u8 (q.b.toNat : Int), .int .u8 (q.a.toNat : Int)] 23))
          have HL := hide (px_cells_lie w1 q)
          have HN := hide (px_cells_one q)
          have hz1w := hb1.size
          have HB1 := hide ((unhide HB).trans (hb1.mono (show B ≤ wr.heap.size by omega)))
          have HZ1 := hide (blk_below (unhide K0) hb1 (by omega))
          have hz2w : (w1.alloc (.cells #[.int .u8 (q.r.toNat : Int), .int .u8 (q.g.toNat : Int), .int .u8 (q.b.toNat : Int), .int .u8 (q.a.toNat : Int)] 23)).heap.size = w1.heap.size + 1 := by simp
          have HPC : Hid (q.cells = [.int .u8 (q.r.toNat : Int), .int .u8 (q.g.toNat : Int), .int .u8 (q.b.toNat : Int), .int .u8 (q.a.toNat : Int)]) := rfl
          have HPL : Hid (q.cells.length = 4) := rfl
          have HX : Hid (pxVals G (vn + 1) = pxVals G vn ++ q.cells) := by show _ = _; rw [← unhide HP]; rfl
          clear HO HB K0 HP hb1 HC c0 c1 c2
          generalize q.cells = pc at *
          generalize (q.r.toNat : Int) = pr at *
          generalize (q.g.toNat : Int) = pg at *
          generalize (q.b.toNat : Int) = pb at *
          generalize (q.a.toNat : Int) = pa at *
          have hown1 := unhide HO1
          clear HO1
          go_wp2_with (at_builtin; refine wpList_append_lies _ rfl (.tmp 31) (.tmp 36) 24 rfl (B + 1) 23 i0 (.agg #[.int .u8 0, .int .u8 0, .int .u8 0, .int .u8 0]) 4 4 Tryd.underlying24 (unhide Hi) (unhide Hz0) (unhide Hz1) (unhide Hz2) rfl (by omega) (.slice va vn vc) vn (pxVals G vn) rfl hown1 ⟨w1.heap.size, 0, none⟩ 1 1 pc rfl (unhide HPL) (unhide HL) (unhide HN) (by omega) (by unfold maxLen; omega) (by omega) (by rw [hz2w]; omega) _ rfl ?_)
          intro g cap2 w3 hown hgr hat hlt3
          have HO3 : Hid (w3.ownsRow (B + 1) 23 4 (.slice (some ⟨g, 0, none⟩) (vn + 1) cap2) (vn + 1) (pxVals G (vn + 1))) := by rw [unhide HX]; exact hown
          have hne : ∀ k, (Value.slice va vn vc).ownBlock = some k → B + 1 ≤ k := fun k e => (hown1.lt k e).1
          have HB3 := hide (((unhide HB1).alloc (by omega) _).grown hgr (by rw [hz2w]; omega) (fun k e => by have := hne k e; omega))
          have HZ3 := hide ((show w3.heap[B]? = w1.heap[B]? from (hgr.block B (by rw [hz2w]; omega) (fun e => by have := hne B e.symm; omega)).trans (Below.heap_alloc _ _ _ (by omega))).trans (unhide HZ1))
          clear hown hgr hat hlt3 hown1 HB1 HZ1 HX hne HL HN HPC HPL hz2w
          go_wp2
          go_roundw
          case rel => exact ⟨sx + 1, some ⟨g, 0, none⟩, vn + 1, cap2, by omega, by omega, by go_num, rfl, by show vn + 1 = (sy - Y) * cw + (sx + 1 - X); have := unhide HVN; omega, HO3, HB3, HZ3⟩
          case measure => simp [intOf]; omega
        · have hxe : sx = XE := by omega
          have d2 : decide ((sx : Int) < (XE : Int)) = false := by simp; omega
          have d2n : decide (sx < XE) = false := decide_eq_false hlx
          have HXC : Hid (sx - X = cw) := by have := unhide hcw'; show sx - X = cw; omega
          clear hxe
          go_wp2
          go_roundw
          case rel => exact ⟨sy + 1, va, vn, vc, by omega, by omega, by go_num, rfl, by show vn = (sy + 1 - Y) * cw; rw [show sy + 1 - Y = (sy - Y) + 1 by omega, Nat.succ_mul, unhide HVN, unhide HXC], HO, HB, K0⟩
          case measure => simp [intOf]; omega
    · have d1 : decide ((sy : Int) < (YE : Int)) = false := by simp; omega
      have d1n : decide (sy < YE) = false := decide_eq_false hlt
      have hye : sy - Y = ch := by have := unhide hch'; omega
      have HVE : Hid (vn = cw * ch) := by show vn = _; rw [unhide HVN, hye, Nat.mul_comm]
      have hv4 : vn ≤ 4 := by rw [unhide HVE]; exact hM4
      clear hye
      go_wp2
      go_ret
      refine ⟨va, vc, (show Ending.returned (.slice va vn vc) = Ending.returned (.slice va (cw * ch) vc) from by rw [unhide HVE]), ?_, by rw [← unhide HBE]; exact unhide HB⟩
      rw [← unhide HVE]
      exact own_px (unhide HO) (by unfold maxLen; omega)
end Go.Proofs.YtjchafbihfblnahDoor
