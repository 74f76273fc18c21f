/- A document flattened: the program's. -/
import Derived.Test.YtkdckcengmkhhajDoorLy7
import Derived.Test.YtkdckcengmkhhajDoorRt0
namespace Go.Proofs.YtkdckcengmkhhajDoor
open Go.RowKit

set_option maxHeartbeats 4000000 in
set_option maxRecDepth 100000 in
theorem flat_any (W H : Nat) (s : Option Addr) (ln cL : Nat) (L : Nat → Ly) (la : Nat → Option Addr) (lc : Nat → Nat) (w : World) (hW0 : 1 ≤ W) (hW : W ≤ 256) (hH : H ≤ 256) (hL : IsLy w s ln L la lc) (hR : ∀ i, i < ln → LyR (L i)) :
    Calls Tryd.prog 37 #[.agg #[.int .i64 (W : Int), .int .i64 (H : Int), .slice s ln cL]] w fun e w' => ∃ a c, e = .returned (.agg #[.int .i64 (W : Int), .int .i64 (H : Int), .slice a (W * H) c]) ∧ IsPxN w.heap.size w' a (W * H) (grid W (seenP L ln)) ∧ Below w.heap.size w w' := by
  have hT : ∀ x y wr, x < W → y < H → Below w.heap.size w wr → Calls Tryd.prog 39 #[.slice s ln cL, .int .i64 (x : Int), .int .i64 (y : Int)] wr fun e w' => e = .returned (seenP L ln x y).val ∧ Below wr.heap.size wr w' := fun x y wr hx hy hb => seen_any s ln cL L la lc x y wr (hL.below hb) hR (by omega) (by omega)
  clear hL hR
  obtain ⟨P, hP⟩ : ∃ P, P = seenP L ln := ⟨_, rfl⟩
  rw [← hP] at hT ⊢
  clear hP
  obtain ⟨i0, hi, hz0, hz1, hz2⟩ := info_parts px_info
  have Hi := hide hi
  have Hz0 := hide hz0
  have Hz1 := hide hz1
  have Hz2 := hide hz2
  have hT' := hide hT
  have hMb : W * H ≤ 65536 := Nat.mul_le_mul hW hH
  obtain ⟨M, hM⟩ : ∃ M, M = W * H := ⟨_, rfl⟩
  have zM : (W : Int) * (H : Int) = (M : Int) := by rw [hM]; simp
  rw [← hM] at hMb ⊢
  have wM : IntKind.i64.wrap (M : Int) = (M : Int) := by rw [IntKind.wrap_i64]; omega
  have hmk := make_px M (by omega)
  have HM := hide hM
  obtain ⟨B, hB⟩ : ∃ B, B = w.heap.size := ⟨_, rfl⟩
  have hHA := hide (al3 w (.cells #[.int .i64 (W : Int), .int .i64 (H : Int), .slice s ln cL] 39) (.cells #[.int .i64 0, .int .i64 0, .slice none 0 0] 32) (.cells (madeCells #[.int .u8 0, .int .u8 0, .int .u8 0, .int .u8 0] (M * 4)) 42))
  clear hi hz0 hz1 hz2 hT hM
  go_enter Tryd.func37, Tryd.ntmps37
  go_wp2
  have HOW := hide (World.ownsRow_made (base := B + 2) (e := 42) (size := 4) ((w.alloc (.cells #[.int .i64 (W : Int), .int .i64 (H : Int), .slice s ln cL] 39)).alloc (.cells #[.int .i64 0, .int .i64 0, .slice none 0 0] 32)) (madeCells #[.int .u8 0, .int .u8 0, .int .u8 0, .int .u8 0] (M * 4)) M (by rw [hB]; simp) (by unfold maxLen; omega) (size_madeCells _ _))
  have e1 : ((w.alloc (.cells #[.int .i64 (W : Int), .int .i64 (H : Int), .slice s ln cL] 39)).alloc (.cells #[.int .i64 0, .int .i64 0, .slice none 0 0] 32)).heap.size = w.heap.size + 2 := by simp
  rw [e1] at HOW
  clear e1 hmk
  generalize ((w.alloc (.cells #[.int .i64 (W : Int), .int .i64 (H : Int), .slice s ln cL] 39)).alloc (.cells #[.int .i64 0, .int .i64 0, .slice none 0 0] 32)).alloc (.cells (madeCells #[.int .u8 0, .int .u8 0, .int .u8 0, .int .u8 0] (M * 4)) 42) = w2 at *
  rw [← hB] at HOW hHA hT' ⊢
  obtain ⟨hsz, kD, kZ, kM, hbs⟩ := unhide hHA
  clear hHA kM
  have HBE := hide hB
  have HB2 := hide hbs
  have HSZ := hide hsz
  clear hB hbs hsz
  go_loopw [3, 14] (fun v yv wr => ∃ (y : Nat) (a : Option Addr) (n c : Nat), y ≤ H ∧ yv = .int .i64 (y : Int) ∧ v = .slice a n c ∧ n = y * W ∧ Hid (wr.ownsRow (B + 2) 42 4 (.slice a n c) n (pxVals (grid W P) n)) ∧ Hid (Below B w wr) ∧ wr.heap[B]? = some (.cells #[.int .i64 (W : Int), .int .i64 (H : Int), .slice s ln cL] 39) ∧ wr.heap[B + 1]? = some (.cells #[.int .i64 0, .int .i64 0, .slice none 0 0] 32) ∧ B + 2 ≤ wr.heap.size) (fun _ yv _ => H - (intOf yv).toNat)
  case atStart => exact ⟨0, some ⟨B + 2, 0, none⟩, 0, M, by omega, rfl, rfl, by omega, HOW, HB2, kD, kZ, by have := unhide HSZ; omega⟩
  case round =>
    clear HOW HB2 kD kZ HSZ
    obtain ⟨y, va, vn, vc, hy, rfl, rfl, hvn, HO, HB, kD, kZ, hsz⟩ := hrel
    by_cases hlt : y < H
    · have d1 : decide ((y : Int) < (H : Int)) = true := by simp; omega
      have d1n : decide (y < H) = true := decide_eq_true hlt
      have HVN := hide hvn
      have e0 : wr.cell? ⟨B, 0, none⟩ = some (.int .i64 (W : Int)) := blk_cell kD 0
      have hlB : B < wr.heap.size := by omega
      clear hvn
      go_wp2
      go_loopw [3, 19] (fun v xv wr => ∃ (x : Nat) (a : Option Addr) (n c : Nat), x ≤ W ∧ xv = .int .i64 (x : Int) ∧ v = .slice a n c ∧ Hid (n = y * W + x) ∧ Hid (wr.ownsRow (B + 2) 42 4 (.slice a n c) n (pxVals (grid W P) n)) ∧ Hid (Below B w wr) ∧ wr.heap[B]? = some (.cells #[.int .i64 (W : Int), .int .i64 (H : Int), .slice s ln cL] 39) ∧ wr.heap[B + 1]? = some (.cells #[.int .i64 0, .int .i64 0, .slice none 0 0] 32) ∧ B + 2 ≤ wr.heap.size) (fun _ xv _ => W - (intOf xv).toNat)
      case atStart => exact ⟨0, va, vn, vc, by omega, rfl, rfl, HVN, HO, HB, kD, kZ, hsz⟩
      case round =>
        clear HO HB kD kZ hsz HVN e0 hlB
        obtain ⟨x, va, vn, vc, hx, rfl, rfl, HVN, HO, HB, kD, kZ, hsz⟩ := hrel
        by_cases hlx : x < W
        · have d2 : decide ((x : Int) < (W : Int)) = true := by simp; omega
          have d2n : decide (x < W) = true := decide_eq_true hlx
          have HC := hide (unhide hT' x y wr hlx hlt (unhide HB))
          have HP : Hid (grid W P vn = P x y) := by show _ = _; rw [unhide HVN]; exact grid_at W P x y hlx
          have hvM : vn < 65536 := by
            have h1 := unhide HVN
            have h2 : (y + 1) * W ≤ H * W := Nat.mul_le_mul_right W hlt
            have h3 := unhide HM
            rw [Nat.mul_comm H W, ← h3, Nat.succ_mul] at h2
            omega
          have hlB : B < wr.heap.size := by omega
          have e2 : wr.cell? ⟨B, 2, none⟩ = some (.slice s ln cL) := blk_cell kD 2
          generalize P x y = p at *
          go_wp2_with fail
          refine (unhide HC).mono ?_
          rintro e w1 ⟨rfl, hb1⟩
          unfold Px.val
          have HO1 := hide ((own_belowP (unhide HO) hb1).alloc (.cells #[.int .u8 (p.r.toNat : Int), .int .u8 (p.g.toNat : Int), .int .u8 (p.b.toNat : Int), .int .u8 (p.a.toNat : Int)] 42))
          have HL := hide (px_cells_lie w1 p)
          have HN := hide (px_cells_one p)
          have hz1w := hb1.size
          have HB1 := hide ((unhide HB).trans (hb1.mono (show B ≤ wr.heap.size by omega)))
          have kD := blk_below kD hb1 (by omega)
          have kZ := blk_below kZ hb1 (by omega)
          have hz2w : (w1.alloc (.cells #[.int .u8 (p.r.toNat : Int), .int .u8 (p.g.toNat : Int), .int .u8 (p.b.toNat : Int), .int .u8 (p.a.toNat : Int)] 42)).heap.size = w1.heap.size + 1 := by simp
          have HPC : Hid (p.cells = [.int .u8 (p.r.toNat : Int), .int .u8 (p.g.toNat : Int), .int .u8 (p.b.toNat : Int), .int .u8 (p.a.toNat : Int)]) := rfl
          have HPL : Hid (p.cells.length = 4) := rfl
          have HX : Hid (pxVals (grid W P) (vn + 1) = pxVals (grid W P) vn ++ p.cells) := by show _ = _; rw [← unhide HP]; rfl
          clear HO HB HP hb1 HC e2
          generalize p.cells = pc at *
          generalize (p.r.toNat : Int) = pr at *
          generalize (p.g.toNat : Int) = pg at *
          generalize (p.b.toNat : Int) = pb at *
          generalize (p.a.toNat : Int) = pa at *
          have hown1 := unhide HO1
          clear HO1
          go_wp2_with (at_builtin; refine wpList_append_lies _ rfl (.tmp 22) (.tmp 28) 30 rfl (B + 2) 42 i0 (.agg #[.int .u8 0, .int .u8 0, .int .u8 0, .int .u8 0]) 4 4 Tryd.underlying30 (unhide Hi) (unhide Hz0) (unhide Hz1) (unhide Hz2) rfl (by omega) (.slice va vn vc) vn (pxVals (grid W P) vn) rfl hown1 ⟨w1.heap.size, 0, none⟩ 1 1 pc rfl (unhide HPL) (unhide HL) (unhide HN) (by omega) (by unfold maxLen; omega) (by omega) (by rw [hz2w]; omega) _ rfl ?_)
          intro g cap2 w3 hown hgr hat hlt3
          have HO3 : Hid (w3.ownsRow (B + 2) 42 4 (.slice (some ⟨g, 0, none⟩) (vn + 1) cap2) (vn + 1) (pxVals (grid W P) (vn + 1))) := by rw [unhide HX]; exact hown
          have hne : ∀ k, (Value.slice va vn vc).ownBlock = some k → B + 2 ≤ k := fun k e => (hown1.lt k e).1
          have HB3 := hide (((unhide HB1).alloc (by omega) _).grown hgr (by rw [hz2w]; omega) (fun k e => by have := hne k e; omega))
          have kD := (hgr.block B (by rw [hz2w]; omega) (fun e => by have := hne B e.symm; omega)).trans (blk_alloc kD _)
          have kZ := (hgr.block (B + 1) (by rw [hz2w]; omega) (fun e => by have := hne (B + 1) e.symm; omega)).trans (blk_alloc kZ _)
          have hsz3 : B + 2 ≤ w3.heap.size := by have := blk_lt kZ; omega
          clear hown hgr hat hlt3 hown1 HB1 HX hne HL HN HPC HPL hz2w
          go_wp2
          go_roundw
          case rel => exact ⟨x + 1, some ⟨g, 0, none⟩, vn + 1, cap2, by omega, by go_num, rfl, by show vn + 1 = y * W + (x + 1); have := unhide HVN; omega, HO3, HB3, kD, kZ, hsz3⟩
          case measure => simp [intOf]; omega
        · obtain rfl : x = W := by omega
          have d2 : decide ((x : Int) < (x : Int)) = false := by simp
          go_wp2
          go_roundw
          case rel => exact ⟨y + 1, va, vn, vc, by omega, by go_num, rfl, by have := unhide HVN; rw [Nat.succ_mul]; exact this, HO, HB, kD, kZ, hsz⟩
          case measure => simp [intOf]; omega
    · obtain rfl : y = H := by omega
      have d1 : decide ((y : Int) < (y : Int)) = false := by simp
      have hvM : vn = M := by rw [hvn, unhide HM, Nat.mul_comm]
      have c0 : wr.cell? ⟨B + 1, 0, none⟩ = some (.int .i64 0) := blk_cell kZ 0
      have c1 : wr.cell? ⟨B + 1, 1, none⟩ = some (.int .i64 0) := blk_cell kZ 1
      have c2 : wr.cell? ⟨B + 1, 2, none⟩ = some (.slice none 0 0) := blk_cell kZ 2
      have e0 : wr.cell? ⟨B, 0, none⟩ = some (.int .i64 (W : Int)) := blk_cell kD 0
      have e1 : wr.cell? ⟨B, 1, none⟩ = some (.int .i64 (y : Int)) := blk_cell kD 1
      have f0 := blk_frozen kZ 0
      have f1 := blk_frozen kZ 1
      have f2 := blk_frozen kZ 2
      have hlB : B < wr.heap.size := by omega
      have hzl : B + 1 < wr.heap.size := blk_lt kZ
      have HOF := hide (fun u1 u2 u3 : Value => own_pxN (own_rebase (own_farP (B := B + 1) (j := 2) (u := u3) (own_farP (B := B + 1) (j := 1) (u := u2) (own_farP (B := B + 1) (j := 0) (u := u1) (unhide HO)))) (Nat.le_add_right B 2)) (by unfold maxLen; omega))
      subst hvM
      clear hvn HO kD kZ
      go_wp2
      refine bodyPost_ret (v := .agg #[.int .i64 (W : Int), .int .i64 (y : Int), .slice va vn vc]) ?_ rfl ⟨va, vc, rfl, ?_, ?_⟩
      · rw [results_c (p := 2) (ty := 32) (by kernel_rfl)]
        go_simp
      · rw [← unhide HBE]
        exact unhide HOF _ _ _
      · rw [← unhide HBE]
        exact (((unhide HB).setCell (p := ⟨B + 1, 0, none⟩) (by show B ≤ B + 1; omega) _).setCell (p := ⟨B + 1, 1, none⟩) (by show B ≤ B + 1; omega) _).setCell (p := ⟨B + 1, 2, none⟩) (by show B ≤ B + 1; omega) _
end Go.Proofs.YtkdckcengmkhhajDoor
