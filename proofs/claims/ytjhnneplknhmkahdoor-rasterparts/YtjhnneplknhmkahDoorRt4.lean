/- Pictures: the functions that tell a pixel of each place: the program's. Written by genrt.py. -/
import Derived.Test.YtjhnneplknhmkahDoorRt3
namespace Go.Proofs.YtjhnneplknhmkahDoor
open Go.RowKit

set_option maxHeartbeats 4000000 in
set_option maxRecDepth 100000 in
theorem cropC (W H kp kr : Nat) (a : Option Addr) (n c : Nat) (p : Nat → Px) (X Y : Nat) (RW RH : Int) (x y : Nat) (w : World) (hP : IsPx w a n p) (hW : W ≤ 256) (hH : H ≤ 256) (hn : n = W * H) (hx : X + x < W) (hy : Y + y < H)
    (bkp : w.heap[kp]? = some (.cells #[.int .i64 (W : Int), .int .i64 (H : Int), .slice a n c] 26)) (bkr : w.heap[kr]? = some (.cells #[.int .i64 (X : Int), .int .i64 (Y : Int), .int .i64 RW, .int .i64 RH] 43)) :
    Calls Tryd.prog 52 #[.int .i64 (x : Int), .int .i64 (y : Int), .pointer (some ⟨kp, 0, none⟩), .pointer (some ⟨kr, 0, none⟩)] w fun e w' => e = .returned (p ((Y + y) * W + (X + x))).val ∧ Below w.heap.size w w' := by
  have HA := hide (al1 w (.cells #[.int .u8 0, .int .u8 0, .int .u8 0, .int .u8 0] 23))
  obtain ⟨tx, htx⟩ : ∃ tx, tx = X + x := ⟨_, rfl⟩
  obtain ⟨ty, hty⟩ : ∃ ty, ty = Y + y := ⟨_, rfl⟩
  rw [← htx, ← hty]
  have ltx : tx < W := by omega
  have lty : ty < H := by omega
  have z1 : (X : Int) + (x : Int) = (tx : Int) := by omega
  have z2 : (Y : Int) + (y : Int) = (ty : Int) := by omega
  have g1 : tx ≤ 256 := by omega
  have g2 : ty ≤ 256 := by omega
  have HR : Hid (∀ wr, Below w.heap.size w wr → Calls Tryd.prog 45 #[.agg #[.int .i64 (W : Int), .int .i64 (H : Int), .slice a n c], .int .i64 (tx : Int), .int .i64 (ty : Int)] wr fun e w' => e = .returned (p (ty * W + tx)).val ∧ Below wr.heap.size wr w') := fun wr hb => rat_any W H tx ty a n c p wr (hP.below hb) hW hH ltx lty hn
  have ckp0 : (w.alloc (.cells #[.int .u8 0, .int .u8 0, .int .u8 0, .int .u8 0] 23)).cell? ⟨kp, 0, none⟩ = some (.int .i64 (W : Int)) := blk_cell (blk_alloc bkp _) 0
  have ckp1 : (w.alloc (.cells #[.int .u8 0, .int .u8 0, .int .u8 0, .int .u8 0] 23)).cell? ⟨kp, 1, none⟩ = some (.int .i64 (H : Int)) := blk_cell (blk_alloc bkp _) 1
  have ckp2 : (w.alloc (.cells #[.int .u8 0, .int .u8 0, .int .u8 0, .int .u8 0] 23)).cell? ⟨kp, 2, none⟩ = some (.slice a n c) := blk_cell (blk_alloc bkp _) 2
  have ckr0 : (w.alloc (.cells #[.int .u8 0, .int .u8 0, .int .u8 0, .int .u8 0] 23)).cell? ⟨kr, 0, none⟩ = some (.int .i64 (X : Int)) := blk_cell (blk_alloc bkr _) 0
  have ckr1 : (w.alloc (.cells #[.int .u8 0, .int .u8 0, .int .u8 0, .int .u8 0] 23)).cell? ⟨kr, 1, none⟩ = some (.int .i64 (Y : Int)) := blk_cell (blk_alloc bkr _) 1
  have ckr2 : (w.alloc (.cells #[.int .u8 0, .int .u8 0, .int .u8 0, .int .u8 0] 23)).cell? ⟨kr, 2, none⟩ = some (.int .i64 RW) := blk_cell (blk_alloc bkr _) 2
  have ckr3 : (w.alloc (.cells #[.int .u8 0, .int .u8 0, .int .u8 0, .int .u8 0] 23)).cell? ⟨kr, 3, none⟩ = some (.int .i64 RH) := blk_cell (blk_alloc bkr _) 3
  have HC := hide (unhide HR _ (unhide HA).below)
  generalize p (ty * W + tx) = v at *
  obtain ⟨B, hB⟩ : ∃ B, B = w.heap.size := ⟨_, rfl⟩
  obtain ⟨V, hV⟩ : ∃ V, V = v.val := ⟨_, rfl⟩
  rw [← hV]
  have HV : Hid (V = .agg #[.int .u8 (v.r.toNat : Int), .int .u8 (v.g.toNat : Int), .int .u8 (v.b.toNat : Int), .int .u8 (v.a.toNat : Int)]) := hV
  unfold Px.val at HC
  clear hP hn htx hty ltx lty hV HR bkp bkr hx hy
  go_enter Tryd.func52, Tryd.ntmps52
  go_wp2_with fail
  refine (unhide HC).mono ?_
  generalize w.alloc (.cells #[.int .u8 0, .int .u8 0, .int .u8 0, .int .u8 0] 23) = w1 at *
  rw [← hB] at HA ⊢
  obtain ⟨hs1, k0, hb1⟩ := unhide HA
  rintro e w2 ⟨rfl, hb2⟩
  have hs2 := hb2.size
  have kr := blk_below k0 hb2 (by omega)
  have HB2 := hide (hb1.trans (hb2.mono (by omega)))
  have r0 := blk_frozen kr 0
  have s0 : w2.cell? ⟨B, 0, none⟩ = some (.int .u8 0) := blk_cell kr 0
  have r1 := blk_frozen kr 1
  have s1 : w2.cell? ⟨B, 1, none⟩ = some (.int .u8 0) := blk_cell kr 1
  have r2 := blk_frozen kr 2
  have s2 : w2.cell? ⟨B, 2, none⟩ = some (.int .u8 0) := blk_cell kr 2
  have r3 := blk_frozen kr 3
  have s3 : w2.cell? ⟨B, 3, none⟩ = some (.int .u8 0) := blk_cell kr 3
  have hl : B < w2.heap.size := by omega
  have HBE := hide hB
  clear hb1 hb2 kr k0 hs1 hs2 HA HC hB ckp0 ckp1 ckp2 ckr0 ckr1 ckr2 ckr3
  go_wp2
  refine bodyPost_ret (v := .agg #[.int .u8 (v.r.toNat : Int), .int .u8 (v.g.toNat : Int), .int .u8 (v.b.toNat : Int), .int .u8 (v.a.toNat : Int)]) ?_ rfl ⟨by rw [unhide HV], ?_⟩
  · rw [results_cellP (p := 6) (ty := 23) (by kernel_rfl)]
    go_simp
  · rw [← unhide HBE]
    exact ((((unhide HB2).setCell (p := ⟨B, 0, none⟩) (Nat.le_refl _) _).setCell (p := ⟨B, 1, none⟩) (Nat.le_refl _) _).setCell (p := ⟨B, 2, none⟩) (Nat.le_refl _) _).setCell (p := ⟨B, 3, none⟩) (Nat.le_refl _) _

set_option maxHeartbeats 4000000 in
set_option maxRecDepth 100000 in
theorem flipC_down (W H kd kp : Nat) (a : Option Addr) (n c : Nat) (p : Nat → Px)  (x y : Nat) (w : World) (hP : IsPx w a n p) (hW : W ≤ 256) (hH : H ≤ 256) (hn : n = W * H) (hx : x < W) (hy : y < H)
    (bkd : w.heap[kd]? = some (.cells #[.bool true] 4)) (bkp : w.heap[kp]? = some (.cells #[.int .i64 (W : Int), .int .i64 (H : Int), .slice a n c] 26)) :
    Calls Tryd.prog 57 #[.int .i64 (x : Int), .int .i64 (y : Int), .pointer (some ⟨kd, 0, none⟩), .pointer (some ⟨kp, 0, none⟩)] w fun e w' => e = .returned (p ((H - 1 - y) * W + (x))).val ∧ Below w.heap.size w w' := by
  have HA := hide (al1 w (.cells #[.int .u8 0, .int .u8 0, .int .u8 0, .int .u8 0] 23))
  obtain ⟨tx, htx⟩ : ∃ tx, tx = x := ⟨_, rfl⟩
  obtain ⟨ty, hty⟩ : ∃ ty, ty = H - 1 - y := ⟨_, rfl⟩
  rw [← htx, ← hty]
  have ltx : tx < W := by omega
  have lty : ty < H := by omega
  have z2 : (H : Int) - 1 - (y : Int) = (ty : Int) := by omega
  have z1 : tx = x := htx
  subst z1
  have HR : Hid (∀ wr, Below w.heap.size w wr → Calls Tryd.prog 45 #[.agg #[.int .i64 (W : Int), .int .i64 (H : Int), .slice a n c], .int .i64 (tx : Int), .int .i64 (ty : Int)] wr fun e w' => e = .returned (p (ty * W + tx)).val ∧ Below wr.heap.size wr w') := fun wr hb => rat_any W H tx ty a n c p wr (hP.below hb) hW hH ltx lty hn
  have ckd0 : (w.alloc (.cells #[.int .u8 0, .int .u8 0, .int .u8 0, .int .u8 0] 23)).cell? ⟨kd, 0, none⟩ = some (.bool true) := blk_cell (blk_alloc bkd _) 0
  have ckp0 : (w.alloc (.cells #[.int .u8 0, .int .u8 0, .int .u8 0, .int .u8 0] 23)).cell? ⟨kp, 0, none⟩ = some (.int .i64 (W : Int)) := blk_cell (blk_alloc bkp _) 0
  have ckp1 : (w.alloc (.cells #[.int .u8 0, .int .u8 0, .int .u8 0, .int .u8 0] 23)).cell? ⟨kp, 1, none⟩ = some (.int .i64 (H : Int)) := blk_cell (blk_alloc bkp _) 1
  have ckp2 : (w.alloc (.cells #[.int .u8 0, .int .u8 0, .int .u8 0, .int .u8 0] 23)).cell? ⟨kp, 2, none⟩ = some (.slice a n c) := blk_cell (blk_alloc bkp _) 2
  have HC := hide (unhide HR _ (unhide HA).below)
  generalize p (ty * W + tx) = v at *
  obtain ⟨B, hB⟩ : ∃ B, B = w.heap.size := ⟨_, rfl⟩
  obtain ⟨V, hV⟩ : ∃ V, V = v.val := ⟨_, rfl⟩
  rw [← hV]
  have HV : Hid (V = .agg #[.int .u8 (v.r.toNat : Int), .int .u8 (v.g.toNat : Int), .int .u8 (v.b.toNat : Int), .int .u8 (v.a.toNat : Int)]) := hV
  unfold Px.val at HC
  clear hP hn htx hty ltx lty hV HR bkd bkp hx hy
  go_enter Tryd.func57, Tryd.ntmps57
  go_wp2_with fail
  refine (unhide HC).mono ?_
  generalize w.alloc (.cells #[.int .u8 0, .int .u8 0, .int .u8 0, .int .u8 0] 23) = w1 at *
  rw [← hB] at HA ⊢
  obtain ⟨hs1, k0, hb1⟩ := unhide HA
  rintro e w2 ⟨rfl, hb2⟩
  have hs2 := hb2.size
  have kr := blk_below k0 hb2 (by omega)
  have HB2 := hide (hb1.trans (hb2.mono (by omega)))
  have r0 := blk_frozen kr 0
  have s0 : w2.cell? ⟨B, 0, none⟩ = some (.int .u8 0) := blk_cell kr 0
  have r1 := blk_frozen kr 1
  have s1 : w2.cell? ⟨B, 1, none⟩ = some (.int .u8 0) := blk_cell kr 1
  have r2 := blk_frozen kr 2
  have s2 : w2.cell? ⟨B, 2, none⟩ = some (.int .u8 0) := blk_cell kr 2
  have r3 := blk_frozen kr 3
  have s3 : w2.cell? ⟨B, 3, none⟩ = some (.int .u8 0) := blk_cell kr 3
  have hl : B < w2.heap.size := by omega
  have HBE := hide hB
  clear hb1 hb2 kr k0 hs1 hs2 HA HC hB ckd0 ckp0 ckp1 ckp2
  go_wp2
  refine bodyPost_ret (v := .agg #[.int .u8 (v.r.toNat : Int), .int .u8 (v.g.toNat : Int), .int .u8 (v.b.toNat : Int), .int .u8 (v.a.toNat : Int)]) ?_ rfl ⟨by rw [unhide HV], ?_⟩
  · rw [results_cellP (p := 6) (ty := 23) (by kernel_rfl)]
    go_simp
  · rw [← unhide HBE]
    exact ((((unhide HB2).setCell (p := ⟨B, 0, none⟩) (Nat.le_refl _) _).setCell (p := ⟨B, 1, none⟩) (Nat.le_refl _) _).setCell (p := ⟨B, 2, none⟩) (Nat.le_refl _) _).setCell (p := ⟨B, 3, none⟩) (Nat.le_refl _) _

set_option maxHeartbeats 4000000 in
set_option maxRecDepth 100000 in
theorem flipC_left (W H kd kp : Nat) (a : Option Addr) (n c : Nat) (p : Nat → Px)  (x y : Nat) (w : World) (hP : IsPx w a n p) (hW : W ≤ 256) (hH : H ≤ 256) (hn : n = W * H) (hx : x < W) (hy : y < H)
    (bkd : w.heap[kd]? = some (.cells #[.bool false] 4)) (bkp : w.heap[kp]? = some (.cells #[.int .i64 (W : Int), .int .i64 (H : Int), .slice a n c] 26)) :
    Calls Tryd.prog 57 #[.int .i64 (x : Int), .int .i64 (y : Int), .pointer (some ⟨kd, 0, none⟩), .pointer (some ⟨kp, 0, none⟩)] w fun e w' => e = .returned (p ((y) * W + (W - 1 - x))).val ∧ Below w.heap.size w w' := by
  have HA := hide (al1 w (.cells #[.int .u8 0, .int .u8 0, .int .u8 0, .int .u8 0] 23))
  obtain ⟨tx, htx⟩ : ∃ tx, tx = W - 1 - x := ⟨_, rfl⟩
  obtain ⟨ty, hty⟩ : ∃ ty, ty = y := ⟨_, rfl⟩
  rw [← htx, ← hty]
  have ltx : tx < W := by omega
  have lty : ty < H := by omega
  have z2 : (W : Int) - 1 - (x : Int) = (tx : Int) := by omega
  have z1 : ty = y := hty
  subst z1
  have HR : Hid (∀ wr, Below w.heap.size w wr → Calls Tryd.prog 45 #[.agg #[.int .i64 (W : Int), .int .i64 (H : Int), .slice a n c], .int .i64 (tx : Int), .int .i64 (ty : Int)] wr fun e w' => e = .returned (p (ty * W + tx)).val ∧ Below wr.heap.size wr w') := fun wr hb => rat_any W H tx ty a n c p wr (hP.below hb) hW hH ltx lty hn
  have ckd0 : (w.alloc (.cells #[.int .u8 0, .int .u8 0, .int .u8 0, .int .u8 0] 23)).cell? ⟨kd, 0, none⟩ = some (.bool false) := blk_cell (blk_alloc bkd _) 0
  have ckp0 : (w.alloc (.cells #[.int .u8 0, .int .u8 0, .int .u8 0, .int .u8 0] 23)).cell? ⟨kp, 0, none⟩ = some (.int .i64 (W : Int)) := blk_cell (blk_alloc bkp _) 0
  have ckp1 : (w.alloc (.cells #[.int .u8 0, .int .u8 0, .int .u8 0, .int .u8 0] 23)).cell? ⟨kp, 1, none⟩ = some (.int .i64 (H : Int)) := blk_cell (blk_alloc bkp _) 1
  have ckp2 : (w.alloc (.cells #[.int .u8 0, .int .u8 0, .int .u8 0, .int .u8 0] 23)).cell? ⟨kp, 2, none⟩ = some (.slice a n c) := blk_cell (blk_alloc bkp _) 2
  have HC := hide (unhide HR _ (unhide HA).below)
  generalize p (ty * W + tx) = v at *
  obtain ⟨B, hB⟩ : ∃ B, B = w.heap.size := ⟨_, rfl⟩
  obtain ⟨V, hV⟩ : ∃ V, V = v.val := ⟨_, rfl⟩
  rw [← hV]
  have HV : Hid (V = .agg #[.int .u8 (v.r.toNat : Int), .int .u8 (v.g.toNat : Int), .int .u8 (v.b.toNat : Int), .int .u8 (v.a.toNat : Int)]) := hV
  unfold Px.val at HC
  clear hP hn htx hty ltx lty hV HR bkd bkp hx hy
  go_enter Tryd.func57, Tryd.ntmps57
  go_wp2_with fail
  refine (unhide HC).mono ?_
  generalize w.alloc (.cells #[.int .u8 0, .int .u8 0, .int .u8 0, .int .u8 0] 23) = w1 at *
  rw [← hB] at HA ⊢
  obtain ⟨hs1, k0, hb1⟩ := unhide HA
  rintro e w2 ⟨rfl, hb2⟩
  have hs2 := hb2.size
  have kr := blk_below k0 hb2 (by omega)
  have HB2 := hide (hb1.trans (hb2.mono (by omega)))
  have r0 := blk_frozen kr 0
  have s0 : w2.cell? ⟨B, 0, none⟩ = some (.int .u8 0) := blk_cell kr 0
  have r1 := blk_frozen kr 1
  have s1 : w2.cell? ⟨B, 1, none⟩ = some (.int .u8 0) := blk_cell kr 1
  have r2 := blk_frozen kr 2
  have s2 : w2.cell? ⟨B, 2, none⟩ = some (.int .u8 0) := blk_cell kr 2
  have r3 := blk_frozen kr 3
  have s3 : w2.cell? ⟨B, 3, none⟩ = some (.int .u8 0) := blk_cell kr 3
  have hl : B < w2.heap.size := by omega
  have HBE := hide hB
  clear hb1 hb2 kr k0 hs1 hs2 HA HC hB ckd0 ckp0 ckp1 ckp2
  go_wp2
  refine bodyPost_ret (v := .agg #[.int .u8 (v.r.toNat : Int), .int .u8 (v.g.toNat : Int), .int .u8 (v.b.toNat : Int), .int .u8 (v.a.toNat : Int)]) ?_ rfl ⟨by rw [unhide HV], ?_⟩
  · rw [results_cellP (p := 6) (ty := 23) (by kernel_rfl)]
    go_simp
  · rw [← unhide HBE]
    exact ((((unhide HB2).setCell (p := ⟨B, 0, none⟩) (Nat.le_refl _) _).setCell (p := ⟨B, 1, none⟩) (Nat.le_refl _) _).setCell (p := ⟨B, 2, none⟩) (Nat.le_refl _) _).setCell (p := ⟨B, 3, none⟩) (Nat.le_refl _) _

set_option maxHeartbeats 4000000 in
set_option maxRecDepth 100000 in
theorem turnC1 (W H kp : Nat) (a : Option Addr) (n c : Nat) (p : Nat → Px)  (x y : Nat) (w : World) (hP : IsPx w a n p) (hW : W ≤ 256) (hH : H ≤ 256) (hn : n = W * H) (hx : x < H) (hy : y < W)
    (bkp : w.heap[kp]? = some (.cells #[.int .i64 (W : Int), .int .i64 (H : Int), .slice a n c] 26)) :
    Calls Tryd.prog 58 #[.int .i64 (x : Int), .int .i64 (y : Int), .pointer (some ⟨kp, 0, none⟩)] w fun e w' => e = .returned (p ((H - 1 - x) * W + (y))).val ∧ Below w.heap.size w w' := by
  have HA := hide (al1 w (.cells #[.int .u8 0, .int .u8 0, .int .u8 0, .int .u8 0] 23))
  obtain ⟨tx, htx⟩ : ∃ tx, tx = y := ⟨_, rfl⟩
  obtain ⟨ty, hty⟩ : ∃ ty, ty = H - 1 - x := ⟨_, rfl⟩
  rw [← htx, ← hty]
  have ltx : tx < W := by omega
  have lty : ty < H := by omega
  have z2 : (H : Int) - 1 - (x : Int) = (ty : Int) := by omega
  have z1 : tx = y := htx
  subst z1
  have HR : Hid (∀ wr, Below w.heap.size w wr → Calls Tryd.prog 45 #[.agg #[.int .i64 (W : Int), .int .i64 (H : Int), .slice a n c], .int .i64 (tx : Int), .int .i64 (ty : Int)] wr fun e w' => e = .returned (p (ty * W + tx)).val ∧ Below wr.heap.size wr w') := fun wr hb => rat_any W H tx ty a n c p wr (hP.below hb) hW hH ltx lty hn
  have ckp0 : (w.alloc (.cells #[.int .u8 0, .int .u8 0, .int .u8 0, .int .u8 0] 23)).cell? ⟨kp, 0, none⟩ = some (.int .i64 (W : Int)) := blk_cell (blk_alloc bkp _) 0
  have ckp1 : (w.alloc (.cells #[.int .u8 0, .int .u8 0, .int .u8 0, .int .u8 0] 23)).cell? ⟨kp, 1, none⟩ = some (.int .i64 (H : Int)) := blk_cell (blk_alloc bkp _) 1
  have ckp2 : (w.alloc (.cells #[.int .u8 0, .int .u8 0, .int .u8 0, .int .u8 0] 23)).cell? ⟨kp, 2, none⟩ = some (.slice a n c) := blk_cell (blk_alloc bkp _) 2
  have HC := hide (unhide HR _ (unhide HA).below)
  generalize p (ty * W + tx) = v at *
  obtain ⟨B, hB⟩ : ∃ B, B = w.heap.size := ⟨_, rfl⟩
  obtain ⟨V, hV⟩ : ∃ V, V = v.val := ⟨_, rfl⟩
  rw [← hV]
  have HV : Hid (V = .agg #[.int .u8 (v.r.toNat : Int), .int .u8 (v.g.toNat : Int), .int .u8 (v.b.toNat : Int), .int .u8 (v.a.toNat : Int)]) := hV
  unfold Px.val at HC
  clear hP hn htx hty ltx lty hV HR bkp hx hy
  go_enter Tryd.func58, Tryd.ntmps58
  go_wp2_with fail
  refine (unhide HC).mono ?_
  generalize w.alloc (.cells #[.int .u8 0, .int .u8 0, .int .u8 0, .int .u8 0] 23) = w1 at *
  rw [← hB] at HA ⊢
  obtain ⟨hs1, k0, hb1⟩ := unhide HA
  rintro e w2 ⟨rfl, hb2⟩
  have hs2 := hb2.size
  have kr := blk_below k0 hb2 (by omega)
  have HB2 := hide (hb1.trans (hb2.mono (by omega)))
  have r0 := blk_frozen kr 0
  have s0 : w2.cell? ⟨B, 0, none⟩ = some (.int .u8 0) := blk_cell kr 0
  have r1 := blk_frozen kr 1
  have s1 : w2.cell? ⟨B, 1, none⟩ = some (.int .u8 0) := blk_cell kr 1
  have r2 := blk_frozen kr 2
  have s2 : w2.cell? ⟨B, 2, none⟩ = some (.int .u8 0) := blk_cell kr 2
  have r3 := blk_frozen kr 3
  have s3 : w2.cell? ⟨B, 3, none⟩ = some (.int .u8 0) := blk_cell kr 3
  have hl : B < w2.heap.size := by omega
  have HBE := hide hB
  clear hb1 hb2 kr k0 hs1 hs2 HA HC hB ckp0 ckp1 ckp2
  go_wp2
  refine bodyPost_ret (v := .agg #[.int .u8 (v.r.toNat : Int), .int .u8 (v.g.toNat : Int), .int .u8 (v.b.toNat : Int), .int .u8 (v.a.toNat : Int)]) ?_ rfl ⟨by rw [unhide HV], ?_⟩
  · rw [results_cellP (p := 5) (ty := 23) (by kernel_rfl)]
    go_simp
  · rw [← unhide HBE]
    exact ((((unhide HB2).setCell (p := ⟨B, 0, none⟩) (Nat.le_refl _) _).setCell (p := ⟨B, 1, none⟩) (Nat.le_refl _) _).setCell (p := ⟨B, 2, none⟩) (Nat.le_refl _) _).setCell (p := ⟨B, 3, none⟩) (Nat.le_refl _) _

set_option maxHeartbeats 4000000 in
set_option maxRecDepth 100000 in
theorem turnC2 (W H kp : Nat) (a : Option Addr) (n c : Nat) (p : Nat → Px)  (x y : Nat) (w : World) (hP : IsPx w a n p) (hW : W ≤ 256) (hH : H ≤ 256) (hn : n = W * H) (hx : x < W) (hy : y < H)
    (bkp : w.heap[kp]? = some (.cells #[.int .i64 (W : Int), .int .i64 (H : Int), .slice a n c] 26)) :
    Calls Tryd.prog 59 #[.int .i64 (x : Int), .int .i64 (y : Int), .pointer (some ⟨kp, 0, none⟩)] w fun e w' => e = .returned (p ((H - 1 - y) * W + (W - 1 - x))).val ∧ Below w.heap.size w w' := by
  have HA := hide (al1 w (.cells #[.int .u8 0, .int .u8 0, .int .u8 0, .int .u8 0] 23))
  obtain ⟨tx, htx⟩ : ∃ tx, tx = W - 1 - x := ⟨_, rfl⟩
  obtain ⟨ty, hty⟩ : ∃ ty, ty = H - 1 - y := ⟨_, rfl⟩
  rw [← htx, ← hty]
  have ltx : tx < W := by omega
  have lty : ty < H := by omega
  have z2 : (H : Int) - 1 - (y : Int) = (ty : Int) := by omega
  have z1 : (W : Int) - 1 - (x : Int) = (tx : Int) := by omega
  have HR : Hid (∀ wr, Below w.heap.size w wr → Calls Tryd.prog 45 #[.agg #[.int .i64 (W : Int), .int .i64 (H : Int), .slice a n c], .int .i64 (tx : Int), .int .i64 (ty : Int)] wr fun e w' => e = .returned (p (ty * W + tx)).val ∧ Below wr.heap.size wr w') := fun wr hb => rat_any W H tx ty a n c p wr (hP.below hb) hW hH ltx lty hn
  have ckp0 : (w.alloc (.cells #[.int .u8 0, .int .u8 0, .int .u8 0, .int .u8 0] 23)).cell? ⟨kp, 0, none⟩ = some (.int .i64 (W : Int)) := blk_cell (blk_alloc bkp _) 0
  have ckp1 : (w.alloc (.cells #[.int .u8 0, .int .u8 0, .int .u8 0, .int .u8 0] 23)).cell? ⟨kp, 1, none⟩ = some (.int .i64 (H : Int)) := blk_cell (blk_alloc bkp _) 1
  have ckp2 : (w.alloc (.cells #[.int .u8 0, .int .u8 0, .int .u8 0, .int .u8 0] 23)).cell? ⟨kp, 2, none⟩ = some (.slice a n c) := blk_cell (blk_alloc bkp _) 2
  have HC := hide (unhide HR _ (unhide HA).below)
  generalize p (ty * W + tx) = v at *
  obtain ⟨B, hB⟩ : ∃ B, B = w.heap.size := ⟨_, rfl⟩
  obtain ⟨V, hV⟩ : ∃ V, V = v.val := ⟨_, rfl⟩
  rw [← hV]
  have HV : Hid (V = .agg #[.int .u8 (v.r.toNat : Int), .int .u8 (v.g.toNat : Int), .int .u8 (v.b.toNat : Int), .int .u8 (v.a.toNat : Int)]) := hV
  unfold Px.val at HC
  clear hP hn htx hty ltx lty hV HR bkp hx hy
  go_enter Tryd.func59, Tryd.ntmps59
  go_wp2_with fail
  refine (unhide HC).mono ?_
  generalize w.alloc (.cells #[.int .u8 0, .int .u8 0, .int .u8 0, .int .u8 0] 23) = w1 at *
  rw [← hB] at HA ⊢
  obtain ⟨hs1, k0, hb1⟩ := unhide HA
  rintro e w2 ⟨rfl, hb2⟩
  have hs2 := hb2.size
  have kr := blk_below k0 hb2 (by omega)
  have HB2 := hide (hb1.trans (hb2.mono (by omega)))
  have r0 := blk_frozen kr 0
  have s0 : w2.cell? ⟨B, 0, none⟩ = some (.int .u8 0) := blk_cell kr 0
  have r1 := blk_frozen kr 1
  have s1 : w2.cell? ⟨B, 1, none⟩ = some (.int .u8 0) := blk_cell kr 1
  have r2 := blk_frozen kr 2
  have s2 : w2.cell? ⟨B, 2, none⟩ = some (.int .u8 0) := blk_cell kr 2
  have r3 := blk_frozen kr 3
  have s3 : w2.cell? ⟨B, 3, none⟩ = some (.int .u8 0) := blk_cell kr 3
  have hl : B < w2.heap.size := by omega
  have HBE := hide hB
  clear hb1 hb2 kr k0 hs1 hs2 HA HC hB ckp0 ckp1 ckp2
  go_wp2
  refine bodyPost_ret (v := .agg #[.int .u8 (v.r.toNat : Int), .int .u8 (v.g.toNat : Int), .int .u8 (v.b.toNat : Int), .int .u8 (v.a.toNat : Int)]) ?_ rfl ⟨by rw [unhide HV], ?_⟩
  · rw [results_cellP (p := 5) (ty := 23) (by kernel_rfl)]
    go_simp
  · rw [← unhide HBE]
    exact ((((unhide HB2).setCell (p := ⟨B, 0, none⟩) (Nat.le_refl _) _).setCell (p := ⟨B, 1, none⟩) (Nat.le_refl _) _).setCell (p := ⟨B, 2, none⟩) (Nat.le_refl _) _).setCell (p := ⟨B, 3, none⟩) (Nat.le_refl _) _

set_option maxHeartbeats 4000000 in
set_option maxRecDepth 100000 in
theorem turnC3 (W H kp : Nat) (a : Option Addr) (n c : Nat) (p : Nat → Px)  (x y : Nat) (w : World) (hP : IsPx w a n p) (hW : W ≤ 256) (hH : H ≤ 256) (hn : n = W * H) (hx : x < H) (hy : y < W)
    (bkp : w.heap[kp]? = some (.cells #[.int .i64 (W : Int), .int .i64 (H : Int), .slice a n c] 26)) :
    Calls Tryd.prog 60 #[.int .i64 (x : Int), .int .i64 (y : Int), .pointer (some ⟨kp, 0, none⟩)] w fun e w' => e = .returned (p ((x) * W + (W - 1 - y))).val ∧ Below w.heap.size w w' := by
  have HA := hide (al1 w (.cells #[.int .u8 0, .int .u8 0, .int .u8 0, .int .u8 0] 23))
  obtain ⟨tx, htx⟩ : ∃ tx, tx = W - 1 - y := ⟨_, rfl⟩
  obtain ⟨ty, hty⟩ : ∃ ty, ty = x := ⟨_, rfl⟩
  rw [← htx, ← hty]
  have ltx : tx < W := by omega
  have lty : ty < H := by omega
  have z2 : (W : Int) - 1 - (y : Int) = (tx : Int) := by omega
  have z1 : ty = x := hty
  subst z1
  have HR : Hid (∀ wr, Below w.heap.size w wr → Calls Tryd.prog 45 #[.agg #[.int .i64 (W : Int), .int .i64 (H : Int), .slice a n c], .int .i64 (tx : Int), .int .i64 (ty : Int)] wr fun e w' => e = .returned (p (ty * W + tx)).val ∧ Below wr.heap.size wr w') := fun wr hb => rat_any W H tx ty a n c p wr (hP.below hb) hW hH ltx lty hn
  have ckp0 : (w.alloc (.cells #[.int .u8 0, .int .u8 0, .int .u8 0, .int .u8 0] 23)).cell? ⟨kp, 0, none⟩ = some (.int .i64 (W : Int)) := blk_cell (blk_alloc bkp _) 0
  have ckp1 : (w.alloc (.cells #[.int .u8 0, .int .u8 0, .int .u8 0, .int .u8 0] 23)).cell? ⟨kp, 1, none⟩ = some (.int .i64 (H : Int)) := blk_cell (blk_alloc bkp _) 1
  have ckp2 : (w.alloc (.cells #[.int .u8 0, .int .u8 0, .int .u8 0, .int .u8 0] 23)).cell? ⟨kp, 2, none⟩ = some (.slice a n c) := blk_cell (blk_alloc bkp _) 2
  have HC := hide (unhide HR _ (unhide HA).below)
  generalize p (ty * W + tx) = v at *
  obtain ⟨B, hB⟩ : ∃ B, B = w.heap.size := ⟨_, rfl⟩
  obtain ⟨V, hV⟩ : ∃ V, V = v.val := ⟨_, rfl⟩
  rw [← hV]
  have HV : Hid (V = .agg #[.int .u8 (v.r.toNat : Int), .int .u8 (v.g.toNat : Int), .int .u8 (v.b.toNat : Int), .int .u8 (v.a.toNat : Int)]) := hV
  unfold Px.val at HC
  clear hP hn htx hty ltx lty hV HR bkp hx hy
  go_enter Tryd.func60, Tryd.ntmps60
  go_wp2_with fail
  refine (unhide HC).mono ?_
  generalize w.alloc (.cells #[.int .u8 0, .int .u8 0, .int .u8 0, .int .u8 0] 23) = w1 at *
  rw [← hB] at HA ⊢
  obtain ⟨hs1, k0, hb1⟩ := unhide HA
  rintro e w2 ⟨rfl, hb2⟩
  have hs2 := hb2.size
  have kr := blk_below k0 hb2 (by omega)
  have HB2 := hide (hb1.trans (hb2.mono (by omega)))
  have r0 := blk_frozen kr 0
  have s0 : w2.cell? ⟨B, 0, none⟩ = some (.int .u8 0) := blk_cell kr 0
  have r1 := blk_frozen kr 1
  have s1 : w2.cell? ⟨B, 1, none⟩ = some (.int .u8 0) := blk_cell kr 1
  have r2 := blk_frozen kr 2
  have s2 : w2.cell? ⟨B, 2, none⟩ = some (.int .u8 0) := blk_cell kr 2
  have r3 := blk_frozen kr 3
  have s3 : w2.cell? ⟨B, 3, none⟩ = some (.int .u8 0) := blk_cell kr 3
  have hl : B < w2.heap.size := by omega
  have HBE := hide hB
  clear hb1 hb2 kr k0 hs1 hs2 HA HC hB ckp0 ckp1 ckp2
  go_wp2
  refine bodyPost_ret (v := .agg #[.int .u8 (v.r.toNat : Int), .int .u8 (v.g.toNat : Int), .int .u8 (v.b.toNat : Int), .int .u8 (v.a.toNat : Int)]) ?_ rfl ⟨by rw [unhide HV], ?_⟩
  · rw [results_cellP (p := 5) (ty := 23) (by kernel_rfl)]
    go_simp
  · rw [← unhide HBE]
    exact ((((unhide HB2).setCell (p := ⟨B, 0, none⟩) (Nat.le_refl _) _).setCell (p := ⟨B, 1, none⟩) (Nat.le_refl _) _).setCell (p := ⟨B, 2, none⟩) (Nat.le_refl _) _).setCell (p := ⟨B, 3, none⟩) (Nat.le_refl _) _

set_option maxHeartbeats 4000000 in
set_option maxRecDepth 100000 in
theorem turnC4 (W H kp : Nat) (a : Option Addr) (n c : Nat) (p : Nat → Px)  (x y : Nat) (w : World) (hP : IsPx w a n p) (hW : W ≤ 256) (hH : H ≤ 256) (hn : n = W * H) (hx : x < W) (hy : y < H)
    (bkp : w.heap[kp]? = some (.cells #[.int .i64 (W : Int), .int .i64 (H : Int), .slice a n c] 26)) :
    Calls Tryd.prog 61 #[.int .i64 (x : Int), .int .i64 (y : Int), .pointer (some ⟨kp, 0, none⟩)] w fun e w' => e = .returned (p ((y) * W + (x))).val ∧ Below w.heap.size w w' := by
  have HA := hide (al1 w (.cells #[.int .u8 0, .int .u8 0, .int .u8 0, .int .u8 0] 23))
  obtain ⟨tx, htx⟩ : ∃ tx, tx = x := ⟨_, rfl⟩
  obtain ⟨ty, hty⟩ : ∃ ty, ty = y := ⟨_, rfl⟩
  rw [← htx, ← hty]
  have ltx : tx < W := by omega
  have lty : ty < H := by omega
  have z2 : tx = x := htx
  have z1 : ty = y := hty
  subst z1
  subst z2
  have HR : Hid (∀ wr, Below w.heap.size w wr → Calls Tryd.prog 45 #[.agg #[.int .i64 (W : Int), .int .i64 (H : Int), .slice a n c], .int .i64 (tx : Int), .int .i64 (ty : Int)] wr fun e w' => e = .returned (p (ty * W + tx)).val ∧ Below wr.heap.size wr w') := fun wr hb => rat_any W H tx ty a n c p wr (hP.below hb) hW hH ltx lty hn
  have ckp0 : (w.alloc (.cells #[.int .u8 0, .int .u8 0, .int .u8 0, .int .u8 0] 23)).cell? ⟨kp, 0, none⟩ = some (.int .i64 (W : Int)) := blk_cell (blk_alloc bkp _) 0
  have ckp1 : (w.alloc (.cells #[.int .u8 0, .int .u8 0, .int .u8 0, .int .u8 0] 23)).cell? ⟨kp, 1, none⟩ = some (.int .i64 (H : Int)) := blk_cell (blk_alloc bkp _) 1
  have ckp2 : (w.alloc (.cells #[.int .u8 0, .int .u8 0, .int .u8 0, .int .u8 0] 23)).cell? ⟨kp, 2, none⟩ = some (.slice a n c) := blk_cell (blk_alloc bkp _) 2
  have HC := hide (unhide HR _ (unhide HA).below)
  generalize p (ty * W + tx) = v at *
  obtain ⟨B, hB⟩ : ∃ B, B = w.heap.size := ⟨_, rfl⟩
  obtain ⟨V, hV⟩ : ∃ V, V = v.val := ⟨_, rfl⟩
  rw [← hV]
  have HV : Hid (V = .agg #[.int .u8 (v.r.toNat : Int), .int .u8 (v.g.toNat : Int), .int .u8 (v.b.toNat : Int), .int .u8 (v.a.toNat : Int)]) := hV
  unfold Px.val at HC
  clear hP hn htx hty ltx lty hV HR bkp hx hy
  go_enter Tryd.func61, Tryd.ntmps61
  go_wp2_with fail
  refine (unhide HC).mono ?_
  generalize w.alloc (.cells #[.int .u8 0, .int .u8 0, .int .u8 0, .int .u8 0] 23) = w1 at *
  rw [← hB] at HA ⊢
  obtain ⟨hs1, k0, hb1⟩ := unhide HA
  rintro e w2 ⟨rfl, hb2⟩
  have hs2 := hb2.size
  have kr := blk_below k0 hb2 (by omega)
  have HB2 := hide (hb1.trans (hb2.mono (by omega)))
  have r0 := blk_frozen kr 0
  have s0 : w2.cell? ⟨B, 0, none⟩ = some (.int .u8 0) := blk_cell kr 0
  have r1 := blk_frozen kr 1
  have s1 : w2.cell? ⟨B, 1, none⟩ = some (.int .u8 0) := blk_cell kr 1
  have r2 := blk_frozen kr 2
  have s2 : w2.cell? ⟨B, 2, none⟩ = some (.int .u8 0) := blk_cell kr 2
  have r3 := blk_frozen kr 3
  have s3 : w2.cell? ⟨B, 3, none⟩ = some (.int .u8 0) := blk_cell kr 3
  have hl : B < w2.heap.size := by omega
  have HBE := hide hB
  clear hb1 hb2 kr k0 hs1 hs2 HA HC hB ckp0 ckp1 ckp2
  go_wp2
  refine bodyPost_ret (v := .agg #[.int .u8 (v.r.toNat : Int), .int .u8 (v.g.toNat : Int), .int .u8 (v.b.toNat : Int), .int .u8 (v.a.toNat : Int)]) ?_ rfl ⟨by rw [unhide HV], ?_⟩
  · rw [results_cellP (p := 5) (ty := 23) (by kernel_rfl)]
    go_simp
  · rw [← unhide HBE]
    exact ((((unhide HB2).setCell (p := ⟨B, 0, none⟩) (Nat.le_refl _) _).setCell (p := ⟨B, 1, none⟩) (Nat.le_refl _) _).setCell (p := ⟨B, 2, none⟩) (Nat.le_refl _) _).setCell (p := ⟨B, 3, none⟩) (Nat.le_refl _) _

end Go.Proofs.YtjhnneplknhmkahDoor
