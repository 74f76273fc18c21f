/- Pictures: what the functions of package raster answer. Written by genrt5.py. -/
import Derived.Test.YtjhnneplknhmkahDoorRt6
namespace Go.Proofs.YtjhnneplknhmkahDoor
open Go.RowKit

set_option maxHeartbeats 1000000 in
theorem newC (k : Nat) (q : Px) (x y : Nat) (w : World) (b : w.heap[k]? = some (.cells #[.int .u8 (q.r.toNat : Int), .int .u8 (q.g.toNat : Int), .int .u8 (q.b.toNat : Int), .int .u8 (q.a.toNat : Int)] 23)) :
    Calls Tryd.prog 42 #[.int .i64 (x : Int), .int .i64 (y : Int), .pointer (some ⟨k, 0, none⟩)] w fun e w' => e = .returned q.val ∧ Below w.heap.size w w' := by
  have b1 := blk_alloc b (.cells #[.int .u8 0, .int .u8 0, .int .u8 0, .int .u8 0] 23)
  have c0 := blk_cell b1 0
  have c1 := blk_cell b1 1
  have c2 := blk_cell b1 2
  have c3 := blk_cell b1 3
  have hne : w.heap.size ≠ k := by have := blk_lt b; omega
  simp only [List.getElem?_toArray, List.getElem?_cons_zero, List.getElem?_cons_succ] at c0 c1 c2 c3
  have HB : Hid (∀ o, Below w.heap.size w (w.alloc o)) := fun o => (Below.refl _ _).alloc (Nat.le_refl _) _
  unfold Px.val
  clear b b1
  go_enter Tryd.func42, Tryd.ntmps42
  go_wp2
  refine bodyPost_ret (v := .agg #[.int .u8 (q.r.toNat : Int), .int .u8 (q.g.toNat : Int), .int .u8 (q.b.toNat : Int), .int .u8 (q.a.toNat : Int)]) ?_ rfl ⟨rfl, ?_⟩
  · rw [results_cellP (p := 5) (ty := 23) (by kernel_rfl)]
    go_simp
  · exact unhide HB _
set_option maxHeartbeats 1000000 in
theorem fillC (k : Nat) (X Y RW RH : Int) (x y : Nat) (w : World) (hX : Nr X) (hY : Nr Y) (hW : 0 ≤ RW ∧ RW ≤ 10000) (hH : 0 ≤ RH ∧ RH ≤ 10000) (b : w.heap[k]? = some (.cells #[.int .i64 X, .int .i64 Y, .int .i64 RW, .int .i64 RH] 43)) :
    Calls Tryd.prog 49 #[.int .i64 (x : Int), .int .i64 (y : Int), .pointer (some ⟨k, 0, none⟩)] w fun e w' => e = .returned (.bool (decide (X ≤ (x : Int) ∧ (x : Int) < X + RW ∧ Y ≤ (y : Int) ∧ (y : Int) < Y + RH))) ∧ Below w.heap.size w w' := by
  have HC := hide (covers_any X Y RW RH x y w hX hY hW hH)
  generalize decide (X ≤ (x : Int) ∧ (x : Int) < X + RW ∧ Y ≤ (y : Int) ∧ (y : Int) < Y + RH) = r at *
  have c0 : w.cell? ⟨k, 0, none⟩ = some (.int .i64 X) := blk_cell b 0
  have c1 : w.cell? ⟨k, 1, none⟩ = some (.int .i64 Y) := blk_cell b 1
  have c2 : w.cell? ⟨k, 2, none⟩ = some (.int .i64 RW) := blk_cell b 2
  have c3 : w.cell? ⟨k, 3, none⟩ = some (.int .i64 RH) := blk_cell b 3
  clear b hX hY hW hH
  go_enter Tryd.func49, Tryd.ntmps49
  go_wp2_with fail
  refine (unhide HC).mono ?_
  rintro e w1 ⟨rfl, hb⟩
  go_wp2
  go_ret
  exact ⟨rfl, hb⟩

set_option maxHeartbeats 4000000 in
set_option maxRecDepth 100000 in
theorem crop_ok (W H : Nat) (a : Option Addr) (n c : Nat) (X Y RW RH : Nat) (p : Nat → Px)  (w : World) (hW0 : 1 ≤ W) (hW : W ≤ 256) (hH0 : 1 ≤ H) (hH : H ≤ 256) (hn : n = W * H) (hP : IsPx w a n p) (hX : X < W) (hY : Y < H) (hRW : 1 ≤ RW) (hRH : 1 ≤ RH) (hXW : X + RW ≤ W) (hYH : Y + RH ≤ H) :
    Calls Tryd.prog 21 #[.agg #[.int .i64 (W : Int), .int .i64 (H : Int), .slice a n c], .agg #[.int .i64 (X : Int), .int .i64 (Y : Int), .int .i64 (RW : Int), .int .i64 (RH : Int)]] w fun e w' => ∃ a2 c2, e = .returned (.tuple #[.agg #[.int .i64 (RW : Int), .int .i64 (RH : Int), .slice a2 (RW * RH) c2], .nilIface]) ∧ IsPx w' a2 (RW * RH) (grid RW fun x y => p ((Y + y) * W + (X + x))) ∧ Below w.heap.size w w' := by
  have HA := hide (al3 w (.cells #[.int .i64 (W : Int), .int .i64 (H : Int), .slice a n c] 26) (.cells #[.int .i64 (X : Int), .int .i64 (Y : Int), .int .i64 (RW : Int), .int .i64 (RH : Int)] 43) (.cells #[.int .i64 0, .int .i64 0, .slice none 0 0] 26))
  have HR := hide (fun w => isRight_any W H a n c w)
  rw [decide_eq_true (rightN hW0 hW hH0 hH hn)] at HR
  have HS := hide (fun w => isWithin_any X Y RW RH W H a n c w hW hH)
  rw [decide_eq_true (by omega)] at HS
  have HM : Hid (∀ wr, wr.heap[w.heap.size]? = some (.cells #[.int .i64 (W : Int), .int .i64 (H : Int), .slice a n c] 26) → wr.heap[w.heap.size + 1]? = some (.cells #[.int .i64 (X : Int), .int .i64 (Y : Int), .int .i64 (RW : Int), .int .i64 (RH : Int)] 43) → wr.heap[w.heap.size + 2]? = some (.cells #[.int .i64 0, .int .i64 0, .slice none 0 0] 26) → Below w.heap.size w wr → w.heap.size + 3 ≤ wr.heap.size → Calls Tryd.prog 41 #[.int .i64 (RW : Int), .int .i64 (RH : Int), .func (.func 52) #[] #[.pointer (some ⟨w.heap.size, 0, none⟩), .pointer (some ⟨w.heap.size + 1, 0, none⟩)]] wr fun e w' => ∃ a2 c2, e = .returned (.agg #[.int .i64 (RW : Int), .int .i64 (RH : Int), .slice a2 (RW * RH) c2]) ∧ IsPxN wr.heap.size w' a2 (RW * RH) (grid RW fun x y => p ((Y + y) * W + (X + x))) ∧ Below wr.heap.size wr w') := fun wr k0 k1 k2 hb hsz => by
    refine made_any RW RH 52 _ _ wr (by omega) (by omega) (by omega) (fun args w => by go_simp) (fun x y wq hx hy hq => ?_)
    have hP2 := hP.below (hb.trans (hq.mono hb.size))
    exact cropC W H _ _ a n c p X Y RW RH x y wq hP2 hW hH hn (by omega) (by omega) (blk_below k0 hq (by omega)) (blk_below k1 hq (by omega))
  have hmf : ∀ (fn : Fn) (first cap : Array Value) (w : World), (Instr.makeFunc fn first cap).run Tryd.prog w = .ok (.func fn first cap) w := fun _ _ _ _ => rfl
  obtain ⟨B, hB⟩ : ∃ B, B = w.heap.size := ⟨_, rfl⟩
  clear hP hn
  go_enter Tryd.func21, Tryd.ntmps21
  go_wp2_with fail
  refine (unhide HR _).mono ?_
  generalize (((w.alloc (.cells #[.int .i64 (W : Int), .int .i64 (H : Int), .slice a n c] 26)).alloc (.cells #[.int .i64 (X : Int), .int .i64 (Y : Int), .int .i64 (RW : Int), .int .i64 (RH : Int)] 43)).alloc (.cells #[.int .i64 0, .int .i64 0, .slice none 0 0] 26)) = w1 at *
  rw [← hB] at HA HM ⊢
  obtain ⟨hs1, k0, k1, k2, hb1⟩ := unhide HA
  have HBE := hide hB
  clear HA hB
  have hs : B + 3 ≤ w1.heap.size := by omega
  have HB := hide hb1
  clear hs1 hb1
  rintro e w2 ⟨rfl, hbN⟩
  have hsz := hbN.size
  have k0 := blk_below k0 hbN (by omega)
  have k1 := blk_below k1 hbN (by omega)
  have k2 := blk_below k2 hbN (by omega)
  have HB := hide ((unhide HB).trans (hbN.mono (by omega)))
  have hs : B + 3 ≤ w2.heap.size := by omega
  clear hbN hsz
  have c00 : w2.cell? ⟨B, 0, none⟩ = some (.int .i64 (W : Int)) := blk_cell k0 0
  have c01 : w2.cell? ⟨B, 1, none⟩ = some (.int .i64 (H : Int)) := blk_cell k0 1
  have c02 : w2.cell? ⟨B, 2, none⟩ = some (.slice a n c) := blk_cell k0 2
  have c10 : w2.cell? ⟨B + 1, 0, none⟩ = some (.int .i64 (X : Int)) := blk_cell k1 0
  have c11 : w2.cell? ⟨B + 1, 1, none⟩ = some (.int .i64 (Y : Int)) := blk_cell k1 1
  have c12 : w2.cell? ⟨B + 1, 2, none⟩ = some (.int .i64 (RW : Int)) := blk_cell k1 2
  have c13 : w2.cell? ⟨B + 1, 3, none⟩ = some (.int .i64 (RH : Int)) := blk_cell k1 3
  have c20 : w2.cell? ⟨B + 2, 0, none⟩ = some (.int .i64 0) := blk_cell k2 0
  have f0 := blk_frozen k2 0
  have c21 : w2.cell? ⟨B + 2, 1, none⟩ = some (.int .i64 0) := blk_cell k2 1
  have f1 := blk_frozen k2 1
  have c22 : w2.cell? ⟨B + 2, 2, none⟩ = some (.slice none 0 0) := blk_cell k2 2
  have f2 := blk_frozen k2 2
  go_wp2_with fail
  refine (unhide HS _).mono ?_
  clear c00 c01 c02 c10 c11 c12 c13 c20 c21 c22 f0 f1 f2
  rintro e w3 ⟨rfl, hbN⟩
  have hsz := hbN.size
  have k0 := blk_below k0 hbN (by omega)
  have k1 := blk_below k1 hbN (by omega)
  have k2 := blk_below k2 hbN (by omega)
  have HB := hide ((unhide HB).trans (hbN.mono (by omega)))
  have hs : B + 3 ≤ w3.heap.size := by omega
  clear hbN hsz
  have c00 : w3.cell? ⟨B, 0, none⟩ = some (.int .i64 (W : Int)) := blk_cell k0 0
  have c01 : w3.cell? ⟨B, 1, none⟩ = some (.int .i64 (H : Int)) := blk_cell k0 1
  have c02 : w3.cell? ⟨B, 2, none⟩ = some (.slice a n c) := blk_cell k0 2
  have c10 : w3.cell? ⟨B + 1, 0, none⟩ = some (.int .i64 (X : Int)) := blk_cell k1 0
  have c11 : w3.cell? ⟨B + 1, 1, none⟩ = some (.int .i64 (Y : Int)) := blk_cell k1 1
  have c12 : w3.cell? ⟨B + 1, 2, none⟩ = some (.int .i64 (RW : Int)) := blk_cell k1 2
  have c13 : w3.cell? ⟨B + 1, 3, none⟩ = some (.int .i64 (RH : Int)) := blk_cell k1 3
  have c20 : w3.cell? ⟨B + 2, 0, none⟩ = some (.int .i64 0) := blk_cell k2 0
  have f0 := blk_frozen k2 0
  have c21 : w3.cell? ⟨B + 2, 1, none⟩ = some (.int .i64 0) := blk_cell k2 1
  have f1 := blk_frozen k2 1
  have c22 : w3.cell? ⟨B + 2, 2, none⟩ = some (.slice none 0 0) := blk_cell k2 2
  have f2 := blk_frozen k2 2
  have hlr : B + 2 < w3.heap.size := by omega
  go_wp2_with fail
  refine (unhide HM _ k0 k1 k2 (unhide HB) hs).mono ?_
  rintro e wk ⟨a2, c2, rfl, hpx, hbN⟩
  clear c00 c01 c02 c10 c11 c12 c13 c20 c21 c22 f0 f1 f2
  have hsz := hbN.size
  have kr := blk_below k2 hbN (by omega)
  have HBK := hide ((unhide HB).trans (hbN.mono (by omega)))
  have r0 := blk_frozen kr 0
  have s0 : wk.cell? ⟨B + 2, 0, none⟩ = some (.int .i64 0) := blk_cell kr 0
  have r1 := blk_frozen kr 1
  have s1 : wk.cell? ⟨B + 2, 1, none⟩ = some (.int .i64 0) := blk_cell kr 1
  have r2 := blk_frozen kr 2
  have s2 : wk.cell? ⟨B + 2, 2, none⟩ = some (.slice none 0 0) := blk_cell kr 2
  have hlk : B + 2 < wk.heap.size := by omega
  have HPX := hide (fun u1 u2 u3 : Value => (((hpx.far (j := 0) (show B + 2 < w3.heap.size by omega) u1).far (j := 1) (show B + 2 < w3.heap.size by omega) u2).far (j := 2) (show B + 2 < w3.heap.size by omega) u3).is)
  clear hpx hbN hsz kr HM k0 k1 k2
  go_wp2
  refine bodyPost_ret (v := .tuple #[.agg #[.int .i64 (RW : Int), .int .i64 (RH : Int), .slice a2 (RW * RH) c2], .nilIface]) ?_ rfl ⟨a2, c2, rfl, unhide HPX _ _ _, ?_⟩
  · rw [results_ct (p := 4) (ty := 26) (u := 5) (by kernel_rfl)]
    go_simp
  · rw [← unhide HBE]
    exact ((((unhide HBK).setCell (p := ⟨B + 2, 0, none⟩) (by show B ≤ B + 2; omega) _).setCell (p := ⟨B + 2, 1, none⟩) (by show B ≤ B + 2; omega) _).setCell (p := ⟨B + 2, 2, none⟩) (by show B ≤ B + 2; omega) _)

set_option maxHeartbeats 4000000 in
set_option maxRecDepth 100000 in
theorem flip_true (W H : Nat) (a : Option Addr) (n c : Nat)  (p : Nat → Px)  (w : World) (hW0 : 1 ≤ W) (hW : W ≤ 256) (hH0 : 1 ≤ H) (hH : H ≤ 256) (hn : n = W * H) (hP : IsPx w a n p)  :
    Calls Tryd.prog 29 #[.agg #[.int .i64 (W : Int), .int .i64 (H : Int), .slice a n c], .bool true] w fun e w' => ∃ a2 c2, e = .returned (.tuple #[.agg #[.int .i64 (W : Int), .int .i64 (H : Int), .slice a2 (W * H) c2], .nilIface]) ∧ IsPx w' a2 (W * H) (grid W fun x y => p ((H - 1 - y) * W + x)) ∧ Below w.heap.size w w' := by
  have HA := hide (al3 w (.cells #[.int .i64 (W : Int), .int .i64 (H : Int), .slice a n c] 26) (.cells #[.bool true] 4) (.cells #[.int .i64 0, .int .i64 0, .slice none 0 0] 26))
  have HR := hide (fun w => isRight_any W H a n c w)
  rw [decide_eq_true (rightN hW0 hW hH0 hH hn)] at HR
  have HM : Hid (∀ wr, wr.heap[w.heap.size]? = some (.cells #[.int .i64 (W : Int), .int .i64 (H : Int), .slice a n c] 26) → wr.heap[w.heap.size + 1]? = some (.cells #[.bool true] 4) → wr.heap[w.heap.size + 2]? = some (.cells #[.int .i64 0, .int .i64 0, .slice none 0 0] 26) → Below w.heap.size w wr → w.heap.size + 3 ≤ wr.heap.size → Calls Tryd.prog 41 #[.int .i64 (W : Int), .int .i64 (H : Int), .func (.func 57) #[] #[.pointer (some ⟨w.heap.size + 1, 0, none⟩), .pointer (some ⟨w.heap.size, 0, none⟩)]] wr fun e w' => ∃ a2 c2, e = .returned (.agg #[.int .i64 (W : Int), .int .i64 (H : Int), .slice a2 (W * H) c2]) ∧ IsPxN wr.heap.size w' a2 (W * H) (grid W fun x y => p ((H - 1 - y) * W + x)) ∧ Below wr.heap.size wr w') := fun wr k0 k1 k2 hb hsz => by
    refine made_any W H 57 _ _ wr hW0 hW hH (fun args w => by go_simp) (fun x y wq hx hy hq => ?_)
    have hP2 := hP.below (hb.trans (hq.mono hb.size))
    exact flipC_down W H _ _ a n c p x y wq hP2 hW hH hn hx hy (blk_below k1 hq (by omega)) (blk_below k0 hq (by omega))
  have hmf : ∀ (fn : Fn) (first cap : Array Value) (w : World), (Instr.makeFunc fn first cap).run Tryd.prog w = .ok (.func fn first cap) w := fun _ _ _ _ => rfl
  obtain ⟨B, hB⟩ : ∃ B, B = w.heap.size := ⟨_, rfl⟩
  clear hP hn
  go_enter Tryd.func29, Tryd.ntmps29
  go_wp2_with fail
  refine (unhide HR _).mono ?_
  generalize (((w.alloc (.cells #[.int .i64 (W : Int), .int .i64 (H : Int), .slice a n c] 26)).alloc (.cells #[.bool true] 4)).alloc (.cells #[.int .i64 0, .int .i64 0, .slice none 0 0] 26)) = w1 at *
  rw [← hB] at HA HM ⊢
  obtain ⟨hs1, k0, k1, k2, hb1⟩ := unhide HA
  have HBE := hide hB
  clear HA hB
  have hs : B + 3 ≤ w1.heap.size := by omega
  have HB := hide hb1
  clear hs1 hb1
  rintro e w2 ⟨rfl, hbN⟩
  have hsz := hbN.size
  have k0 := blk_below k0 hbN (by omega)
  have k1 := blk_below k1 hbN (by omega)
  have k2 := blk_below k2 hbN (by omega)
  have HB := hide ((unhide HB).trans (hbN.mono (by omega)))
  have hs : B + 3 ≤ w2.heap.size := by omega
  clear hbN hsz
  have c00 : w2.cell? ⟨B, 0, none⟩ = some (.int .i64 (W : Int)) := blk_cell k0 0
  have c01 : w2.cell? ⟨B, 1, none⟩ = some (.int .i64 (H : Int)) := blk_cell k0 1
  have c02 : w2.cell? ⟨B, 2, none⟩ = some (.slice a n c) := blk_cell k0 2
  have c10 : w2.cell? ⟨B + 1, 0, none⟩ = some (.bool true) := blk_cell k1 0
  have c20 : w2.cell? ⟨B + 2, 0, none⟩ = some (.int .i64 0) := blk_cell k2 0
  have f0 := blk_frozen k2 0
  have c21 : w2.cell? ⟨B + 2, 1, none⟩ = some (.int .i64 0) := blk_cell k2 1
  have f1 := blk_frozen k2 1
  have c22 : w2.cell? ⟨B + 2, 2, none⟩ = some (.slice none 0 0) := blk_cell k2 2
  have f2 := blk_frozen k2 2
  have hlr : B + 2 < w2.heap.size := by omega
  go_wp2_with fail
  refine (unhide HM _ k0 k1 k2 (unhide HB) hs).mono ?_
  rintro e wk ⟨a2, c2, rfl, hpx, hbN⟩
  clear c00 c01 c02 c10 c20 c21 c22 f0 f1 f2
  have hsz := hbN.size
  have kr := blk_below k2 hbN (by omega)
  have HBK := hide ((unhide HB).trans (hbN.mono (by omega)))
  have r0 := blk_frozen kr 0
  have s0 : wk.cell? ⟨B + 2, 0, none⟩ = some (.int .i64 0) := blk_cell kr 0
  have r1 := blk_frozen kr 1
  have s1 : wk.cell? ⟨B + 2, 1, none⟩ = some (.int .i64 0) := blk_cell kr 1
  have r2 := blk_frozen kr 2
  have s2 : wk.cell? ⟨B + 2, 2, none⟩ = some (.slice none 0 0) := blk_cell kr 2
  have hlk : B + 2 < wk.heap.size := by omega
  have HPX := hide (fun u1 u2 u3 : Value => (((hpx.far (j := 0) (show B + 2 < w2.heap.size by omega) u1).far (j := 1) (show B + 2 < w2.heap.size by omega) u2).far (j := 2) (show B + 2 < w2.heap.size by omega) u3).is)
  clear hpx hbN hsz kr HM k0 k1 k2
  go_wp2
  refine bodyPost_ret (v := .tuple #[.agg #[.int .i64 (W : Int), .int .i64 (H : Int), .slice a2 (W * H) c2], .nilIface]) ?_ rfl ⟨a2, c2, rfl, unhide HPX _ _ _, ?_⟩
  · rw [results_ct (p := 4) (ty := 26) (u := 5) (by kernel_rfl)]
    go_simp
  · rw [← unhide HBE]
    exact ((((unhide HBK).setCell (p := ⟨B + 2, 0, none⟩) (by show B ≤ B + 2; omega) _).setCell (p := ⟨B + 2, 1, none⟩) (by show B ≤ B + 2; omega) _).setCell (p := ⟨B + 2, 2, none⟩) (by show B ≤ B + 2; omega) _)

set_option maxHeartbeats 4000000 in
set_option maxRecDepth 100000 in
theorem flip_false (W H : Nat) (a : Option Addr) (n c : Nat)  (p : Nat → Px)  (w : World) (hW0 : 1 ≤ W) (hW : W ≤ 256) (hH0 : 1 ≤ H) (hH : H ≤ 256) (hn : n = W * H) (hP : IsPx w a n p)  :
    Calls Tryd.prog 29 #[.agg #[.int .i64 (W : Int), .int .i64 (H : Int), .slice a n c], .bool false] w fun e w' => ∃ a2 c2, e = .returned (.tuple #[.agg #[.int .i64 (W : Int), .int .i64 (H : Int), .slice a2 (W * H) c2], .nilIface]) ∧ IsPx w' a2 (W * H) (grid W fun x y => p (y * W + (W - 1 - x))) ∧ Below w.heap.size w w' := by
  have HA := hide (al3 w (.cells #[.int .i64 (W : Int), .int .i64 (H : Int), .slice a n c] 26) (.cells #[.bool false] 4) (.cells #[.int .i64 0, .int .i64 0, .slice none 0 0] 26))
  have HR := hide (fun w => isRight_any W H a n c w)
  rw [decide_eq_true (rightN hW0 hW hH0 hH hn)] at HR
  have HM : Hid (∀ wr, wr.heap[w.heap.size]? = some (.cells #[.int .i64 (W : Int), .int .i64 (H : Int), .slice a n c] 26) → wr.heap[w.heap.size + 1]? = some (.cells #[.bool false] 4) → wr.heap[w.heap.size + 2]? = some (.cells #[.int .i64 0, .int .i64 0, .slice none 0 0] 26) → Below w.heap.size w wr → w.heap.size + 3 ≤ wr.heap.size → Calls Tryd.prog 41 #[.int .i64 (W : Int), .int .i64 (H : Int), .func (.func 57) #[] #[.pointer (some ⟨w.heap.size + 1, 0, none⟩), .pointer (some ⟨w.heap.size, 0, none⟩)]] wr fun e w' => ∃ a2 c2, e = .returned (.agg #[.int .i64 (W : Int), .int .i64 (H : Int), .slice a2 (W * H) c2]) ∧ IsPxN wr.heap.size w' a2 (W * H) (grid W fun x y => p (y * W + (W - 1 - x))) ∧ Below wr.heap.size wr w') := fun wr k0 k1 k2 hb hsz => by
    refine made_any W H 57 _ _ wr hW0 hW hH (fun args w => by go_simp) (fun x y wq hx hy hq => ?_)
    have hP2 := hP.below (hb.trans (hq.mono hb.size))
    exact flipC_left W H _ _ a n c p x y wq hP2 hW hH hn hx hy (blk_below k1 hq (by omega)) (blk_below k0 hq (by omega))
  have hmf : ∀ (fn : Fn) (first cap : Array Value) (w : World), (Instr.makeFunc fn first cap).run Tryd.prog w = .ok (.func fn first cap) w := fun _ _ _ _ => rfl
  obtain ⟨B, hB⟩ : ∃ B, B = w.heap.size := ⟨_, rfl⟩
  clear hP hn
  go_enter Tryd.func29, Tryd.ntmps29
  go_wp2_with fail
  refine (unhide HR _).mono ?_
  generalize (((w.alloc (.cells #[.int .i64 (W : Int), .int .i64 (H : Int), .slice a n c] 26)).alloc (.cells #[.bool false] 4)).alloc (.cells #[.int .i64 0, .int .i64 0, .slice none 0 0] 26)) = w1 at *
  rw [← hB] at HA HM ⊢
  obtain ⟨hs1, k0, k1, k2, hb1⟩ := unhide HA
  have HBE := hide hB
  clear HA hB
  have hs : B + 3 ≤ w1.heap.size := by omega
  have HB := hide hb1
  clear hs1 hb1
  rintro e w2 ⟨rfl, hbN⟩
  have hsz := hbN.size
  have k0 := blk_below k0 hbN (by omega)
  have k1 := blk_below k1 hbN (by omega)
  have k2 := blk_below k2 hbN (by omega)
  have HB := hide ((unhide HB).trans (hbN.mono (by omega)))
  have hs : B + 3 ≤ w2.heap.size := by omega
  clear hbN hsz
  have c00 : w2.cell? ⟨B, 0, none⟩ = some (.int .i64 (W : Int)) := blk_cell k0 0
  have c01 : w2.cell? ⟨B, 1, none⟩ = some (.int .i64 (H : Int)) := blk_cell k0 1
  have c02 : w2.cell? ⟨B, 2, none⟩ = some (.slice a n c) := blk_cell k0 2
  have c10 : w2.cell? ⟨B + 1, 0, none⟩ = some (.bool false) := blk_cell k1 0
  have c20 : w2.cell? ⟨B + 2, 0, none⟩ = some (.int .i64 0) := blk_cell k2 0
  have f0 := blk_frozen k2 0
  have c21 : w2.cell? ⟨B + 2, 1, none⟩ = some (.int .i64 0) := blk_cell k2 1
  have f1 := blk_frozen k2 1
  have c22 : w2.cell? ⟨B + 2, 2, none⟩ = some (.slice none 0 0) := blk_cell k2 2
  have f2 := blk_frozen k2 2
  have hlr : B + 2 < w2.heap.size := by omega
  go_wp2_with fail
  refine (unhide HM _ k0 k1 k2 (unhide HB) hs).mono ?_
  rintro e wk ⟨a2, c2, rfl, hpx, hbN⟩
  clear c00 c01 c02 c10 c20 c21 c22 f0 f1 f2
  have hsz := hbN.size
  have kr := blk_below k2 hbN (by omega)
  have HBK := hide ((unhide HB).trans (hbN.mono (by omega)))
  have r0 := blk_frozen kr 0
  have s0 : wk.cell? ⟨B + 2, 0, none⟩ = some (.int .i64 0) := blk_cell kr 0
  have r1 := blk_frozen kr 1
  have s1 : wk.cell? ⟨B + 2, 1, none⟩ = some (.int .i64 0) := blk_cell kr 1
  have r2 := blk_frozen kr 2
  have s2 : wk.cell? ⟨B + 2, 2, none⟩ = some (.slice none 0 0) := blk_cell kr 2
  have hlk : B + 2 < wk.heap.size := by omega
  have HPX := hide (fun u1 u2 u3 : Value => (((hpx.far (j := 0) (show B + 2 < w2.heap.size by omega) u1).far (j := 1) (show B + 2 < w2.heap.size by omega) u2).far (j := 2) (show B + 2 < w2.heap.size by omega) u3).is)
  clear hpx hbN hsz kr HM k0 k1 k2
  go_wp2
  refine bodyPost_ret (v := .tuple #[.agg #[.int .i64 (W : Int), .int .i64 (H : Int), .slice a2 (W * H) c2], .nilIface]) ?_ rfl ⟨a2, c2, rfl, unhide HPX _ _ _, ?_⟩
  · rw [results_ct (p := 4) (ty := 26) (u := 5) (by kernel_rfl)]
    go_simp
  · rw [← unhide HBE]
    exact ((((unhide HBK).setCell (p := ⟨B + 2, 0, none⟩) (by show B ≤ B + 2; omega) _).setCell (p := ⟨B + 2, 1, none⟩) (by show B ≤ B + 2; omega) _).setCell (p := ⟨B + 2, 2, none⟩) (by show B ≤ B + 2; omega) _)

set_option maxHeartbeats 4000000 in
set_option maxRecDepth 100000 in
theorem turn_1 (W H : Nat) (a : Option Addr) (n c : Nat) (z : Int) (p : Nat → Px)  (w : World) (hW0 : 1 ≤ W) (hW : W ≤ 256) (hH0 : 1 ≤ H) (hH : H ≤ 256) (hn : n = W * H) (hP : IsPx w a n p) (tq : Int) (hz : bits .and .i64 z 3 = tq) (d1 : (tq == 1) = true) :
    Calls Tryd.prog 30 #[.agg #[.int .i64 (W : Int), .int .i64 (H : Int), .slice a n c], .int .i64 z] w fun e w' => ∃ a2 c2, e = .returned (.tuple #[.agg #[.int .i64 (H : Int), .int .i64 (W : Int), .slice a2 (H * W) c2], .nilIface]) ∧ IsPx w' a2 (H * W) (grid H fun x y => p ((H - 1 - x) * W + y)) ∧ Below w.heap.size w w' := by
  have HA := hide (al2 w (.cells #[.int .i64 (W : Int), .int .i64 (H : Int), .slice a n c] 26) (.cells #[.int .i64 0, .int .i64 0, .slice none 0 0] 26))
  have HR := hide (fun w => isRight_any W H a n c w)
  rw [decide_eq_true (rightN hW0 hW hH0 hH hn)] at HR
  have HM : Hid (∀ wr, wr.heap[w.heap.size]? = some (.cells #[.int .i64 (W : Int), .int .i64 (H : Int), .slice a n c] 26) → wr.heap[w.heap.size + 1]? = some (.cells #[.int .i64 0, .int .i64 0, .slice none 0 0] 26) → Below w.heap.size w wr → w.heap.size + 2 ≤ wr.heap.size → Calls Tryd.prog 41 #[.int .i64 (H : Int), .int .i64 (W : Int), .func (.func 58) #[] #[.pointer (some ⟨w.heap.size, 0, none⟩)]] wr fun e w' => ∃ a2 c2, e = .returned (.agg #[.int .i64 (H : Int), .int .i64 (W : Int), .slice a2 (H * W) c2]) ∧ IsPxN wr.heap.size w' a2 (H * W) (grid H fun x y => p ((H - 1 - x) * W + y)) ∧ Below wr.heap.size wr w') := fun wr k0 k1 hb hsz => by
    refine made_any H W 58 _ _ wr hH0 hH hW (fun args w => by go_simp) (fun x y wq hx hy hq => ?_)
    have hP2 := hP.below (hb.trans (hq.mono hb.size))
    exact turnC1 W H _ a n c p x y wq hP2 hW hH hn hx hy (blk_below k0 hq (by omega))
  have hmf : ∀ (fn : Fn) (first cap : Array Value) (w : World), (Instr.makeFunc fn first cap).run Tryd.prog w = .ok (.func fn first cap) w := fun _ _ _ _ => rfl
  obtain ⟨B, hB⟩ : ∃ B, B = w.heap.size := ⟨_, rfl⟩
  clear hP hn
  go_enter Tryd.func30, Tryd.ntmps30
  go_wp2_with fail
  refine (unhide HR _).mono ?_
  generalize ((w.alloc (.cells #[.int .i64 (W : Int), .int .i64 (H : Int), .slice a n c] 26)).alloc (.cells #[.int .i64 0, .int .i64 0, .slice none 0 0] 26)) = w1 at *
  rw [← hB] at HA HM ⊢
  obtain ⟨hs1, k0, k1, hb1⟩ := unhide HA
  have HBE := hide hB
  clear HA hB
  have hs : B + 2 ≤ w1.heap.size := by omega
  have HB := hide hb1
  clear hs1 hb1
  rintro e w2 ⟨rfl, hbN⟩
  have hsz := hbN.size
  have k0 := blk_below k0 hbN (by omega)
  have k1 := blk_below k1 hbN (by omega)
  have HB := hide ((unhide HB).trans (hbN.mono (by omega)))
  have hs : B + 2 ≤ w2.heap.size := by omega
  clear hbN hsz
  have c00 : w2.cell? ⟨B, 0, none⟩ = some (.int .i64 (W : Int)) := blk_cell k0 0
  have c01 : w2.cell? ⟨B, 1, none⟩ = some (.int .i64 (H : Int)) := blk_cell k0 1
  have c02 : w2.cell? ⟨B, 2, none⟩ = some (.slice a n c) := blk_cell k0 2
  have c10 : w2.cell? ⟨B + 1, 0, none⟩ = some (.int .i64 0) := blk_cell k1 0
  have f0 := blk_frozen k1 0
  have c11 : w2.cell? ⟨B + 1, 1, none⟩ = some (.int .i64 0) := blk_cell k1 1
  have f1 := blk_frozen k1 1
  have c12 : w2.cell? ⟨B + 1, 2, none⟩ = some (.slice none 0 0) := blk_cell k1 2
  have f2 := blk_frozen k1 2
  have hlr : B + 1 < w2.heap.size := by omega
  go_wp2_with fail
  refine (unhide HM _ k0 k1 (unhide HB) hs).mono ?_
  rintro e wk ⟨a2, c2, rfl, hpx, hbN⟩
  clear c00 c01 c02 c10 c11 c12 f0 f1 f2
  have hsz := hbN.size
  have kr := blk_below k1 hbN (by omega)
  have HBK := hide ((unhide HB).trans (hbN.mono (by omega)))
  have r0 := blk_frozen kr 0
  have s0 : wk.cell? ⟨B + 1, 0, none⟩ = some (.int .i64 0) := blk_cell kr 0
  have r1 := blk_frozen kr 1
  have s1 : wk.cell? ⟨B + 1, 1, none⟩ = some (.int .i64 0) := blk_cell kr 1
  have r2 := blk_frozen kr 2
  have s2 : wk.cell? ⟨B + 1, 2, none⟩ = some (.slice none 0 0) := blk_cell kr 2
  have hlk : B + 1 < wk.heap.size := by omega
  have HPX := hide (fun u1 u2 u3 : Value => (((hpx.far (j := 0) (show B + 1 < w2.heap.size by omega) u1).far (j := 1) (show B + 1 < w2.heap.size by omega) u2).far (j := 2) (show B + 1 < w2.heap.size by omega) u3).is)
  clear hpx hbN hsz kr HM k0 k1
  go_wp2
  refine bodyPost_ret (v := .tuple #[.agg #[.int .i64 (H : Int), .int .i64 (W : Int), .slice a2 (H * W) c2], .nilIface]) ?_ rfl ⟨a2, c2, rfl, unhide HPX _ _ _, ?_⟩
  · rw [results_ct (p := 4) (ty := 26) (u := 5) (by kernel_rfl)]
    go_simp
  · rw [← unhide HBE]
    exact ((((unhide HBK).setCell (p := ⟨B + 1, 0, none⟩) (by show B ≤ B + 1; omega) _).setCell (p := ⟨B + 1, 1, none⟩) (by show B ≤ B + 1; omega) _).setCell (p := ⟨B + 1, 2, none⟩) (by show B ≤ B + 1; omega) _)

set_option maxHeartbeats 4000000 in
set_option maxRecDepth 100000 in
theorem turn_2 (W H : Nat) (a : Option Addr) (n c : Nat) (z : Int) (p : Nat → Px)  (w : World) (hW0 : 1 ≤ W) (hW : W ≤ 256) (hH0 : 1 ≤ H) (hH : H ≤ 256) (hn : n = W * H) (hP : IsPx w a n p) (tq : Int) (hz : bits .and .i64 z 3 = tq) (d1 : (tq == 1) = false) (d2 : (tq == 2) = true) :
    Calls Tryd.prog 30 #[.agg #[.int .i64 (W : Int), .int .i64 (H : Int), .slice a n c], .int .i64 z] w fun e w' => ∃ a2 c2, e = .returned (.tuple #[.agg #[.int .i64 (W : Int), .int .i64 (H : Int), .slice a2 (W * H) c2], .nilIface]) ∧ IsPx w' a2 (W * H) (grid W fun x y => p ((H - 1 - y) * W + (W - 1 - x))) ∧ Below w.heap.size w w' := by
  have HA := hide (al2 w (.cells #[.int .i64 (W : Int), .int .i64 (H : Int), .slice a n c] 26) (.cells #[.int .i64 0, .int .i64 0, .slice none 0 0] 26))
  have HR := hide (fun w => isRight_any W H a n c w)
  rw [decide_eq_true (rightN hW0 hW hH0 hH hn)] at HR
  have HM : Hid (∀ wr, wr.heap[w.heap.size]? = some (.cells #[.int .i64 (W : Int), .int .i64 (H : Int), .slice a n c] 26) → wr.heap[w.heap.size + 1]? = some (.cells #[.int .i64 0, .int .i64 0, .slice none 0 0] 26) → Below w.heap.size w wr → w.heap.size + 2 ≤ wr.heap.size → Calls Tryd.prog 41 #[.int .i64 (W : Int), .int .i64 (H : Int), .func (.func 59) #[] #[.pointer (some ⟨w.heap.size, 0, none⟩)]] wr fun e w' => ∃ a2 c2, e = .returned (.agg #[.int .i64 (W : Int), .int .i64 (H : Int), .slice a2 (W * H) c2]) ∧ IsPxN wr.heap.size w' a2 (W * H) (grid W fun x y => p ((H - 1 - y) * W + (W - 1 - x))) ∧ Below wr.heap.size wr w') := fun wr k0 k1 hb hsz => by
    refine made_any W H 59 _ _ wr hW0 hW hH (fun args w => by go_simp) (fun x y wq hx hy hq => ?_)
    have hP2 := hP.below (hb.trans (hq.mono hb.size))
    exact turnC2 W H _ a n c p x y wq hP2 hW hH hn hx hy (blk_below k0 hq (by omega))
  have hmf : ∀ (fn : Fn) (first cap : Array Value) (w : World), (Instr.makeFunc fn first cap).run Tryd.prog w = .ok (.func fn first cap) w := fun _ _ _ _ => rfl
  obtain ⟨B, hB⟩ : ∃ B, B = w.heap.size := ⟨_, rfl⟩
  clear hP hn
  go_enter Tryd.func30, Tryd.ntmps30
  go_wp2_with fail
  refine (unhide HR _).mono ?_
  generalize ((w.alloc (.cells #[.int .i64 (W : Int), .int .i64 (H : Int), .slice a n c] 26)).alloc (.cells #[.int .i64 0, .int .i64 0, .slice none 0 0] 26)) = w1 at *
  rw [← hB] at HA HM ⊢
  obtain ⟨hs1, k0, k1, hb1⟩ := unhide HA
  have HBE := hide hB
  clear HA hB
  have hs : B + 2 ≤ w1.heap.size := by omega
  have HB := hide hb1
  clear hs1 hb1
  rintro e w2 ⟨rfl, hbN⟩
  have hsz := hbN.size
  have k0 := blk_below k0 hbN (by omega)
  have k1 := blk_below k1 hbN (by omega)
  have HB := hide ((unhide HB).trans (hbN.mono (by omega)))
  have hs : B + 2 ≤ w2.heap.size := by omega
  clear hbN hsz
  have c00 : w2.cell? ⟨B, 0, none⟩ = some (.int .i64 (W : Int)) := blk_cell k0 0
  have c01 : w2.cell? ⟨B, 1, none⟩ = some (.int .i64 (H : Int)) := blk_cell k0 1
  have c02 : w2.cell? ⟨B, 2, none⟩ = some (.slice a n c) := blk_cell k0 2
  have c10 : w2.cell? ⟨B + 1, 0, none⟩ = some (.int .i64 0) := blk_cell k1 0
  have f0 := blk_frozen k1 0
  have c11 : w2.cell? ⟨B + 1, 1, none⟩ = some (.int .i64 0) := blk_cell k1 1
  have f1 := blk_frozen k1 1
  have c12 : w2.cell? ⟨B + 1, 2, none⟩ = some (.slice none 0 0) := blk_cell k1 2
  have f2 := blk_frozen k1 2
  have hlr : B + 1 < w2.heap.size := by omega
  go_wp2_with fail
  refine (unhide HM _ k0 k1 (unhide HB) hs).mono ?_
  rintro e wk ⟨a2, c2, rfl, hpx, hbN⟩
  clear c00 c01 c02 c10 c11 c12 f0 f1 f2
  have hsz := hbN.size
  have kr := blk_below k1 hbN (by omega)
  have HBK := hide ((unhide HB).trans (hbN.mono (by omega)))
  have r0 := blk_frozen kr 0
  have s0 : wk.cell? ⟨B + 1, 0, none⟩ = some (.int .i64 0) := blk_cell kr 0
  have r1 := blk_frozen kr 1
  have s1 : wk.cell? ⟨B + 1, 1, none⟩ = some (.int .i64 0) := blk_cell kr 1
  have r2 := blk_frozen kr 2
  have s2 : wk.cell? ⟨B + 1, 2, none⟩ = some (.slice none 0 0) := blk_cell kr 2
  have hlk : B + 1 < wk.heap.size := by omega
  have HPX := hide (fun u1 u2 u3 : Value => (((hpx.far (j := 0) (show B + 1 < w2.heap.size by omega) u1).far (j := 1) (show B + 1 < w2.heap.size by omega) u2).far (j := 2) (show B + 1 < w2.heap.size by omega) u3).is)
  clear hpx hbN hsz kr HM k0 k1
  go_wp2
  refine bodyPost_ret (v := .tuple #[.agg #[.int .i64 (W : Int), .int .i64 (H : Int), .slice a2 (W * H) c2], .nilIface]) ?_ rfl ⟨a2, c2, rfl, unhide HPX _ _ _, ?_⟩
  · rw [results_ct (p := 4) (ty := 26) (u := 5) (by kernel_rfl)]
    go_simp
  · rw [← unhide HBE]
    exact ((((unhide HBK).setCell (p := ⟨B + 1, 0, none⟩) (by show B ≤ B + 1; omega) _).setCell (p := ⟨B + 1, 1, none⟩) (by show B ≤ B + 1; omega) _).setCell (p := ⟨B + 1, 2, none⟩) (by show B ≤ B + 1; omega) _)

set_option maxHeartbeats 4000000 in
set_option maxRecDepth 100000 in
theorem turn_3 (W H : Nat) (a : Option Addr) (n c : Nat) (z : Int) (p : Nat → Px)  (w : World) (hW0 : 1 ≤ W) (hW : W ≤ 256) (hH0 : 1 ≤ H) (hH : H ≤ 256) (hn : n = W * H) (hP : IsPx w a n p) (tq : Int) (hz : bits .and .i64 z 3 = tq) (d1 : (tq == 1) = false) (d2 : (tq == 2) = false) (d3 : (tq == 3) = true) :
    Calls Tryd.prog 30 #[.agg #[.int .i64 (W : Int), .int .i64 (H : Int), .slice a n c], .int .i64 z] w fun e w' => ∃ a2 c2, e = .returned (.tuple #[.agg #[.int .i64 (H : Int), .int .i64 (W : Int), .slice a2 (H * W) c2], .nilIface]) ∧ IsPx w' a2 (H * W) (grid H fun x y => p (x * W + (W - 1 - y))) ∧ Below w.heap.size w w' := by
  have HA := hide (al2 w (.cells #[.int .i64 (W : Int), .int .i64 (H : Int), .slice a n c] 26) (.cells #[.int .i64 0, .int .i64 0, .slice none 0 0] 26))
  have HR := hide (fun w => isRight_any W H a n c w)
  rw [decide_eq_true (rightN hW0 hW hH0 hH hn)] at HR
  have HM : Hid (∀ wr, wr.heap[w.heap.size]? = some (.cells #[.int .i64 (W : Int), .int .i64 (H : Int), .slice a n c] 26) → wr.heap[w.heap.size + 1]? = some (.cells #[.int .i64 0, .int .i64 0, .slice none 0 0] 26) → Below w.heap.size w wr → w.heap.size + 2 ≤ wr.heap.size → Calls Tryd.prog 41 #[.int .i64 (H : Int), .int .i64 (W : Int), .func (.func 60) #[] #[.pointer (some ⟨w.heap.size, 0, none⟩)]] wr fun e w' => ∃ a2 c2, e = .returned (.agg #[.int .i64 (H : Int), .int .i64 (W : Int), .slice a2 (H * W) c2]) ∧ IsPxN wr.heap.size w' a2 (H * W) (grid H fun x y => p (x * W + (W - 1 - y))) ∧ Below wr.heap.size wr w') := fun wr k0 k1 hb hsz => by
    refine made_any H W 60 _ _ wr hH0 hH hW (fun args w => by go_simp) (fun x y wq hx hy hq => ?_)
    have hP2 := hP.below (hb.trans (hq.mono hb.size))
    exact turnC3 W H _ a n c p x y wq hP2 hW hH hn hx hy (blk_below k0 hq (by omega))
  have hmf : ∀ (fn : Fn) (first cap : Array Value) (w : World), (Instr.makeFunc fn first cap).run Tryd.prog w = .ok (.func fn first cap) w := fun _ _ _ _ => rfl
  obtain ⟨B, hB⟩ : ∃ B, B = w.heap.size := ⟨_, rfl⟩
  clear hP hn
  go_enter Tryd.func30, Tryd.ntmps30
  go_wp2_with fail
  refine (unhide HR _).mono ?_
  generalize ((w.alloc (.cells #[.int .i64 (W : Int), .int .i64 (H : Int), .slice a n c] 26)).alloc (.cells #[.int .i64 0, .int .i64 0, .slice none 0 0] 26)) = w1 at *
  rw [← hB] at HA HM ⊢
  obtain ⟨hs1, k0, k1, hb1⟩ := unhide HA
  have HBE := hide hB
  clear HA hB
  have hs : B + 2 ≤ w1.heap.size := by omega
  have HB := hide hb1
  clear hs1 hb1
  rintro e w2 ⟨rfl, hbN⟩
  have hsz := hbN.size
  have k0 := blk_below k0 hbN (by omega)
  have k1 := blk_below k1 hbN (by omega)
  have HB := hide ((unhide HB).trans (hbN.mono (by omega)))
  have hs : B + 2 ≤ w2.heap.size := by omega
  clear hbN hsz
  have c00 : w2.cell? ⟨B, 0, none⟩ = some (.int .i64 (W : Int)) := blk_cell k0 0
  have c01 : w2.cell? ⟨B, 1, none⟩ = some (.int .i64 (H : Int)) := blk_cell k0 1
  have c02 : w2.cell? ⟨B, 2, none⟩ = some (.slice a n c) := blk_cell k0 2
  have c10 : w2.cell? ⟨B + 1, 0, none⟩ = some (.int .i64 0) := blk_cell k1 0
  have f0 := blk_frozen k1 0
  have c11 : w2.cell? ⟨B + 1, 1, none⟩ = some (.int .i64 0) := blk_cell k1 1
  have f1 := blk_frozen k1 1
  have c12 : w2.cell? ⟨B + 1, 2, none⟩ = some (.slice none 0 0) := blk_cell k1 2
  have f2 := blk_frozen k1 2
  have hlr : B + 1 < w2.heap.size := by omega
  go_wp2_with fail
  refine (unhide HM _ k0 k1 (unhide HB) hs).mono ?_
  rintro e wk ⟨a2, c2, rfl, hpx, hbN⟩
  clear c00 c01 c02 c10 c11 c12 f0 f1 f2
  have hsz := hbN.size
  have kr := blk_below k1 hbN (by omega)
  have HBK := hide ((unhide HB).trans (hbN.mono (by omega)))
  have r0 := blk_frozen kr 0
  have s0 : wk.cell? ⟨B + 1, 0, none⟩ = some (.int .i64 0) := blk_cell kr 0
  have r1 := blk_frozen kr 1
  have s1 : wk.cell? ⟨B + 1, 1, none⟩ = some (.int .i64 0) := blk_cell kr 1
  have r2 := blk_frozen kr 2
  have s2 : wk.cell? ⟨B + 1, 2, none⟩ = some (.slice none 0 0) := blk_cell kr 2
  have hlk : B + 1 < wk.heap.size := by omega
  have HPX := hide (fun u1 u2 u3 : Value => (((hpx.far (j := 0) (show B + 1 < w2.heap.size by omega) u1).far (j := 1) (show B + 1 < w2.heap.size by omega) u2).far (j := 2) (show B + 1 < w2.heap.size by omega) u3).is)
  clear hpx hbN hsz kr HM k0 k1
  go_wp2
  refine bodyPost_ret (v := .tuple #[.agg #[.int .i64 (H : Int), .int .i64 (W : Int), .slice a2 (H * W) c2], .nilIface]) ?_ rfl ⟨a2, c2, rfl, unhide HPX _ _ _, ?_⟩
  · rw [results_ct (p := 4) (ty := 26) (u := 5) (by kernel_rfl)]
    go_simp
  · rw [← unhide HBE]
    exact ((((unhide HBK).setCell (p := ⟨B + 1, 0, none⟩) (by show B ≤ B + 1; omega) _).setCell (p := ⟨B + 1, 1, none⟩) (by show B ≤ B + 1; omega) _).setCell (p := ⟨B + 1, 2, none⟩) (by show B ≤ B + 1; omega) _)

set_option maxHeartbeats 4000000 in
set_option maxRecDepth 100000 in
theorem turn_4 (W H : Nat) (a : Option Addr) (n c : Nat) (z : Int) (p : Nat → Px)  (w : World) (hW0 : 1 ≤ W) (hW : W ≤ 256) (hH0 : 1 ≤ H) (hH : H ≤ 256) (hn : n = W * H) (hP : IsPx w a n p) (tq : Int) (hz : bits .and .i64 z 3 = tq) (d1 : (tq == 1) = false) (d2 : (tq == 2) = false) (d3 : (tq == 3) = false) :
    Calls Tryd.prog 30 #[.agg #[.int .i64 (W : Int), .int .i64 (H : Int), .slice a n c], .int .i64 z] w fun e w' => ∃ a2 c2, e = .returned (.tuple #[.agg #[.int .i64 (W : Int), .int .i64 (H : Int), .slice a2 (W * H) c2], .nilIface]) ∧ IsPx w' a2 (W * H) (grid W fun x y => p (y * W + x)) ∧ Below w.heap.size w w' := by
  have HA := hide (al2 w (.cells #[.int .i64 (W : Int), .int .i64 (H : Int), .slice a n c] 26) (.cells #[.int .i64 0, .int .i64 0, .slice none 0 0] 26))
  have HR := hide (fun w => isRight_any W H a n c w)
  rw [decide_eq_true (rightN hW0 hW hH0 hH hn)] at HR
  have HM : Hid (∀ wr, wr.heap[w.heap.size]? = some (.cells #[.int .i64 (W : Int), .int .i64 (H : Int), .slice a n c] 26) → wr.heap[w.heap.size + 1]? = some (.cells #[.int .i64 0, .int .i64 0, .slice none 0 0] 26) → Below w.heap.size w wr → w.heap.size + 2 ≤ wr.heap.size → Calls Tryd.prog 41 #[.int .i64 (W : Int), .int .i64 (H : Int), .func (.func 61) #[] #[.pointer (some ⟨w.heap.size, 0, none⟩)]] wr fun e w' => ∃ a2 c2, e = .returned (.agg #[.int .i64 (W : Int), .int .i64 (H : Int), .slice a2 (W * H) c2]) ∧ IsPxN wr.heap.size w' a2 (W * H) (grid W fun x y => p (y * W + x)) ∧ Below wr.heap.size wr w') := fun wr k0 k1 hb hsz => by
    refine made_any W H 61 _ _ wr hW0 hW hH (fun args w => by go_simp) (fun x y wq hx hy hq => ?_)
    have hP2 := hP.below (hb.trans (hq.mono hb.size))
    exact turnC4 W H _ a n c p x y wq hP2 hW hH hn hx hy (blk_below k0 hq (by omega))
  have hmf : ∀ (fn : Fn) (first cap : Array Value) (w : World), (Instr.makeFunc fn first cap).run Tryd.prog w = .ok (.func fn first cap) w := fun _ _ _ _ => rfl
  obtain ⟨B, hB⟩ : ∃ B, B = w.heap.size := ⟨_, rfl⟩
  clear hP hn
  go_enter Tryd.func30, Tryd.ntmps30
  go_wp2_with fail
  refine (unhide HR _).mono ?_
  generalize ((w.alloc (.cells #[.int .i64 (W : Int), .int .i64 (H : Int), .slice a n c] 26)).alloc (.cells #[.int .i64 0, .int .i64 0, .slice none 0 0] 26)) = w1 at *
  rw [← hB] at HA HM ⊢
  obtain ⟨hs1, k0, k1, hb1⟩ := unhide HA
  have HBE := hide hB
  clear HA hB
  have hs : B + 2 ≤ w1.heap.size := by omega
  have HB := hide hb1
  clear hs1 hb1
  rintro e w2 ⟨rfl, hbN⟩
  have hsz := hbN.size
  have k0 := blk_below k0 hbN (by omega)
  have k1 := blk_below k1 hbN (by omega)
  have HB := hide ((unhide HB).trans (hbN.mono (by omega)))
  have hs : B + 2 ≤ w2.heap.size := by omega
  clear hbN hsz
  have c00 : w2.cell? ⟨B, 0, none⟩ = some (.int .i64 (W : Int)) := blk_cell k0 0
  have c01 : w2.cell? ⟨B, 1, none⟩ = some (.int .i64 (H : Int)) := blk_cell k0 1
  have c02 : w2.cell? ⟨B, 2, none⟩ = some (.slice a n c) := blk_cell k0 2
  have c10 : w2.cell? ⟨B + 1, 0, none⟩ = some (.int .i64 0) := blk_cell k1 0
  have f0 := blk_frozen k1 0
  have c11 : w2.cell? ⟨B + 1, 1, none⟩ = some (.int .i64 0) := blk_cell k1 1
  have f1 := blk_frozen k1 1
  have c12 : w2.cell? ⟨B + 1, 2, none⟩ = some (.slice none 0 0) := blk_cell k1 2
  have f2 := blk_frozen k1 2
  have hlr : B + 1 < w2.heap.size := by omega
  go_wp2_with fail
  refine (unhide HM _ k0 k1 (unhide HB) hs).mono ?_
  rintro e wk ⟨a2, c2, rfl, hpx, hbN⟩
  clear c00 c01 c02 c10 c11 c12 f0 f1 f2
  have hsz := hbN.size
  have kr := blk_below k1 hbN (by omega)
  have HBK := hide ((unhide HB).trans (hbN.mono (by omega)))
  have r0 := blk_frozen kr 0
  have s0 : wk.cell? ⟨B + 1, 0, none⟩ = some (.int .i64 0) := blk_cell kr 0
  have r1 := blk_frozen kr 1
  have s1 : wk.cell? ⟨B + 1, 1, none⟩ = some (.int .i64 0) := blk_cell kr 1
  have r2 := blk_frozen kr 2
  have s2 : wk.cell? ⟨B + 1, 2, none⟩ = some (.slice none 0 0) := blk_cell kr 2
  have hlk : B + 1 < wk.heap.size := by omega
  have HPX := hide (fun u1 u2 u3 : Value => (((hpx.far (j := 0) (show B + 1 < w2.heap.size by omega) u1).far (j := 1) (show B + 1 < w2.heap.size by omega) u2).far (j := 2) (show B + 1 < w2.heap.size by omega) u3).is)
  clear hpx hbN hsz kr HM k0 k1
  go_wp2
  refine bodyPost_ret (v := .tuple #[.agg #[.int .i64 (W : Int), .int .i64 (H : Int), .slice a2 (W * H) c2], .nilIface]) ?_ rfl ⟨a2, c2, rfl, unhide HPX _ _ _, ?_⟩
  · rw [results_ct (p := 4) (ty := 26) (u := 5) (by kernel_rfl)]
    go_simp
  · rw [← unhide HBE]
    exact ((((unhide HBK).setCell (p := ⟨B + 1, 0, none⟩) (by show B ≤ B + 1; omega) _).setCell (p := ⟨B + 1, 1, none⟩) (by show B ≤ B + 1; omega) _).setCell (p := ⟨B + 1, 2, none⟩) (by show B ≤ B + 1; omega) _)

set_option maxHeartbeats 4000000 in
set_option maxRecDepth 100000 in
theorem new_ok  (u : Nat) (v : Nat) (q : Px)  (w : World) (hu0 : 1 ≤ u) (hu : u ≤ 256) (hv0 : 1 ≤ v) (hv : v ≤ 256) :
    Calls Tryd.prog 11 #[.int .i64 (u : Int), .int .i64 (v : Int), q.val] w fun e w' => ∃ a2 c2, e = .returned (.tuple #[.agg #[.int .i64 (u : Int), .int .i64 (v : Int), .slice a2 (u * v) c2], .nilIface]) ∧ IsPx w' a2 (u * v) (grid u fun _ _ => q) ∧ Below w.heap.size w w' := by
  have HA := hide (al2 w (.cells #[.int .u8 (q.r.toNat : Int), .int .u8 (q.g.toNat : Int), .int .u8 (q.b.toNat : Int), .int .u8 (q.a.toNat : Int)] 23) (.cells #[.int .i64 0, .int .i64 0, .slice none 0 0] 26))
  have HS := hide (fun w => areSides_any u v w)
  rw [decide_eq_true (by omega)] at HS
  have HM : Hid (∀ wr, wr.heap[w.heap.size]? = some (.cells #[.int .u8 (q.r.toNat : Int), .int .u8 (q.g.toNat : Int), .int .u8 (q.b.toNat : Int), .int .u8 (q.a.toNat : Int)] 23) → wr.heap[w.heap.size + 1]? = some (.cells #[.int .i64 0, .int .i64 0, .slice none 0 0] 26) → Below w.heap.size w wr → w.heap.size + 2 ≤ wr.heap.size → Calls Tryd.prog 41 #[.int .i64 (u : Int), .int .i64 (v : Int), .func (.func 42) #[] #[.pointer (some ⟨w.heap.size, 0, none⟩)]] wr fun e w' => ∃ a2 c2, e = .returned (.agg #[.int .i64 (u : Int), .int .i64 (v : Int), .slice a2 (u * v) c2]) ∧ IsPxN wr.heap.size w' a2 (u * v) (grid u fun _ _ => q) ∧ Below wr.heap.size wr w') := fun wr k0 k1 hb hsz => by
    refine made_any u v 42 _ _ wr hu0 hu hv (fun args w => by go_simp) (fun x y wq hx hy hq => ?_)
    exact newC _ q x y wq (blk_below k0 hq (by omega))
  have hmf : ∀ (fn : Fn) (first cap : Array Value) (w : World), (Instr.makeFunc fn first cap).run Tryd.prog w = .ok (.func fn first cap) w := fun _ _ _ _ => rfl
  obtain ⟨B, hB⟩ : ∃ B, B = w.heap.size := ⟨_, rfl⟩
  unfold Px.val
  go_enter Tryd.func11, Tryd.ntmps11
  go_wp2_with fail
  refine (unhide HS _).mono ?_
  generalize ((w.alloc (.cells #[.int .u8 (q.r.toNat : Int), .int .u8 (q.g.toNat : Int), .int .u8 (q.b.toNat : Int), .int .u8 (q.a.toNat : Int)] 23)).alloc (.cells #[.int .i64 0, .int .i64 0, .slice none 0 0] 26)) = w1 at *
  rw [← hB] at HA HM ⊢
  obtain ⟨hs1, k0, k1, hb1⟩ := unhide HA
  have HBE := hide hB
  clear HA hB
  have hs : B + 2 ≤ w1.heap.size := by omega
  have HB := hide hb1
  clear hs1 hb1
  rintro e w1 ⟨rfl, rfl⟩
  have c00 : w1.cell? ⟨B, 0, none⟩ = some (.int .u8 (q.r.toNat : Int)) := blk_cell k0 0
  have c01 : w1.cell? ⟨B, 1, none⟩ = some (.int .u8 (q.g.toNat : Int)) := blk_cell k0 1
  have c02 : w1.cell? ⟨B, 2, none⟩ = some (.int .u8 (q.b.toNat : Int)) := blk_cell k0 2
  have c03 : w1.cell? ⟨B, 3, none⟩ = some (.int .u8 (q.a.toNat : Int)) := blk_cell k0 3
  have c10 : w1.cell? ⟨B + 1, 0, none⟩ = some (.int .i64 0) := blk_cell k1 0
  have f0 := blk_frozen k1 0
  have c11 : w1.cell? ⟨B + 1, 1, none⟩ = some (.int .i64 0) := blk_cell k1 1
  have f1 := blk_frozen k1 1
  have c12 : w1.cell? ⟨B + 1, 2, none⟩ = some (.slice none 0 0) := blk_cell k1 2
  have f2 := blk_frozen k1 2
  have hlr : B + 1 < w1.heap.size := by omega
  go_wp2_with fail
  refine (unhide HM _ k0 k1 (unhide HB) hs).mono ?_
  rintro e wk ⟨a2, c2, rfl, hpx, hbN⟩
  clear c00 c01 c02 c03 c10 c11 c12 f0 f1 f2
  have hsz := hbN.size
  have kr := blk_below k1 hbN (by omega)
  have HBK := hide ((unhide HB).trans (hbN.mono (by omega)))
  have r0 := blk_frozen kr 0
  have s0 : wk.cell? ⟨B + 1, 0, none⟩ = some (.int .i64 0) := blk_cell kr 0
  have r1 := blk_frozen kr 1
  have s1 : wk.cell? ⟨B + 1, 1, none⟩ = some (.int .i64 0) := blk_cell kr 1
  have r2 := blk_frozen kr 2
  have s2 : wk.cell? ⟨B + 1, 2, none⟩ = some (.slice none 0 0) := blk_cell kr 2
  have hlk : B + 1 < wk.heap.size := by omega
  have HPX := hide (fun u1 u2 u3 : Value => (((hpx.far (j := 0) (show B + 1 < w1.heap.size by omega) u1).far (j := 1) (show B + 1 < w1.heap.size by omega) u2).far (j := 2) (show B + 1 < w1.heap.size by omega) u3).is)
  clear hpx hbN hsz kr HM k0 k1
  go_wp2
  refine bodyPost_ret (v := .tuple #[.agg #[.int .i64 (u : Int), .int .i64 (v : Int), .slice a2 (u * v) c2], .nilIface]) ?_ rfl ⟨a2, c2, rfl, unhide HPX _ _ _, ?_⟩
  · rw [results_ct (p := 6) (ty := 26) (u := 7) (by kernel_rfl)]
    go_simp
  · rw [← unhide HBE]
    exact ((((unhide HBK).setCell (p := ⟨B + 1, 0, none⟩) (by show B ≤ B + 1; omega) _).setCell (p := ⟨B + 1, 1, none⟩) (by show B ≤ B + 1; omega) _).setCell (p := ⟨B + 1, 2, none⟩) (by show B ≤ B + 1; omega) _)

set_option maxHeartbeats 4000000 in
set_option maxRecDepth 100000 in
theorem fill_ok (W H : Nat) (a : Option Addr) (n c : Nat) (X Y RW RH : Int) (q : Px) (p : Nat → Px)  (w : World) (hW0 : 1 ≤ W) (hW : W ≤ 256) (hH0 : 1 ≤ H) (hH : H ≤ 256) (hn : n = W * H) (hP : IsPx w a n p) (hb : Nr X ∧ Nr Y ∧ Nr RW ∧ Nr RH) (h0 : 0 ≤ RW) (h1 : 0 ≤ RH) :
    Calls Tryd.prog 20 #[.agg #[.int .i64 (W : Int), .int .i64 (H : Int), .slice a n c], .agg #[.int .i64 X, .int .i64 Y, .int .i64 RW, .int .i64 RH], q.val] w fun e w' => ∃ a2 c2, e = .returned (.tuple #[.agg #[.int .i64 (W : Int), .int .i64 (H : Int), .slice a2 (W * H) c2], .nilIface]) ∧ IsPx w' a2 (W * H) (grid W fun x y => if decide (X ≤ (x : Int) ∧ (x : Int) < X + RW ∧ Y ≤ (y : Int) ∧ (y : Int) < Y + RH) then q else p (y * W + x)) ∧ Below w.heap.size w w' := by
  have HA := hide (al4 w (.cells #[.int .i64 (W : Int), .int .i64 (H : Int), .slice a n c] 26) (.cells #[.int .i64 X, .int .i64 Y, .int .i64 RW, .int .i64 RH] 43) (.cells #[.int .u8 (q.r.toNat : Int), .int .u8 (q.g.toNat : Int), .int .u8 (q.b.toNat : Int), .int .u8 (q.a.toNat : Int)] 23) (.cells #[.int .i64 0, .int .i64 0, .slice none 0 0] 26))
  have HR := hide (fun w => isRight_any W H a n c w)
  rw [decide_eq_true (rightN hW0 hW hH0 hH hn)] at HR
  have HS := hide (fun w => near4_any X Y RW RH w)
  rw [decide_eq_true hb] at HS
  have d0 : decide (RW < 0) = false := decide_eq_false (by omega)
  have d1 : decide (RH < 0) = false := decide_eq_false (by omega)
  have hbn := hb
  have HM : Hid (∀ wr, wr.heap[w.heap.size]? = some (.cells #[.int .i64 (W : Int), .int .i64 (H : Int), .slice a n c] 26) → wr.heap[w.heap.size + 1]? = some (.cells #[.int .i64 X, .int .i64 Y, .int .i64 RW, .int .i64 RH] 43) → wr.heap[w.heap.size + 2]? = some (.cells #[.int .u8 (q.r.toNat : Int), .int .u8 (q.g.toNat : Int), .int .u8 (q.b.toNat : Int), .int .u8 (q.a.toNat : Int)] 23) → wr.heap[w.heap.size + 3]? = some (.cells #[.int .i64 0, .int .i64 0, .slice none 0 0] 26) → Below w.heap.size w wr → w.heap.size + 4 ≤ wr.heap.size → Calls Tryd.prog 48 #[.agg #[.int .i64 (W : Int), .int .i64 (H : Int), .slice a n c], .agg #[.int .u8 (q.r.toNat : Int), .int .u8 (q.g.toNat : Int), .int .u8 (q.b.toNat : Int), .int .u8 (q.a.toNat : Int)], .func (.func 49) #[] #[.pointer (some ⟨w.heap.size + 1, 0, none⟩)]] wr fun e w' => ∃ a2 c2, e = .returned (.agg #[.int .i64 (W : Int), .int .i64 (H : Int), .slice a2 (W * H) c2]) ∧ IsPxN wr.heap.size w' a2 (W * H) (grid W fun x y => if decide (X ≤ (x : Int) ∧ (x : Int) < X + RW ∧ Y ≤ (y : Int) ∧ (y : Int) < Y + RH) then q else p (y * W + x)) ∧ Below wr.heap.size wr w') := fun wr k0 k1 k2 k3 hb hsz => by
    refine painted_any W H 49 #[] _ a n c p q (fun x y => decide (X ≤ (x : Int) ∧ (x : Int) < X + RW ∧ Y ≤ (y : Int) ∧ (y : Int) < Y + RH)) wr (hP.below hb) hW0 hW hH hn (fun args w => by go_simp) (fun x y wq hx hy hq => ?_)
    exact fillC _ X Y RW RH x y wq hbn.1 hbn.2.1 ⟨h0, hbn.2.2.1.2⟩ ⟨h1, hbn.2.2.2.2⟩ (blk_below k1 hq (by omega))
  have hmf : ∀ (fn : Fn) (first cap : Array Value) (w : World), (Instr.makeFunc fn first cap).run Tryd.prog w = .ok (.func fn first cap) w := fun _ _ _ _ => rfl
  obtain ⟨B, hB⟩ : ∃ B, B = w.heap.size := ⟨_, rfl⟩
  clear hP hn
  unfold Px.val
  go_enter Tryd.func20, Tryd.ntmps20
  go_wp2_with fail
  refine (unhide HR _).mono ?_
  generalize ((((w.alloc (.cells #[.int .i64 (W : Int), .int .i64 (H : Int), .slice a n c] 26)).alloc (.cells #[.int .i64 X, .int .i64 Y, .int .i64 RW, .int .i64 RH] 43)).alloc (.cells #[.int .u8 (q.r.toNat : Int), .int .u8 (q.g.toNat : Int), .int .u8 (q.b.toNat : Int), .int .u8 (q.a.toNat : Int)] 23)).alloc (.cells #[.int .i64 0, .int .i64 0, .slice none 0 0] 26)) = w1 at *
  rw [← hB] at HA HM ⊢
  obtain ⟨hs1, k0, k1, k2, k3, hb1⟩ := unhide HA
  have HBE := hide hB
  clear HA hB
  have hs : B + 4 ≤ w1.heap.size := by omega
  have HB := hide hb1
  clear hs1 hb1
  rintro e w2 ⟨rfl, hbN⟩
  have hsz := hbN.size
  have k0 := blk_below k0 hbN (by omega)
  have k1 := blk_below k1 hbN (by omega)
  have k2 := blk_below k2 hbN (by omega)
  have k3 := blk_below k3 hbN (by omega)
  have HB := hide ((unhide HB).trans (hbN.mono (by omega)))
  have hs : B + 4 ≤ w2.heap.size := by omega
  clear hbN hsz
  have c00 : w2.cell? ⟨B, 0, none⟩ = some (.int .i64 (W : Int)) := blk_cell k0 0
  have c01 : w2.cell? ⟨B, 1, none⟩ = some (.int .i64 (H : Int)) := blk_cell k0 1
  have c02 : w2.cell? ⟨B, 2, none⟩ = some (.slice a n c) := blk_cell k0 2
  have c10 : w2.cell? ⟨B + 1, 0, none⟩ = some (.int .i64 X) := blk_cell k1 0
  have c11 : w2.cell? ⟨B + 1, 1, none⟩ = some (.int .i64 Y) := blk_cell k1 1
  have c12 : w2.cell? ⟨B + 1, 2, none⟩ = some (.int .i64 RW) := blk_cell k1 2
  have c13 : w2.cell? ⟨B + 1, 3, none⟩ = some (.int .i64 RH) := blk_cell k1 3
  have c20 : w2.cell? ⟨B + 2, 0, none⟩ = some (.int .u8 (q.r.toNat : Int)) := blk_cell k2 0
  have c21 : w2.cell? ⟨B + 2, 1, none⟩ = some (.int .u8 (q.g.toNat : Int)) := blk_cell k2 1
  have c22 : w2.cell? ⟨B + 2, 2, none⟩ = some (.int .u8 (q.b.toNat : Int)) := blk_cell k2 2
  have c23 : w2.cell? ⟨B + 2, 3, none⟩ = some (.int .u8 (q.a.toNat : Int)) := blk_cell k2 3
  have c30 : w2.cell? ⟨B + 3, 0, none⟩ = some (.int .i64 0) := blk_cell k3 0
  have f0 := blk_frozen k3 0
  have c31 : w2.cell? ⟨B + 3, 1, none⟩ = some (.int .i64 0) := blk_cell k3 1
  have f1 := blk_frozen k3 1
  have c32 : w2.cell? ⟨B + 3, 2, none⟩ = some (.slice none 0 0) := blk_cell k3 2
  have f2 := blk_frozen k3 2
  go_wp2_with fail
  refine (unhide HS _).mono ?_
  have hbA : Below w2.heap.size w2 (w2.alloc (.cells #[.int .i64 X, .int .i64 Y, .int .i64 RW, .int .i64 RH] 3)) := (Below.refl _ _).alloc (Nat.le_refl _) _
  generalize w2.alloc (.cells #[.int .i64 X, .int .i64 Y, .int .i64 RW, .int .i64 RH] 3) = w3 at *
  clear c00 c01 c02 c10 c11 c12 c13 c20 c21 c22 c23 c30 c31 c32 f0 f1 f2
  have hsz := hbA.size
  have k0 := blk_below k0 hbA (by omega)
  have k1 := blk_below k1 hbA (by omega)
  have k2 := blk_below k2 hbA (by omega)
  have k3 := blk_below k3 hbA (by omega)
  have HB := hide ((unhide HB).trans (hbA.mono (by omega)))
  have hs : B + 4 ≤ w3.heap.size := by omega
  clear hbA hsz
  rintro e w3 ⟨rfl, rfl⟩
  have c00 : w3.cell? ⟨B, 0, none⟩ = some (.int .i64 (W : Int)) := blk_cell k0 0
  have c01 : w3.cell? ⟨B, 1, none⟩ = some (.int .i64 (H : Int)) := blk_cell k0 1
  have c02 : w3.cell? ⟨B, 2, none⟩ = some (.slice a n c) := blk_cell k0 2
  have c10 : w3.cell? ⟨B + 1, 0, none⟩ = some (.int .i64 X) := blk_cell k1 0
  have c11 : w3.cell? ⟨B + 1, 1, none⟩ = some (.int .i64 Y) := blk_cell k1 1
  have c12 : w3.cell? ⟨B + 1, 2, none⟩ = some (.int .i64 RW) := blk_cell k1 2
  have c13 : w3.cell? ⟨B + 1, 3, none⟩ = some (.int .i64 RH) := blk_cell k1 3
  have c20 : w3.cell? ⟨B + 2, 0, none⟩ = some (.int .u8 (q.r.toNat : Int)) := blk_cell k2 0
  have c21 : w3.cell? ⟨B + 2, 1, none⟩ = some (.int .u8 (q.g.toNat : Int)) := blk_cell k2 1
  have c22 : w3.cell? ⟨B + 2, 2, none⟩ = some (.int .u8 (q.b.toNat : Int)) := blk_cell k2 2
  have c23 : w3.cell? ⟨B + 2, 3, none⟩ = some (.int .u8 (q.a.toNat : Int)) := blk_cell k2 3
  have c30 : w3.cell? ⟨B + 3, 0, none⟩ = some (.int .i64 0) := blk_cell k3 0
  have f0 := blk_frozen k3 0
  have c31 : w3.cell? ⟨B + 3, 1, none⟩ = some (.int .i64 0) := blk_cell k3 1
  have f1 := blk_frozen k3 1
  have c32 : w3.cell? ⟨B + 3, 2, none⟩ = some (.slice none 0 0) := blk_cell k3 2
  have f2 := blk_frozen k3 2
  have hlr : B + 3 < w3.heap.size := by omega
  go_wp2_with fail
  refine (unhide HM _ k0 k1 k2 k3 (unhide HB) hs).mono ?_
  rintro e wk ⟨a2, c2, rfl, hpx, hbN⟩
  clear c00 c01 c02 c10 c11 c12 c13 c20 c21 c22 c23 c30 c31 c32 f0 f1 f2
  have hsz := hbN.size
  have kr := blk_below k3 hbN (by omega)
  have HBK := hide ((unhide HB).trans (hbN.mono (by omega)))
  have r0 := blk_frozen kr 0
  have s0 : wk.cell? ⟨B + 3, 0, none⟩ = some (.int .i64 0) := blk_cell kr 0
  have r1 := blk_frozen kr 1
  have s1 : wk.cell? ⟨B + 3, 1, none⟩ = some (.int .i64 0) := blk_cell kr 1
  have r2 := blk_frozen kr 2
  have s2 : wk.cell? ⟨B + 3, 2, none⟩ = some (.slice none 0 0) := blk_cell kr 2
  have hlk : B + 3 < wk.heap.size := by omega
  have HPX := hide (fun u1 u2 u3 : Value => (((hpx.far (j := 0) (show B + 3 < w3.heap.size by omega) u1).far (j := 1) (show B + 3 < w3.heap.size by omega) u2).far (j := 2) (show B + 3 < w3.heap.size by omega) u3).is)
  clear hpx hbN hsz kr HM k0 k1 k2 k3
  go_wp2
  refine bodyPost_ret (v := .tuple #[.agg #[.int .i64 (W : Int), .int .i64 (H : Int), .slice a2 (W * H) c2], .nilIface]) ?_ rfl ⟨a2, c2, rfl, unhide HPX _ _ _, ?_⟩
  · rw [results_ct (p := 6) (ty := 26) (u := 7) (by kernel_rfl)]
    go_simp
  · rw [← unhide HBE]
    exact ((((unhide HBK).setCell (p := ⟨B + 3, 0, none⟩) (by show B ≤ B + 3; omega) _).setCell (p := ⟨B + 3, 1, none⟩) (by show B ≤ B + 3; omega) _).setCell (p := ⟨B + 3, 2, none⟩) (by show B ≤ B + 3; omega) _)

end Go.Proofs.YtjhnneplknhmkahDoor
