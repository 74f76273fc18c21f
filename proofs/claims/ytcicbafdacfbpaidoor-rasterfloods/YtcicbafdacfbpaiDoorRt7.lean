/- Pictures: what the functions of package raster answer. Written by genrt5.py. -/
import Derived.Test.YtcicbafdacfbpaiDoorRt6
namespace Go.Proofs.YtcicbafdacfbpaiDoor
open Go.RowKit

set_option maxHeartbeats 1000000 in
theorem newC (k : Nat) (q : Px) (x y : Nat) (w : World) (b : w.heap[k]? = some (.cells #[.int .u8 (q.r.toNat : Int), .int .u8 (q.g.toNat : Int), .int .u8 (q.b.toNat : Int), .int .u8 (q.a.toNat : Int)] 26)) :
    Calls Tryd.prog 49 #[.int .i64 (x : Int), .int .i64 (y : Int), .pointer (some ⟨k, 0, none⟩)] w fun e w' => e = .returned q.val ∧ Below w.heap.size w w' := by
  have b1 := blk_alloc b (.cells #[.int .u8 0, .int .u8 0, .int .u8 0, .int .u8 0] 26)
  have c0 := blk_cell b1 0
  have c1 := blk_cell b1 1
  have c2 := blk_cell b1 2
  have c3 := blk_cell b1 3
  have hne : w.heap.size ≠ k := by have := blk_lt b; omega
  simp only [List.getElem?_toArray, List.getElem?_cons_zero, List.getElem?_cons_succ] at c0 c1 c2 c3
  have HB : Hid (∀ o, Below w.heap.size w (w.alloc o)) := fun o => (Below.refl _ _).alloc (Nat.le_refl _) _
  unfold Px.val
  clear b b1
  go_enter Tryd.func49, Tryd.ntmps49
  go_wp2
  refine bodyPost_ret (v := .agg #[.int .u8 (q.r.toNat : Int), .int .u8 (q.g.toNat : Int), .int .u8 (q.b.toNat : Int), .int .u8 (q.a.toNat : Int)]) ?_ rfl ⟨rfl, ?_⟩
  · rw [results_cellP (p := 5) (ty := 26) (by kernel_rfl)]
    go_simp
  · exact unhide HB _








set_option maxHeartbeats 4000000 in
set_option maxRecDepth 100000 in
theorem new_ok  (u : Nat) (v : Nat) (q : Px)  (w : World) (hu0 : 1 ≤ u) (hu : u ≤ 256) (hv0 : 1 ≤ v) (hv : v ≤ 256) :
    Calls Tryd.prog 23 #[.int .i64 (u : Int), .int .i64 (v : Int), q.val] w fun e w' => ∃ a2 c2, e = .returned (.tuple #[.agg #[.int .i64 (u : Int), .int .i64 (v : Int), .slice a2 (u * v) c2], .nilIface]) ∧ IsPx w' a2 (u * v) (grid u fun _ _ => q) ∧ Below w.heap.size w w' := by
  have HA := hide (al2 w (.cells #[.int .u8 (q.r.toNat : Int), .int .u8 (q.g.toNat : Int), .int .u8 (q.b.toNat : Int), .int .u8 (q.a.toNat : Int)] 26) (.cells #[.int .i64 0, .int .i64 0, .slice none 0 0] 24))
  have HS := hide (fun w => areSides_any u v w)
  rw [decide_eq_true (by omega)] at HS
  have HM : Hid (∀ wr, wr.heap[w.heap.size]? = some (.cells #[.int .u8 (q.r.toNat : Int), .int .u8 (q.g.toNat : Int), .int .u8 (q.b.toNat : Int), .int .u8 (q.a.toNat : Int)] 26) → wr.heap[w.heap.size + 1]? = some (.cells #[.int .i64 0, .int .i64 0, .slice none 0 0] 24) → Below w.heap.size w wr → w.heap.size + 2 ≤ wr.heap.size → Calls Tryd.prog 48 #[.int .i64 (u : Int), .int .i64 (v : Int), .func (.func 49) #[] #[.pointer (some ⟨w.heap.size, 0, none⟩)]] wr fun e w' => ∃ a2 c2, e = .returned (.agg #[.int .i64 (u : Int), .int .i64 (v : Int), .slice a2 (u * v) c2]) ∧ IsPxN wr.heap.size w' a2 (u * v) (grid u fun _ _ => q) ∧ Below wr.heap.size wr w') := fun wr k0 k1 hb hsz => by
    refine made_any u v 49 _ _ wr hu0 hu hv (fun args w => by go_simp) (fun x y wq hx hy hq => ?_)
    exact newC _ q x y wq (blk_below k0 hq (by omega))
  have hmf : ∀ (fn : Fn) (first cap : Array Value) (w : World), (Instr.makeFunc fn first cap).run Tryd.prog w = .ok (.func fn first cap) w := fun _ _ _ _ => rfl
  obtain ⟨B, hB⟩ : ∃ B, B = w.heap.size := ⟨_, rfl⟩
  unfold Px.val
  go_enter Tryd.func23, Tryd.ntmps23
  go_wp2_with fail
  refine (unhide HS _).mono ?_
  generalize ((w.alloc (.cells #[.int .u8 (q.r.toNat : Int), .int .u8 (q.g.toNat : Int), .int .u8 (q.b.toNat : Int), .int .u8 (q.a.toNat : Int)] 26)).alloc (.cells #[.int .i64 0, .int .i64 0, .slice none 0 0] 24)) = w1 at *
  rw [← hB] at HA HM ⊢
  obtain ⟨hs1, k0, k1, hb1⟩ := unhide HA
  have HBE := hide hB
  clear HA hB
  have hs : B + 2 ≤ w1.heap.size := by omega
  have HB := hide hb1
  clear hs1 hb1
  rintro e w1 ⟨rfl, rfl⟩
  have c00 : w1.cell? ⟨B, 0, none⟩ = some (.int .u8 (q.r.toNat : Int)) := blk_cell k0 0
  have c01 : w1.cell? ⟨B, 1, none⟩ = some (.int .u8 (q.g.toNat : Int)) := blk_cell k0 1
  have c02 : w1.cell? ⟨B, 2, none⟩ = some (.int .u8 (q.b.toNat : Int)) := blk_cell k0 2
  have c03 : w1.cell? ⟨B, 3, none⟩ = some (.int .u8 (q.a.toNat : Int)) := blk_cell k0 3
  have c10 : w1.cell? ⟨B + 1, 0, none⟩ = some (.int .i64 0) := blk_cell k1 0
  have f0 := blk_frozen k1 0
  have c11 : w1.cell? ⟨B + 1, 1, none⟩ = some (.int .i64 0) := blk_cell k1 1
  have f1 := blk_frozen k1 1
  have c12 : w1.cell? ⟨B + 1, 2, none⟩ = some (.slice none 0 0) := blk_cell k1 2
  have f2 := blk_frozen k1 2
  have hlr : B + 1 < w1.heap.size := by omega
  go_wp2_with fail
  refine (unhide HM _ k0 k1 (unhide HB) hs).mono ?_
  rintro e wk ⟨a2, c2, rfl, hpx, hbN⟩
  clear c00 c01 c02 c03 c10 c11 c12 f0 f1 f2
  have hsz := hbN.size
  have kr := blk_below k1 hbN (by omega)
  have HBK := hide ((unhide HB).trans (hbN.mono (by omega)))
  have r0 := blk_frozen kr 0
  have s0 : wk.cell? ⟨B + 1, 0, none⟩ = some (.int .i64 0) := blk_cell kr 0
  have r1 := blk_frozen kr 1
  have s1 : wk.cell? ⟨B + 1, 1, none⟩ = some (.int .i64 0) := blk_cell kr 1
  have r2 := blk_frozen kr 2
  have s2 : wk.cell? ⟨B + 1, 2, none⟩ = some (.slice none 0 0) := blk_cell kr 2
  have hlk : B + 1 < wk.heap.size := by omega
  have HPX := hide (fun u1 u2 u3 : Value => (((hpx.far (j := 0) (show B + 1 < w1.heap.size by omega) u1).far (j := 1) (show B + 1 < w1.heap.size by omega) u2).far (j := 2) (show B + 1 < w1.heap.size by omega) u3).is)
  clear hpx hbN hsz kr HM k0 k1
  go_wp2
  refine bodyPost_ret (v := .tuple #[.agg #[.int .i64 (u : Int), .int .i64 (v : Int), .slice a2 (u * v) c2], .nilIface]) ?_ rfl ⟨a2, c2, rfl, unhide HPX _ _ _, ?_⟩
  · rw [results_ct (p := 6) (ty := 24) (u := 7) (by kernel_rfl)]
    go_simp
  · rw [← unhide HBE]
    exact ((((unhide HBK).setCell (p := ⟨B + 1, 0, none⟩) (by show B ≤ B + 1; omega) _).setCell (p := ⟨B + 1, 1, none⟩) (by show B ≤ B + 1; omega) _).setCell (p := ⟨B + 1, 2, none⟩) (by show B ≤ B + 1; omega) _)


end Go.Proofs.YtcicbafdacfbpaiDoor
