/- Pictures of another size: the function that tells each pixel: the program's. -/
import Derived.Test.YtjchafbihfblnahDoorRt7
import Derived.Test.YtjchafbihfblnahDoorRw0
import Derived.Test.YtjchafbihfblnahDoorRo3
namespace Go.Proofs.YtjchafbihfblnahDoor
open Go.RowKit

set_option maxHeartbeats 4000000 in
set_option maxRecDepth 100000 in
theorem scaleC (W H kp ku kv : Nat) (a : Option Addr) (n c : Nat) (p : Nat → Px) (u v x y : Nat) (w : World) (hP : IsPx w a n p) (hW0 : 1 ≤ W) (hW : W ≤ 256) (hH0 : 1 ≤ H) (hH : H ≤ 256) (hn : n = W * H) (hu0 : 1 ≤ u) (hu : u ≤ 256) (hv0 : 1 ≤ v) (hv : v ≤ 256) (hlx : x < u) (hly : y < v)
    (bp : w.heap[kp]? = some (.cells #[.int .i64 (W : Int), .int .i64 (H : Int), .slice a n c] 26)) (bu : w.heap[ku]? = some (.cells #[.int .i64 (u : Int)] 3)) (bv : w.heap[kv]? = some (.cells #[.int .i64 (v : Int)] 3)) :
    Calls Tryd.prog 65 #[.int .i64 (x : Int), .int .i64 (y : Int), .pointer (some ⟨kp, 0, none⟩), .pointer (some ⟨ku, 0, none⟩), .pointer (some ⟨kv, 0, none⟩)] w fun e w' => e = .returned (p ((y * H / v) * W + (x * W / u))).val ∧ Below w.heap.size w w' := by
  have HA := hide (al1 w (.cells #[.int .u8 0, .int .u8 0, .int .u8 0, .int .u8 0] 23))
  obtain ⟨m1, hm1⟩ : ∃ m, m = x * W := ⟨_, rfl⟩
  have zm1 : (x : Int) * (W : Int) = (m1 : Int) := by rw [hm1]; simp
  have bm1 : m1 ≤ 65536 := by rw [hm1]; exact Nat.mul_le_mul (show x ≤ 256 by omega) hW
  obtain ⟨sx, hsx⟩ : ∃ s, s = m1 / u := ⟨_, rfl⟩
  have lsx : sx < W := by rw [hsx, hm1]; exact Nat.div_lt_of_lt_mul (Nat.mul_lt_mul_of_pos_right hlx hW0)
  have qsx : (m1 : Int).tdiv (u : Int) = (sx : Int) := by rw [hsx]; exact (Int.ofNat_tdiv _ _).symm
  have ysx : (m1 : Int) / (u : Int) = (sx : Int) := by rw [hsx]; simp
  obtain ⟨m2, hm2⟩ : ∃ m, m = y * H := ⟨_, rfl⟩
  have zm2 : (y : Int) * (H : Int) = (m2 : Int) := by rw [hm2]; simp
  have bm2 : m2 ≤ 65536 := by rw [hm2]; exact Nat.mul_le_mul (show y ≤ 256 by omega) hH
  obtain ⟨sy, hsy⟩ : ∃ s, s = m2 / v := ⟨_, rfl⟩
  have lsy : sy < H := by rw [hsy, hm2]; exact Nat.div_lt_of_lt_mul (Nat.mul_lt_mul_of_pos_right hly hH0)
  have qsy : (m2 : Int).tdiv (v : Int) = (sy : Int) := by rw [hsy]; exact (Int.ofNat_tdiv _ _).symm
  have ysy : (m2 : Int) / (v : Int) = (sy : Int) := by rw [hsy]; simp
  have nzu : ((u : Int) == 0) = false := by simp; omega
  have nyu : (u : Int) ≠ 0 := by omega
  have nzv : ((v : Int) == 0) = false := by simp; omega
  have nyv : (v : Int) ≠ 0 := by omega
  have wm1 : IntKind.i64.wrap (m1 : Int) = (m1 : Int) := by rw [IntKind.wrap_i64]; omega
  have wm2 : IntKind.i64.wrap (m2 : Int) = (m2 : Int) := by rw [IntKind.wrap_i64]; omega
  have wsx : IntKind.i64.wrap (sx : Int) = (sx : Int) := by rw [IntKind.wrap_i64]; omega
  have wsy : IntKind.i64.wrap (sy : Int) = (sy : Int) := by rw [IntKind.wrap_i64]; omega
  rw [← hm1, ← hm2, ← hsx, ← hsy]
  have HR := hide (fun wr (hb : Below w.heap.size w wr) => rat_any W H sx sy a n c p wr (hP.below hb) hW hH lsx lsy hn)
  obtain ⟨V, hV⟩ : ∃ V, V = p (sy * W + sx) := ⟨_, rfl⟩
  rw [← hV] at HR ⊢
  unfold Px.val at *
  have l1 := blk_lt bp
  have l2 := blk_lt bu
  have l3 := blk_lt bv
  obtain ⟨B, hB⟩ : ∃ B, B = w.heap.size := ⟨_, rfl⟩
  clear hm1 hsx hm2 hsy hV hP hn
  go_enter Tryd.func65, Tryd.ntmps65
  go_wp2
  have kp1 := blk_alloc bp (.cells #[.int .u8 0, .int .u8 0, .int .u8 0, .int .u8 0] 23)
  have ku1 := blk_alloc bu (.cells #[.int .u8 0, .int .u8 0, .int .u8 0, .int .u8 0] 23)
  have kv1 := blk_alloc bv (.cells #[.int .u8 0, .int .u8 0, .int .u8 0, .int .u8 0] 23)
  generalize w.alloc (.cells #[.int .u8 0, .int .u8 0, .int .u8 0, .int .u8 0] 23) = w1 at *
  rw [← hB] at HA HR l1 l2 l3 ⊢
  obtain ⟨hs1, k0, hb1⟩ := unhide HA
  have HBE := hide hB
  have HB1 := hide hb1
  have c0 : w1.cell? ⟨kp, 0, none⟩ = some (.int .i64 (W : Int)) := blk_cell kp1 0
  have c1 : w1.cell? ⟨kp, 1, none⟩ = some (.int .i64 (H : Int)) := blk_cell kp1 1
  have c2 : w1.cell? ⟨kp, 2, none⟩ = some (.slice a n c) := blk_cell kp1 2
  have c3 : w1.cell? ⟨ku, 0, none⟩ = some (.int .i64 (u : Int)) := blk_cell ku1 0
  have c4 : w1.cell? ⟨kv, 0, none⟩ = some (.int .i64 (v : Int)) := blk_cell kv1 0
  have h1 : kp < w1.heap.size := blk_lt kp1
  have h2 : ku < w1.heap.size := blk_lt ku1
  have h3 : kv < w1.heap.size := blk_lt kv1
  have n1 : B ≠ kp := by omega
  have n2 : B ≠ ku := by omega
  have n3 : B ≠ kv := by omega
  have hl : B < w1.heap.size := by omega
  have K0 := hide k0
  have hdr := (Below.refl w1.heap.size w1).drew
  clear HA hB hb1 bp bu bv k0 kp1 ku1 kv1 l1 l2 l3 hs1
  go_region_held (fun w' => w'.cell? ⟨kp, 0, none⟩ = some (.int .i64 (W : Int)) ∧ w'.cell? ⟨kp, 1, none⟩ = some (.int .i64 (H : Int)) ∧ w'.cell? ⟨kp, 2, none⟩ = some (.slice a n c) ∧ w'.cell? ⟨ku, 0, none⟩ = some (.int .i64 (u : Int)) ∧ w'.cell? ⟨kv, 0, none⟩ = some (.int .i64 (v : Int))) (first | with_reducible exact ⟨(far4g _ _ _ _ _ _ _ _ _ _ _ _ n1).trans ((unhide hk _ _ h1).trans c0), (far4g _ _ _ _ _ _ _ _ _ _ _ _ n1).trans ((unhide hk _ _ h1).trans c1), (far4g _ _ _ _ _ _ _ _ _ _ _ _ n1).trans ((unhide hk _ _ h1).trans c2), (far4g _ _ _ _ _ _ _ _ _ _ _ _ n2).trans ((unhide hk _ _ h2).trans c3), (far4g _ _ _ _ _ _ _ _ _ _ _ _ n3).trans ((unhide hk _ _ h3).trans c4)⟩ | with_reducible exact ⟨(unhide hk _ _ h1).trans c0, (unhide hk _ _ h1).trans c1, (unhide hk _ _ h1).trans c2, (unhide hk _ _ h2).trans c3, (unhide hk _ _ h3).trans c4⟩ | exact ⟨c0, c1, c2, c3, c4⟩) (first | (go_at_call 45; refine (unhide HR w1.drew ((unhide HB1).drew)).mono ?_; rintro e w2 ⟨rfl, hb2⟩; have hq := hdr.trans (hb2.mono (Nat.le_refl _)); have hk := hide (fun (k o : Nat) (h : k < w1.heap.size) => hq.cell (p := ⟨k, o, none⟩) h); have kr := blk_below (unhide K0) hq hl; have r0 := blk_frozen kr 0; have r1 := blk_frozen kr 1; have r2 := blk_frozen kr 2; have r3 := blk_frozen kr 3; have s0 : w2.cell? ⟨B, 0, none⟩ = some (.int .u8 0) := blk_cell kr 0; have s1 : w2.cell? ⟨B, 1, none⟩ = some (.int .u8 0) := blk_cell kr 1; have s2 : w2.cell? ⟨B, 2, none⟩ = some (.int .u8 0) := blk_cell kr 2; have s3 : w2.cell? ⟨B, 3, none⟩ = some (.int .u8 0) := blk_cell kr 3))
  all_goals
    have HB2 := hide ((unhide HB1).trans (hq.mono (Nat.le_of_lt hl)))
    have hl2 : B < w2.heap.size := Nat.lt_of_lt_of_le hl hq.size
    clear c0 c1 c2 c3 c4
    go_wp2
    refine bodyPost_ret (v := .agg #[.int .u8 (V.r.toNat : Int), .int .u8 (V.g.toNat : Int), .int .u8 (V.b.toNat : Int), .int .u8 (V.a.toNat : Int)]) ?_ rfl ⟨rfl, ?_⟩
    · rw [results_cellP (p := 7) (ty := 23) (by kernel_rfl)]
      go_simp
    · rw [← unhide HBE]
      exact (((((unhide HB2).setCell (p := ⟨B, 0, none⟩) (Nat.le_refl _) _).setCell (p := ⟨B, 1, none⟩) (Nat.le_refl _) _).setCell (p := ⟨B, 2, none⟩) (Nat.le_refl _) _).setCell (p := ⟨B, 3, none⟩) (Nat.le_refl _) _)
end Go.Proofs.YtjchafbihfblnahDoor
