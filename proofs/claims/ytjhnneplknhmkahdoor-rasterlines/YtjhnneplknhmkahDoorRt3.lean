/- Pictures: pixels that are meant become one color: the program's. -/
import Derived.Test.YtjhnneplknhmkahDoorRt1
import Derived.Test.YtjhnneplknhmkahDoorBk
namespace Go.Proofs.YtjhnneplknhmkahDoor
open Go.RowKit

def picO (W H : Int) (a : Option Addr) (n c : Nat) : Obj := .cells #[.int .i64 W, .int .i64 H, .slice a n c] 26
def pixO (p : Px) : Obj := .cells #[.int .u8 (p.r.toNat : Int), .int .u8 (p.g.toNat : Int), .int .u8 (p.b.toNat : Int), .int .u8 (p.a.toNat : Int)] 23

set_option maxHeartbeats 4000000 in
set_option maxRecDepth 100000 in
theorem paintedC_any (W H F kF kc kp : Nat) (fst caps : Array Value) (a : Option Addr) (n c : Nat) (p : Nat → Px) (q : Px) (b : Bool) (x y : Nat) (w : World) (hP : IsPx w a n p) (hW : W ≤ 256) (hH : H ≤ 256) (hx : x < W) (hy : y < H) (hn : n = W * H)
    (bF : w.heap[kF]? = some (.cells #[.func (.func F) fst caps] 65)) (bc : w.heap[kc]? = some (pixO q)) (bp : w.heap[kp]? = some (picO W H a n c))
    (hcf : ∀ args w, Sem.run Tryd.prog (callFunc F args) w = .ok (.enter F args) w)
    (hT : ∀ wr, Below w.heap.size w wr → Calls Tryd.prog F (fst ++ (#[.int .i64 (x : Int), .int .i64 (y : Int)] ++ caps)) wr fun e w' => e = .returned (.bool b) ∧ Below wr.heap.size wr w') :
    Calls Tryd.prog 75 #[.int .i64 (x : Int), .int .i64 (y : Int), .pointer (some ⟨kF, 0, none⟩), .pointer (some ⟨kc, 0, none⟩), .pointer (some ⟨kp, 0, none⟩)] w fun e w' => e = .returned (if b then q else p (y * W + x)).val ∧ Below w.heap.size w w' := by
  have HA := hide (al1 w (.cells #[.int .u8 0, .int .u8 0, .int .u8 0, .int .u8 0] 23))
  have HT := hide hT
  have l1 := blk_lt bF
  have l2 := blk_lt bc
  have l3 := blk_lt bp
  have HR : Hid (∀ wr, Below w.heap.size w wr → Calls Tryd.prog 45 #[.agg #[.int .i64 (W : Int), .int .i64 (H : Int), .slice a n c], .int .i64 (x : Int), .int .i64 (y : Int)] wr fun e w' => e = .returned (p (y * W + x)).val ∧ Below wr.heap.size wr w') := fun wr hb => rat_any W H x y a n c p wr (hP.below hb) hW hH hx hy hn
  have HbF := hide bF
  have Hbc := hide bc
  have Hbp := hide bp
  obtain ⟨B, hB⟩ : ∃ B, B = w.heap.size := ⟨_, rfl⟩
  have c0 : (w.alloc (.cells #[.int .u8 0, .int .u8 0, .int .u8 0, .int .u8 0] 23)).cell? ⟨kF, 0, none⟩ = some (.func (.func F) fst caps) := blk_cell (blk_alloc bF _) 0
  obtain ⟨V, hV⟩ : ∃ V, V = (if b then q else p (y * W + x)).val := ⟨_, rfl⟩
  rw [← hV]
  have HV := hide hV
  clear hT bF bc bp hP hn hx hy hV
  go_enter Tryd.func75, Tryd.ntmps75
  go_wp2_with fail
  refine (unhide HT _ (unhide HA).below).mono ?_
  generalize w.alloc (.cells #[.int .u8 0, .int .u8 0, .int .u8 0, .int .u8 0] 23) = w1 at *
  rw [← hB] at HA HT HR l1 l2 l3 ⊢
  obtain ⟨hs1, k0, hb1⟩ := unhide HA
  rintro e w2 ⟨rfl, hb2⟩
  have hs2 := hb2.size
  have HB2 := hide (hb1.trans (hb2.mono (by omega)))
  have HBE := hide hB
  have kr := blk_below k0 hb2 (by omega)
  have r0 := blk_frozen kr 0
  have r1 := blk_frozen kr 1
  have r2 := blk_frozen kr 2
  have r3 := blk_frozen kr 3
  have s0 : w2.cell? ⟨B, 0, none⟩ = some (.int .u8 0) := blk_cell kr 0
  have s1 : w2.cell? ⟨B, 1, none⟩ = some (.int .u8 0) := blk_cell kr 1
  have s2 : w2.cell? ⟨B, 2, none⟩ = some (.int .u8 0) := blk_cell kr 2
  have s3 : w2.cell? ⟨B, 3, none⟩ = some (.int .u8 0) := blk_cell kr 3
  have hBl : B < w2.heap.size := by omega
  have HKR := hide kr
  clear hB hb1 hb2 k0 c0 HA HT hs1 hs2 kr
  rcases b with _ | _
  · have bp2 := blk_below (unhide Hbp) (unhide HB2) l3
    unfold picO at bp2
    have p0 : w2.cell? ⟨kp, 0, none⟩ = some (.int .i64 (W : Int)) := blk_cell bp2 0
    have p1 : w2.cell? ⟨kp, 1, none⟩ = some (.int .i64 (H : Int)) := blk_cell bp2 1
    have p2 : w2.cell? ⟨kp, 2, none⟩ = some (.slice a n c) := blk_cell bp2 2
    have HC := hide (unhide HR w2 (unhide HB2))
    have HV2 : Hid (V = (p (y * W + x)).val) := unhide HV
    clear HV
    generalize p (y * W + x) = v at *
    unfold Px.val at HC HV2
    clear HR Hbp Hbc HbF bp2 l1 l2 l3
    go_wp2_with fail
    refine (unhide HC).mono ?_
    rintro e w3 ⟨rfl, hb3⟩
    have hs3 := hb3.size
    have kr3 := blk_below (unhide HKR) hb3 hBl
    have HB3 := hide ((unhide HB2).trans (hb3.mono (by omega)))
    have r0' := blk_frozen kr3 0
    have r1' := blk_frozen kr3 1
    have r2' := blk_frozen kr3 2
    have r3' := blk_frozen kr3 3
    have s0' : w3.cell? ⟨B, 0, none⟩ = some (.int .u8 0) := blk_cell kr3 0
    have s1' : w3.cell? ⟨B, 1, none⟩ = some (.int .u8 0) := blk_cell kr3 1
    have s2' : w3.cell? ⟨B, 2, none⟩ = some (.int .u8 0) := blk_cell kr3 2
    have s3' : w3.cell? ⟨B, 3, none⟩ = some (.int .u8 0) := blk_cell kr3 3
    have hBl3 : B < w3.heap.size := by omega
    clear hb3 hs3 kr3 HC p0 p1 p2 r0 r1 r2 r3 s0 s1 s2 s3 HKR
    go_wp2
    refine bodyPost_ret (v := .agg #[.int .u8 (v.r.toNat : Int), .int .u8 (v.g.toNat : Int), .int .u8 (v.b.toNat : Int), .int .u8 (v.a.toNat : Int)]) ?_ rfl ⟨by rw [unhide HV2], ?_⟩
    · rw [results_cellP (p := 7) (ty := 23) (by kernel_rfl)]
      go_simp
    · rw [← unhide HBE]
      exact ((((unhide HB3).setCell (p := ⟨B, 0, none⟩) (Nat.le_refl _) _).setCell (p := ⟨B, 1, none⟩) (Nat.le_refl _) _).setCell (p := ⟨B, 2, none⟩) (Nat.le_refl _) _).setCell (p := ⟨B, 3, none⟩) (Nat.le_refl _) _
  · have bc2 := blk_below (unhide Hbc) (unhide HB2) l2
    unfold pixO at bc2
    have p0 : w2.cell? ⟨kc, 0, none⟩ = some (.int .u8 (q.r.toNat : Int)) := blk_cell bc2 0
    have p1 : w2.cell? ⟨kc, 1, none⟩ = some (.int .u8 (q.g.toNat : Int)) := blk_cell bc2 1
    have p2 : w2.cell? ⟨kc, 2, none⟩ = some (.int .u8 (q.b.toNat : Int)) := blk_cell bc2 2
    have p3 : w2.cell? ⟨kc, 3, none⟩ = some (.int .u8 (q.a.toNat : Int)) := blk_cell bc2 3
    have HV2 : Hid (V = .agg #[.int .u8 (q.r.toNat : Int), .int .u8 (q.g.toNat : Int), .int .u8 (q.b.toNat : Int), .int .u8 (q.a.toNat : Int)]) := unhide HV
    clear HV
    clear HR Hbp Hbc HbF bc2 l1 l2 l3 HKR
    go_wp2
    refine bodyPost_ret (v := .agg #[.int .u8 (q.r.toNat : Int), .int .u8 (q.g.toNat : Int), .int .u8 (q.b.toNat : Int), .int .u8 (q.a.toNat : Int)]) ?_ rfl ⟨by rw [unhide HV2], ?_⟩
    · rw [results_cellP (p := 7) (ty := 23) (by kernel_rfl)]
      go_simp
    · rw [← unhide HBE]
      exact ((((unhide HB2).setCell (p := ⟨B, 0, none⟩) (Nat.le_refl _) _).setCell (p := ⟨B, 1, none⟩) (Nat.le_refl _) _).setCell (p := ⟨B, 2, none⟩) (Nat.le_refl _) _).setCell (p := ⟨B, 3, none⟩) (Nat.le_refl _) _

set_option maxHeartbeats 4000000 in
set_option maxRecDepth 100000 in
theorem painted_any (W H F : Nat) (fst caps : Array Value) (a : Option Addr) (n c : Nat) (p : Nat → Px) (q : Px) (M : Nat → Nat → Bool) (w : World) (hP : IsPx w a n p) (hW0 : 1 ≤ W) (hW : W ≤ 256) (hH : H ≤ 256) (hn : n = W * H)
    (hcf : ∀ args w, Sem.run Tryd.prog (callFunc F args) w = .ok (.enter F args) w)
    (hT : ∀ x y wr, x < W → y < H → Below w.heap.size w wr → Calls Tryd.prog F (fst ++ (#[.int .i64 (x : Int), .int .i64 (y : Int)] ++ caps)) wr fun e w' => e = .returned (.bool (M x y)) ∧ Below wr.heap.size wr w') :
    Calls Tryd.prog 48 #[.agg #[.int .i64 (W : Int), .int .i64 (H : Int), .slice a n c], q.val, .func (.func F) fst caps] w fun e w' => ∃ a2 c2, e = .returned (.agg #[.int .i64 (W : Int), .int .i64 (H : Int), .slice a2 (W * H) c2]) ∧ IsPxN w.heap.size w' a2 (W * H) (grid W fun x y => if M x y then q else p (y * W + x)) ∧ Below w.heap.size w w' := by
  have HA := hide (al4 w (picO W H a n c) (pixO q) (.cells #[.func (.func F) fst caps] 65) z3Obj)
  have HM : Hid (∀ w4, Al4 w w4 (picO W H a n c) (pixO q) (.cells #[.func (.func F) fst caps] 65) z3Obj w.heap.size → Calls Tryd.prog 41 #[.int .i64 (W : Int), .int .i64 (H : Int), .func (.func 75) #[] #[.pointer (some ⟨w.heap.size + 2, 0, none⟩), .pointer (some ⟨w.heap.size + 1, 0, none⟩), .pointer (some ⟨w.heap.size, 0, none⟩)]] w4 fun e w' => ∃ a2 c2, e = .returned (.agg #[.int .i64 (W : Int), .int .i64 (H : Int), .slice a2 (W * H) c2]) ∧ IsPxN w4.heap.size w' a2 (W * H) (grid W fun x y => if M x y then q else p (y * W + x)) ∧ Below w4.heap.size w4 w') := fun w4 h4 => by
    have hs := h4.size
    refine made_any W H 75 _ _ w4 hW0 hW hH (fun args w => by go_simp) (fun x y wr hx hy hb => ?_)
    have hb0 : Below w.heap.size w wr := h4.below.trans (hb.mono (by omega))
    exact paintedC_any W H F (w.heap.size + 2) (w.heap.size + 1) w.heap.size fst caps a n c p q (M x y) x y wr (hP.below hb0) hW hH hx hy hn (blk_below h4.k2 hb (by omega)) (blk_below h4.k1 hb (by omega)) (blk_below h4.k0 hb (by omega)) hcf (fun wq hq => hT x y wq hx hy (hb0.trans (hq.mono hb0.size)))
  have hmf : ∀ (fn : Fn) (first cap : Array Value) (w : World), (Instr.makeFunc fn first cap).run Tryd.prog w = .ok (.func fn first cap) w := fun _ _ _ _ => rfl
  have HN : Hid (n = W * H) := hn
  unfold picO pixO z3Obj at HA HM
  unfold Px.val
  obtain ⟨B, hB⟩ : ∃ B, B = w.heap.size := ⟨_, rfl⟩
  clear hT hP hn
  go_enter Tryd.func48, Tryd.ntmps48
  go_wp2_with fail
  refine (unhide HM _ (unhide HA)).mono ?_
  generalize (((w.alloc (.cells #[.int .i64 (W : Int), .int .i64 (H : Int), .slice a n c] 26)).alloc (.cells #[.int .u8 (q.r.toNat : Int), .int .u8 (q.g.toNat : Int), .int .u8 (q.b.toNat : Int), .int .u8 (q.a.toNat : Int)] 23)).alloc (.cells #[.func (.func F) fst caps] 65)).alloc (.cells #[.int .i64 0, .int .i64 0, .slice none 0 0] 26) = w4 at *
  rw [← hB] at HA ⊢
  obtain ⟨hs4, _, _, _, k3, hb4⟩ := unhide HA
  rintro e w5 ⟨a2, c2, rfl, hpx, hb5⟩
  have hs5 := hb5.size
  have kr := blk_below k3 hb5 (by omega)
  have r0 := blk_frozen kr 0
  have r1 := blk_frozen kr 1
  have r2 := blk_frozen kr 2
  have s0 : w5.cell? ⟨B + 3, 0, none⟩ = some (.int .i64 0) := blk_cell kr 0
  have s1 : w5.cell? ⟨B + 3, 1, none⟩ = some (.int .i64 0) := blk_cell kr 1
  have s2 : w5.cell? ⟨B + 3, 2, none⟩ = some (.slice none 0 0) := blk_cell kr 2
  have hl : B + 3 < w5.heap.size := by omega
  have HB5 := hide (hb4.trans (hb5.mono (by omega)))
  rw [hs4] at hpx
  have HPX := hide (fun u1 u2 u3 : Value => ((hpx.far (j := 0) (show B + 3 < B + 4 by omega) u1).far (j := 1) (show B + 3 < B + 4 by omega) u2).far (j := 2) (show B + 3 < B + 4 by omega) u3)
  have HBE := hide hB
  obtain ⟨N, hN⟩ : ∃ N, N = W * H := ⟨_, rfl⟩
  clear kr k3 hs4 hs5 hb4 hb5 hB HA HM hpx hN
  go_wp2
  refine bodyPost_ret (v := .agg #[.int .i64 (W : Int), .int .i64 (H : Int), .slice a2 (W * H) c2]) ?_ rfl ⟨a2, c2, rfl, ?_, ?_⟩
  · rw [results_cellP (p := 6) (ty := 26) (by kernel_rfl)]
    go_simp
  · rw [← unhide HBE]
    exact ⟨(unhide HPX _ _ _).is, fun q e => Nat.le_trans (Nat.le_add_right B 4) ((unhide HPX (.int .i64 0) (.int .i64 0) (.int .i64 0)).new q e)⟩
  · rw [← unhide HBE]
    exact (((unhide HB5).setCell (p := ⟨B + 3, 0, none⟩) (by show B ≤ B + 3; omega) _).setCell (p := ⟨B + 3, 1, none⟩) (by show B ≤ B + 3; omega) _).setCell (p := ⟨B + 3, 2, none⟩) (by show B ≤ B + 3; omega) _
end Go.Proofs.YtjhnneplknhmkahDoor
