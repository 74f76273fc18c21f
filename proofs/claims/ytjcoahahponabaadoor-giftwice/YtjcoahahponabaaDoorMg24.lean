/- Moving pictures: frames of the same pictures are the same: the document's SameFrames. Pictures of one color: the document's. -/
import Derived.Test.YtjcoahahponabaaDoorGpe
import Derived.Test.YtjcoahahponabaaDoorPx1
import Derived.Test.YtjcoahahponabaaDoorMg11
namespace Go.Proofs.YtjcoahahponabaaDoor
open Go.RowKit

/-- Two frames that show the same, as long. -/
def SameF (f g : Fr) : Prop := f.W = g.W ∧ f.H = g.H ∧ f.n = g.n ∧ f.d = g.d ∧ ∀ k, k < f.n → f.q k = g.q k

set_option maxHeartbeats 8000000 in
set_option maxRecDepth 100000 in
theorem sameFrames_any (s t : Option Addr) (n c d : Nat) (V U : Nat → FrV) (w : World) (hR : IsRw w 4 s n (fun i => (V i).cells)) (hT : IsRw w 4 t n (fun i => (U i).cells)) (hV : ∀ i, i < n → (V i).in w) (hU : ∀ i, i < n → (U i).in w)
    (he : ∀ i, i < n → SameF (V i).f (U i).f) (hn : n ≤ 100) (hZ : ∀ i, i < n → (V i).f.n ≤ 100000) :
    Calls Tryd.prog 12 #[.slice s n c, .slice t n d] w fun e w' => e = .returned (.bool true) ∧ Below w.heap.size w w' := by
  have HRW := hide (fun wr (hb : Below w.heap.size w wr) => hR.below hb)
  have HTW := hide (fun wr (hb : Below w.heap.size w wr) => hT.below hb)
  have HVW := hide (fun wr (hb : Below w.heap.size w wr) i (hi : i < n) => (hV i hi).below hb)
  have HUW := hide (fun wr (hb : Below w.heap.size w wr) i (hi : i < n) => (hU i hi).below hb)
  have HE := hide he
  have HZ := hide hZ
  obtain ⟨B, hB⟩ : ∃ B, B = w.heap.size := ⟨_, rfl⟩
  rw [← hB] at HRW HTW HVW HUW ⊢
  have HB0 : Hid (Below B w w) := Below.refl _ _
  have hz0 : B ≤ w.heap.size := by omega
  clear hR hT hV hU he hZ hB
  go_enter Tryd.func12, Tryd.ntmps12
  go_wp2
  go_loopw [5] (fun iv wr => ∃ (i : Nat), i ≤ n ∧ iv = .int .i64 (i : Int) ∧ Hid (Below B w wr) ∧ B ≤ wr.heap.size) (fun iv _ => n - (intOf iv).toNat)
  case atStart => exact ⟨0, by omega, rfl, HB0, hz0⟩
  case round =>
    clear HB0 hz0
    obtain ⟨i, hi, rfl, HB, hz⟩ := hrel
    by_cases hlt : i < n
    · have d1 : decide ((i : Int) < (n : Int)) = true := decide_eq_true (by omega)
      have d1n : decide (i < n) = true := decide_eq_true hlt
      have hii : (i : Int) < (n : Int) := by omega
      obtain ⟨b, off, rfl, _, hc⟩ := (unhide HRW wr (unhide HB)).resolve_left (by omega)
      obtain ⟨b2, off2, rfl, _, hc2⟩ := (unhide HTW wr (unhide HB)).resolve_left (by omega)
      obtain ⟨e1, e2, e3, e4, e5⟩ := unhide HE i hlt
      have hv := hc i hlt
      have hv2 := hc2 i hlt
      have x0 : wr.cell? ⟨b, off + i * 4, none⟩ = some (.int .i64 (V i).f.W) := hv 0 _ rfl
      have x1 : wr.cell? ⟨b, off + i * 4 + 1, none⟩ = some (.int .i64 (V i).f.H) := hv 1 _ rfl
      have x2 : wr.cell? ⟨b, off + i * 4 + 2, none⟩ = some (.slice (V i).a (V i).f.n (V i).c) := hv 2 _ rfl
      have x3 : wr.cell? ⟨b, off + i * 4 + 3, none⟩ = some (.int .i64 (V i).f.d) := hv 3 _ rfl
      have y0 : wr.cell? ⟨b2, off2 + i * 4, none⟩ = some (.int .i64 (V i).f.W) := by rw [e1]; exact hv2 0 _ rfl
      have y1 : wr.cell? ⟨b2, off2 + i * 4 + 1, none⟩ = some (.int .i64 (V i).f.H) := by rw [e2]; exact hv2 1 _ rfl
      have y2 : wr.cell? ⟨b2, off2 + i * 4 + 2, none⟩ = some (.slice (U i).a (V i).f.n (U i).c) := by rw [e3]; exact hv2 2 _ rfl
      have y3 : wr.cell? ⟨b2, off2 + i * 4 + 3, none⟩ = some (.int .i64 (V i).f.d) := by rw [e4]; exact hv2 3 _ rfl
      have HCK := hide (fun wx (hb : Below wr.heap.size wr wx) => samePicture_any (V i).f.W (V i).f.H (V i).a (U i).a (V i).f.n (V i).c (U i).c (V i).f.q wx (((unhide HVW wr (unhide HB) i hlt)).below hb)
        (by have h := ((unhide HUW wr (unhide HB) i hlt)).below hb; unfold FrV.in at h; rw [← e3] at h; exact h.congr (fun k hk => (e5 k hk).symm)) (unhide HZ i hlt))
      have hlb := World.block_lt_of_cell? _ _ x0
      have hlb2 := World.block_lt_of_cell? _ _ y0
      simp only at hlb hlb2
      have hKS := hide (fun wx (h : Below wr.heap.size wr wx) => (⟨bcell h hlb x0, bcell h hlb x1, bcell h hlb x2, bcell h hlb x3, bcell h hlb2 y0, bcell h hlb2 y1, bcell h hlb2 y2, bcell h hlb2 y3⟩ : wx.cell? ⟨b, off + i * 4, none⟩ = some (.int .i64 (V i).f.W) ∧ wx.cell? ⟨b, off + i * 4 + 1, none⟩ = some (.int .i64 (V i).f.H) ∧ wx.cell? ⟨b, off + i * 4 + 2, none⟩ = some (.slice (V i).a (V i).f.n (V i).c) ∧ wx.cell? ⟨b, off + i * 4 + 3, none⟩ = some (.int .i64 (V i).f.d) ∧ wx.cell? ⟨b2, off2 + i * 4, none⟩ = some (.int .i64 (V i).f.W) ∧ wx.cell? ⟨b2, off2 + i * 4 + 1, none⟩ = some (.int .i64 (V i).f.H) ∧ wx.cell? ⟨b2, off2 + i * 4 + 2, none⟩ = some (.slice (U i).a (V i).f.n (U i).c) ∧ wx.cell? ⟨b2, off2 + i * 4 + 3, none⟩ = some (.int .i64 (V i).f.d)))
      have hdr := (Below.refl wr.heap.size wr).drew
      clear hc hc2 hv hv2 e1 e2 e3 e4 e5
      generalize (V i).f.W = fW at *
      generalize (V i).f.H = fH at *
      generalize (V i).f.d = fd at *
      generalize (V i).f.n = fn at *
      generalize (V i).a = fa at *
      generalize (V i).c = fc at *
      generalize (U i).a = ga at *
      generalize (U i).c = gc at *
      go_upto_region 6 with fail
      apply onceE (fun wf => Below wr.heap.size wr wf)
      · intro hrest
        go_wp2_with fail
        go_region_held (fun w' => w'.cell? ⟨b, off + i * 4, none⟩ = some (.int .i64 fW) ∧ w'.cell? ⟨b, off + i * 4 + 1, none⟩ = some (.int .i64 fH) ∧ w'.cell? ⟨b, off + i * 4 + 2, none⟩ = some (.slice fa fn fc) ∧ w'.cell? ⟨b, off + i * 4 + 3, none⟩ = some (.int .i64 fd) ∧ w'.cell? ⟨b2, off2 + i * 4, none⟩ = some (.int .i64 fW) ∧ w'.cell? ⟨b2, off2 + i * 4 + 1, none⟩ = some (.int .i64 fH) ∧ w'.cell? ⟨b2, off2 + i * 4 + 2, none⟩ = some (.slice ga fn gc) ∧ w'.cell? ⟨b2, off2 + i * 4 + 3, none⟩ = some (.int .i64 fd)) (exact unhide hKS _ (by (first | with_reducible exact hq6 | with_reducible exact hdr | with_reducible exact hq6.drew | with_reducible exact Below.refl _ _))) ((go_at_call 9; refine (unhide HCK _ (by (first | with_reducible exact hq6 | with_reducible exact hdr | with_reducible exact hq6.drew | with_reducible exact Below.refl _ _))).mono ?_; rintro e w6 ⟨rfl, hb6⟩; have hq6 := bel_trans (w := wr) (by (first | with_reducible exact hq6 | with_reducible exact hdr | with_reducible exact hq6.drew | with_reducible exact Below.refl _ _)) hb6))
        all_goals exact hrest _ (by (first | with_reducible exact hq6 | with_reducible exact hdr | with_reducible exact hq6.drew | with_reducible exact Below.refl _ _))
      rintro w9 hb9
      have HB9 := hide ((unhide HB).trans (hb9.mono hz))
      have hz9 : B ≤ w9.heap.size := by have := hb9.size; omega
      clear HCK HB hb9 hKS hdr x0 x1 x2 x3 y0 y1 y2 y3
      go_wp2
      go_roundw
      case rel => exact ⟨i + 1, by omega, by go_num, HB9, hz9⟩
      case measure => simp [intOf]; omega
    · obtain rfl : i = n := by omega
      have d1 : decide ((i : Int) < (i : Int)) = false := by simp
      have HBw := hide (unhide HB)
      clear HRW HTW HVW HUW HE HZ
      go_wp2
      go_ret
      exact ⟨rfl, unhide HBw⟩
end Go.Proofs.YtjcoahahponabaaDoor
namespace Go.Proofs.YtjcoahahponabaaDoor
open Go.RowKit

set_option maxHeartbeats 4000000 in
set_option maxRecDepth 100000 in
theorem blankC_any (W H : Nat) (q : Px) (w : World) (hW : W ≤ 256) (hH : H ≤ 256) :
    Calls Tryd.prog 11 #[.int .i64 (W : Int), .int .i64 (H : Int), q.val] w fun e w' => ∃ g, e = .returned (.agg #[.int .i64 (W : Int), .int .i64 (H : Int), .slice (some ⟨g, 0, none⟩) (W * H) (W * H)]) ∧ w.heap.size ≤ g ∧ PR w' g (W * H) (fun _ => q) ∧ Below w.heap.size w w' := by
  have hMb : W * H ≤ 65536 := Nat.mul_le_mul hW hH
  obtain ⟨M, hM⟩ : ∃ M, M = W * H := ⟨_, rfl⟩
  have zM : (W : Int) * (H : Int) = (M : Int) := by rw [hM]; simp
  rw [← hM] at hMb ⊢
  have wM : IntKind.i64.wrap (M : Int) = (M : Int) := by rw [IntKind.wrap_i64]; omega
  have hmk := make_pxn M (by omega)
  have HA := hide (al4 w (.cells #[.int .u8 (q.r.toNat : Int), .int .u8 (q.g.toNat : Int), .int .u8 (q.b.toNat : Int), .int .u8 (q.a.toNat : Int)] 44) (.cells #[.int .i64 0, .int .i64 0, .slice none 0 0] 35) (.cells (madeCells #[.int .u8 0, .int .u8 0, .int .u8 0, .int .u8 0] (M * 4)) 44) (.cells #[.int .i64 (W : Int), .int .i64 (H : Int), .slice (some ⟨w.heap.size + 1 + 1, 0, none⟩) M M] 35))
  have HP : Hid (∀ o0 o1 o3, PR ((((w.alloc o0).alloc o1).alloc (.cells (madeCells #[.int .u8 0, .int .u8 0, .int .u8 0, .int .u8 0] (M * 4)) 44)).alloc o3) (w.heap.size + 1 + 1) M (fun _ => px0)) := fun o0 o1 o3 => by
    have h := made_PR ((w.alloc o0).alloc o1) M
    have e : ((w.alloc o0).alloc o1).heap.size = w.heap.size + 1 + 1 := by simp
    rw [e] at h
    exact h.block (Below.heap_alloc _ _ _ h.lt)
  unfold Px.val
  obtain ⟨B, hB⟩ : ∃ B, B = w.heap.size := ⟨_, rfl⟩
  clear hM
  go_enter Tryd.func11, Tryd.ntmps11
  go_wp2
  have HP2 := hide (unhide HP (.cells #[.int .u8 (q.r.toNat : Int), .int .u8 (q.g.toNat : Int), .int .u8 (q.b.toNat : Int), .int .u8 (q.a.toNat : Int)] 44) (.cells #[.int .i64 0, .int .i64 0, .slice none 0 0] 35) (.cells #[.int .i64 (W : Int), .int .i64 (H : Int), .slice (some ⟨w.heap.size + 1 + 1, 0, none⟩) M M] 35))
  clear HP hmk
  generalize (((w.alloc (.cells #[.int .u8 (q.r.toNat : Int), .int .u8 (q.g.toNat : Int), .int .u8 (q.b.toNat : Int), .int .u8 (q.a.toNat : Int)] 44)).alloc (.cells #[.int .i64 0, .int .i64 0, .slice none 0 0] 35)).alloc (.cells (madeCells #[.int .u8 0, .int .u8 0, .int .u8 0, .int .u8 0] (M * 4)) 44)).alloc (.cells #[.int .i64 (W : Int), .int .i64 (H : Int), .slice (some ⟨w.heap.size + 1 + 1, 0, none⟩) M M] 35) = w4 at *
  rw [← hB] at HA HP2 ⊢
  obtain ⟨hs4, k0, k1, _, k3, hb4⟩ := unhide HA
  have HBE := hide hB
  have K0 := hide k0
  have K1 := hide k1
  have K3 := hide k3
  have HB4 := hide hb4
  clear HA hB k0 k1 k3 hb4 hs4
  go_loopw [8] (fun iv wr => ∃ (i : Nat) (p : Nat → Px), i ≤ M ∧ iv = .int .i64 (i : Int) ∧ Hid (PR wr (B + 1 + 1) M p) ∧ Hid (∀ j, j < i → p j = q) ∧ Hid (Below B w wr) ∧ Hid (wr.heap[B]? = some (.cells #[.int .u8 (q.r.toNat : Int), .int .u8 (q.g.toNat : Int), .int .u8 (q.b.toNat : Int), .int .u8 (q.a.toNat : Int)] 44)) ∧ Hid (wr.heap[B + 1]? = some (.cells #[.int .i64 0, .int .i64 0, .slice none 0 0] 35)) ∧ Hid (wr.heap[B + 3]? = some (.cells #[.int .i64 (W : Int), .int .i64 (H : Int), .slice (some ⟨B + 1 + 1, 0, none⟩) M M] 35))) (fun iv _ => M - (intOf iv).toNat)
  case atStart => exact ⟨0, _, by omega, rfl, HP2, fun j hj => by omega, HB4, K0, K1, K3⟩
  case round =>
    clear HP2 HB4 K0 K1 K3
    obtain ⟨i, p, hi, rfl, HP, HQ, HB, K0, K1, K3⟩ := hrel
    have c30 : wr.cell? ⟨B + 3, 0, none⟩ = some (.int .i64 (W : Int)) := blk_cell (unhide K3) 0
    have c31 : wr.cell? ⟨B + 3, 1, none⟩ = some (.int .i64 (H : Int)) := blk_cell (unhide K3) 1
    have c32 : wr.cell? ⟨B + 3, 2, none⟩ = some (.slice (some ⟨B + 1 + 1, 0, none⟩) M M) := blk_cell (unhide K3) 2
    by_cases hlt : i < M
    · have d1 : decide ((i : Int) < (M : Int)) = true := by simp; omega
      have d1n : decide (i < M) = true := decide_eq_true hlt
      have c0 : wr.cell? ⟨B, 0, none⟩ = some (.int .u8 (q.r.toNat : Int)) := blk_cell (unhide K0) 0
      have c1 : wr.cell? ⟨B, 1, none⟩ = some (.int .u8 (q.g.toNat : Int)) := blk_cell (unhide K0) 1
      have c2 : wr.cell? ⟨B, 2, none⟩ = some (.int .u8 (q.b.toNat : Int)) := blk_cell (unhide K0) 2
      have c3 : wr.cell? ⟨B, 3, none⟩ = some (.int .u8 (q.a.toNat : Int)) := blk_cell (unhide K0) 3
      obtain ⟨t0, t1, t2, t3⟩ := (unhide HP).px i hlt
      have f0 := (unhide HP).fr (i * 4)
      have f1 := (unhide HP).fr (i * 4 + 1)
      have f2 := (unhide HP).fr (i * 4 + 2)
      have f3 := (unhide HP).fr (i * 4 + 3)
      have hiM : (i : Int) < (M : Int) := by omega
      go_wp2
      go_roundw
      case rel =>
        refine ⟨i + 1, updP p i q, by omega, by go_num, (unhide HP).put hlt q, ?_, put4_below (unhide HB) (by omega) q, (put4_far _ _ _ _ _ (by omega)).trans (unhide K0), (put4_far _ _ _ _ _ (by omega)).trans (unhide K1), (put4_far _ _ _ _ _ (by omega)).trans (unhide K3)⟩
        intro j hj
        unfold updP
        by_cases e : j = i
        · rw [if_pos e]
        · rw [if_neg e]; exact unhide HQ j (by omega)
      case measure => simp [intOf]; omega
    · obtain rfl : i = M := by omega
      have d1 : decide ((i : Int) < (i : Int)) = false := by simp
      have r0 := blk_frozen (unhide K1) 0
      have r1 := blk_frozen (unhide K1) 1
      have r2 := blk_frozen (unhide K1) 2
      have s0 : wr.cell? ⟨B + 1, 0, none⟩ = some (.int .i64 0) := blk_cell (unhide K1) 0
      have s1 : wr.cell? ⟨B + 1, 1, none⟩ = some (.int .i64 0) := blk_cell (unhide K1) 1
      have s2 : wr.cell? ⟨B + 1, 2, none⟩ = some (.slice none 0 0) := blk_cell (unhide K1) 2
      have hl : B + 1 < wr.heap.size := blk_lt (unhide K1)
      have HF := hide (((unhide HP).congr (q := fun _ => q) (fun j hj => unhide HQ j hj)))
      clear K0 K1 K3 HP HQ
      go_wp2
      refine bodyPost_ret (v := .agg #[.int .i64 (W : Int), .int .i64 (H : Int), .slice (some ⟨B + 1 + 1, 0, none⟩) i i]) ?_ rfl ⟨B + 1 + 1, rfl, ?_, ?_, ?_⟩
      · rw [results_cellP (p := 6) (ty := 35) (by kernel_rfl)]
        go_simp
      · rw [← unhide HBE]; omega
      · exact (unhide HF).block (by rw [Below.heap_setCell _ _ _ _ (by show B + 1 + 1 ≠ B + 1; omega), Below.heap_setCell _ _ _ _ (by show B + 1 + 1 ≠ B + 1; omega), Below.heap_setCell _ _ _ _ (by show B + 1 + 1 ≠ B + 1; omega)])
      · rw [← unhide HBE]
        exact (((unhide HB).setCell (p := ⟨B + 1, 0, none⟩) (by show B ≤ B + 1; omega) _).setCell (p := ⟨B + 1, 1, none⟩) (by show B ≤ B + 1; omega) _).setCell (p := ⟨B + 1, 2, none⟩) (by show B ≤ B + 1; omega) _
theorem blankP_any (W H : Nat) (q : Px) (w : World) (hW : W ≤ 256) (hH : H ≤ 256) :
    Calls Tryd.prog 11 #[.int .i64 (W : Int), .int .i64 (H : Int), q.val] w fun e w' => ∃ g c, e = .returned (.agg #[.int .i64 (W : Int), .int .i64 (H : Int), .slice (some ⟨g, 0, none⟩) (W * H) c]) ∧ w.heap.size ≤ g ∧ PR w' g (W * H) (fun _ => q) ∧ Below w.heap.size w w' := by
  refine (blankC_any W H q w hW hH).mono ?_
  rintro e w' ⟨g, h⟩
  exact ⟨g, _, h⟩
end Go.Proofs.YtjcoahahponabaaDoor
