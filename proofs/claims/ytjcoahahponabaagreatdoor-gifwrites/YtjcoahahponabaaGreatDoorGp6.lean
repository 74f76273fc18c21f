/- Moving pictures: how a frame is told. Written by gengp6.py. -/
import Derived.Test.YtjcoahahponabaaGreatDoorMg19
import Derived.Test.YtjcoahahponabaaGreatDoorMg12
import Derived.Test.YtjcoahahponabaaGreatDoorMg20
import Derived.Deep.RegionHeld
namespace Go.Proofs.YtjcoahahponabaaGreatDoor
open Go.RowKit

theorem far5 (w : World) (k b o : Nat) (v0 v1 v2 v3 v4 : Value) (h : k ≠ b) : (((((w.setCell ⟨k, 0, none⟩ v0).setCell ⟨k, 1, none⟩ v1).setCell ⟨k, 2, none⟩ v2).setCell ⟨k, 3, none⟩ v3).setCell ⟨k, 4, none⟩ v4).cell? ⟨b, o, none⟩ = w.cell? ⟨b, o, none⟩ := by
  rw [World.cell?_setCell_far _ _ _ _ h, World.cell?_setCell_far _ _ _ _ h, World.cell?_setCell_far _ _ _ _ h, World.cell?_setCell_far _ _ _ _ h, World.cell?_setCell_far _ _ _ _ h]
theorem set5_below {B k : Nat} {w0 w : World} (h : Below B w0 w) (hk : B ≤ k) (v0 v1 v2 v3 v4 : Value) : Below B w0 (((((w.setCell ⟨k, 0, none⟩ v0).setCell ⟨k, 1, none⟩ v1).setCell ⟨k, 2, none⟩ v2).setCell ⟨k, 3, none⟩ v3).setCell ⟨k, 4, none⟩ v4) :=
  ((((h.setCell (p := ⟨k, 0, none⟩) hk _).setCell (p := ⟨k, 1, none⟩) hk _).setCell (p := ⟨k, 2, none⟩) hk _).setCell (p := ⟨k, 3, none⟩) hk _).setCell (p := ⟨k, 4, none⟩) hk _
theorem set5_heap (w : World) (k b : Nat) (v0 v1 v2 v3 v4 : Value) (h : b ≠ k) : (((((w.setCell ⟨k, 0, none⟩ v0).setCell ⟨k, 1, none⟩ v1).setCell ⟨k, 2, none⟩ v2).setCell ⟨k, 3, none⟩ v3).setCell ⟨k, 4, none⟩ v4).heap[b]? = w.heap[b]? := by
  rw [Below.heap_setCell _ _ _ _ h, Below.heap_setCell _ _ _ _ h, Below.heap_setCell _ _ _ _ h, Below.heap_setCell _ _ _ _ h, Below.heap_setCell _ _ _ _ h]
theorem ulk_one (p : Nat → Px) {n : Nat} (h : 1 ≤ n) : 1 ≤ (ulk p n).length := by
  have := ulk_has p (show 0 < n by omega)
  cases e : ulk p n with
  | nil => rw [e] at this; simp at this
  | cons x l => simp
theorem nmL_lt (p : Nat → Px) (n : Nat) : ∀ x, x ∈ nmL p n → x < (ulk p n).length := fun x hx => by
  obtain ⟨i, hi, rfl⟩ := List.mem_map.1 hx
  exact nmb_lt p (List.mem_range.1 hi)

set_option maxHeartbeats 8000000 in
set_option maxRecDepth 100000 in
theorem frameOf_any (f g : Fr) (a : Option Addr) (c : Nat) (w : World) (aS : Nat → Addr) (hS : Told w [1, 2, 6] aS) (hP : IsPx w a f.n f.q) (hOK : RightP f.W f.H f.n ∧ f.W = g.W ∧ f.H = g.H) (hd : 0 ≤ f.d ∧ f.d ≤ 65535) :
    Calls Tryz.prog 59 #[.agg #[.int .i64 f.W, .int .i64 f.H, .slice a f.n c, .int .i64 f.d]] w fun e w' => ((frE f g = 0 ∧ ∃ a1 c1 a2 c2, e = .returned (.tuple #[.agg #[.int .i64 (f.tf.W : Int), .int .i64 (f.tf.H : Int), .int .i64 (f.tf.d : Int), .slice a1 f.tf.U.length c1, .slice a2 f.tf.N.length c2], .nilIface]) ∧ (⟨f.tf, a1, c1, a2, c2⟩ : TfV).in w' ∧ (∀ x, a1 = some x → w.heap.size ≤ x.block) ∧ (∀ x, a2 = some x → w.heap.size ≤ x.block)) ∨
      (frE f g ≠ 0 ∧ e = .returned (.tuple #[.agg #[.int .i64 0, .int .i64 0, .int .i64 0, .slice none 0 0, .slice none 0 0], sentV aS (frE f g - 1)]))) ∧ Below w.heap.size w w' := by
  have HA := hide (al2 w (.cells #[.int .i64 f.W, .int .i64 f.H, .slice a f.n c, .int .i64 f.d] 92) (.cells #[.int .i64 0, .int .i64 0, .int .i64 0, .slice none 0 0, .slice none 0 0] 98))
  have HQ := hide (fun wr (hb : Below w.heap.size w wr) => hP.below hb)
  have HT := hide (fun wr (hb : Below w.heap.size w wr) => hS.below hb)
  have HRi := hide hOK.1
  have HOK := hide hOK
  have HDO := hide hd
  have hn := right_few hOK.1
  have HL6 : Hid (3 < w.heap.size) := World.block_lt_of_cell? _ _ (hS 6 (by simp))
  obtain ⟨t6, v6, e6⟩ : ∃ t v, sentV aS 6 = .iface t v := ⟨_, _, rfl⟩
  have HS6 := hide e6
  have HG6 : Hid (∀ wr, Below w.heap.size w wr → wr.cell? ⟨3, 0, none⟩ = some (.iface t6 v6)) := fun wr hb => by rw [← e6]; exact (hS.below hb) 6 (by simp)
  clear e6 hS hP hOK hd
  obtain ⟨B, hB⟩ : ∃ B, B = w.heap.size := ⟨_, rfl⟩
  go_enter Tryz.func59, Tryz.ntmps59
  go_wp2_with fail
  generalize (w.alloc (.cells #[.int .i64 f.W, .int .i64 f.H, .slice a f.n c, .int .i64 f.d] 92)).alloc (.cells #[.int .i64 0, .int .i64 0, .int .i64 0, .slice none 0 0, .slice none 0 0] 98) = w3 at *
  rw [← hB] at HA HQ HT HL6 HG6 ⊢
  obtain ⟨hs1, k0, k1, hb1⟩ := unhide HA
  have HBE := hide hB
  have K0 := hide k0
  have K1 := hide k1
  have HB := hide hb1
  have hz : B + 2 ≤ w3.heap.size := by omega
  clear HA hB k0 k1 hb1 hs1
  have c00 : w3.cell? ⟨B, 0, none⟩ = some (.int .i64 f.W) := blk_cell (unhide K0) 0
  have c01 : w3.cell? ⟨B, 1, none⟩ = some (.int .i64 f.H) := blk_cell (unhide K0) 1
  have c02 : w3.cell? ⟨B, 2, none⟩ = some (.slice a f.n c) := blk_cell (unhide K0) 2
  have c03 : w3.cell? ⟨B, 3, none⟩ = some (.int .i64 f.d) := blk_cell (unhide K0) 3
  have c10 : w3.cell? ⟨B + 1, 0, none⟩ = some (.int .i64 0) := blk_cell (unhide K1) 0
  have c11 : w3.cell? ⟨B + 1, 1, none⟩ = some (.int .i64 0) := blk_cell (unhide K1) 1
  have c12 : w3.cell? ⟨B + 1, 2, none⟩ = some (.int .i64 0) := blk_cell (unhide K1) 2
  have c13 : w3.cell? ⟨B + 1, 3, none⟩ = some (.slice none 0 0) := blk_cell (unhide K1) 3
  have c14 : w3.cell? ⟨B + 1, 4, none⟩ = some (.slice none 0 0) := blk_cell (unhide K1) 4
  have f0 := blk_frozen (unhide K1) 0
  have f1 := blk_frozen (unhide K1) 1
  have f2 := blk_frozen (unhide K1) 2
  have f3 := blk_frozen (unhide K1) 3
  have f4 := blk_frozen (unhide K1) 4
  have HAl := hide (allOr_any f.W f.H a f.n c f.q w3 (unhide HQ _ (unhide HB)) (by omega))
  refine (unhide HAl).mono ?_
  rintro e w4 ⟨hr, hb4⟩
  clear HAl HQ c00 c01 c02 c03 c10 c11 c12 c13 c14 f0 f1 f2 f3 f4
  have hzz := hb4.size
  have K0 := hide (blk_below (unhide K0) hb4 (by omega))
  have K1 := hide (blk_below (unhide K1) hb4 (by omega))
  have HB := hide ((unhide HB).trans (hb4.mono (by omega)))
  have hz : B + 2 ≤ w4.heap.size := by omega
  clear hb4 hzz
  have HRr := hide hr
  clear hr
  rcases unhide HRr with ⟨hAN, a2, c2, rfl, hp4⟩ | ⟨hAN, rfl⟩
  rotate_left
  · have HW : Hid (frE f g = 7) := frE_colors (unhide HOK) (unhide HDO) (fun q => hAN q.1)
    clear hAN HT HOK HRi hn HDO HRr
    have HAp := hide (al1 w4 (.cells #[.int .i64 0, .int .i64 0, .slice none 0 0] 27))
    go_upto_region 3 with fail
    generalize w4.alloc (.cells #[.int .i64 0, .int .i64 0, .slice none 0 0] 27) = w5 at *
    obtain ⟨hs5, k5, hb5⟩ := unhide HAp
    clear HAp hs5 k5
    have hzz := hb5.size
    have K0 := hide (blk_below (unhide K0) hb5 (by omega))
    have K1 := hide (blk_below (unhide K1) hb5 (by omega))
    have HB := hide ((unhide HB).trans (hb5.mono (by omega)))
    have hz : B + 2 ≤ w5.heap.size := by omega
    clear hb5 hzz
    have c00 : w5.cell? ⟨B, 0, none⟩ = some (.int .i64 f.W) := blk_cell (unhide K0) 0
    have c01 : w5.cell? ⟨B, 1, none⟩ = some (.int .i64 f.H) := blk_cell (unhide K0) 1
    have c02 : w5.cell? ⟨B, 2, none⟩ = some (.slice a f.n c) := blk_cell (unhide K0) 2
    have c03 : w5.cell? ⟨B, 3, none⟩ = some (.int .i64 f.d) := blk_cell (unhide K0) 3
    have c10 : w5.cell? ⟨B + 1, 0, none⟩ = some (.int .i64 0) := blk_cell (unhide K1) 0
    have c11 : w5.cell? ⟨B + 1, 1, none⟩ = some (.int .i64 0) := blk_cell (unhide K1) 1
    have c12 : w5.cell? ⟨B + 1, 2, none⟩ = some (.int .i64 0) := blk_cell (unhide K1) 2
    have c13 : w5.cell? ⟨B + 1, 3, none⟩ = some (.slice none 0 0) := blk_cell (unhide K1) 3
    have c14 : w5.cell? ⟨B + 1, 4, none⟩ = some (.slice none 0 0) := blk_cell (unhide K1) 4
    have f0 := blk_frozen (unhide K1) 0
    have f1 := blk_frozen (unhide K1) 1
    have f2 := blk_frozen (unhide K1) 2
    have f3 := blk_frozen (unhide K1) 3
    have f4 := blk_frozen (unhide K1) 4
    have hlr : B + 1 < w5.heap.size := by omega
    have hE := unhide HG6 _ (unhide HB)
    have hg := unhide HL6
    have xne : B + 1 ≠ 3 := by omega
    clear HG6 hg
    go_wp2_with fail
    go_region_held (fun w' => w'.cell? ⟨3, 0, none⟩ = some (.iface t6 v6)) (first | (go_keep; done) | (exact (far5 _ _ _ _ _ _ _ _ _ (by omega)).trans (by simp [*]))) (fail)
    all_goals
      go_wp2
      refine bodyPost_ret (v := .tuple #[.agg #[.int .i64 0, .int .i64 0, .int .i64 0, .slice none 0 0, .slice none 0 0], .iface t6 v6]) ?_ rfl ⟨.inr ⟨by rw [unhide HW]; omega, by rw [unhide HW, unhide HS6]⟩, ?_⟩
      · rw [results_ct (p := 2) (ty := 98) (u := 3) (by kernel_rfl)]
        go_simp
      · rw [← unhide HBE]
        exact (set5_below (unhide HB) (by omega) _ _ _ _ _).drew
  have HP4 := hide hp4
  have hAN' := hAN
  clear hp4 HRr
  have HAp := hide (al1 w4 (.cells #[.int .i64 f.W, .int .i64 f.H, .slice a2 f.n c2] 27))
  have HP5 := hide ((unhide HP4).allocP (.cells #[.int .i64 f.W, .int .i64 f.H, .slice a2 f.n c2] 27))
  have hX : w4.heap.size = w4.heap.size := rfl
  clear hX
  go_upto_region 4 with fail
  generalize w4.alloc (.cells #[.int .i64 f.W, .int .i64 f.H, .slice a2 f.n c2] 27) = w5 at *
  obtain ⟨hs5, k5, hb5⟩ := unhide HAp
  obtain ⟨C, hC⟩ : ∃ C, C = w4.heap.size := ⟨_, rfl⟩
  rw [← hC] at hs5 k5
  have hCB : B + 2 ≤ C := by omega
  have K5 := hide k5
  have HC := hide hC
  clear HAp HP4 k5
  have hzz := hb5.size
  have K0 := hide (blk_below (unhide K0) hb5 (by omega))
  have K1 := hide (blk_below (unhide K1) hb5 (by omega))
  have HB := hide ((unhide HB).trans (hb5.mono (by omega)))
  have hz : B + 2 ≤ w5.heap.size := by omega
  clear hb5 hzz
  have p0 : w5.cell? ⟨w4.heap.size, 0, none⟩ = some (.int .i64 f.W) := by rw [← hC]; exact blk_cell (unhide K5) 0
  have p1 : w5.cell? ⟨w4.heap.size, 1, none⟩ = some (.int .i64 f.H) := by rw [← hC]; exact blk_cell (unhide K5) 1
  have p2 : w5.cell? ⟨w4.heap.size, 2, none⟩ = some (.slice a2 f.n c2) := by rw [← hC]; exact blk_cell (unhide K5) 2
  have hE0 : cE f.W f.H f.n 256 = 0 := cE_right (unhide HRi) (by omega) (by omega)
  by_cases hK : (ulk (clQ f.q) f.n).length ≤ 256
  rotate_left
  · have HW : Hid (frE f g = 7) := frE_colors (unhide HOK) (unhide HDO) (fun q => hK q.2)
    have HEx := hide (exact_many f.W f.H a2 f.n c2 (clQ f.q) 256 w5 aS (unhide HT _ (unhide HB)) (unhide HP5) (by omega) hE0 (by omega))
    rw [unhide HS6] at HEx
    clear hE0 hK HT HOK HDO HRi HP5 hAN hAN' HG6 HL6
    go_wp2_with fail
    refine (unhide HEx).mono ?_
    rintro e w6 ⟨rfl, hb6⟩
    clear HEx p0 p1 p2
    have hzz := hb6.size
    have K0 := hide (blk_below (unhide K0) hb6 (by omega))
    have K1 := hide (blk_below (unhide K1) hb6 (by omega))
    have HB := hide ((unhide HB).trans (hb6.mono (by omega)))
    have hz : B + 2 ≤ w6.heap.size := by omega
    clear hb6 hzz
    have c00 : w6.cell? ⟨B, 0, none⟩ = some (.int .i64 f.W) := blk_cell (unhide K0) 0
    have c01 : w6.cell? ⟨B, 1, none⟩ = some (.int .i64 f.H) := blk_cell (unhide K0) 1
    have c02 : w6.cell? ⟨B, 2, none⟩ = some (.slice a f.n c) := blk_cell (unhide K0) 2
    have c03 : w6.cell? ⟨B, 3, none⟩ = some (.int .i64 f.d) := blk_cell (unhide K0) 3
    have c10 : w6.cell? ⟨B + 1, 0, none⟩ = some (.int .i64 0) := blk_cell (unhide K1) 0
    have c11 : w6.cell? ⟨B + 1, 1, none⟩ = some (.int .i64 0) := blk_cell (unhide K1) 1
    have c12 : w6.cell? ⟨B + 1, 2, none⟩ = some (.int .i64 0) := blk_cell (unhide K1) 2
    have c13 : w6.cell? ⟨B + 1, 3, none⟩ = some (.slice none 0 0) := blk_cell (unhide K1) 3
    have c14 : w6.cell? ⟨B + 1, 4, none⟩ = some (.slice none 0 0) := blk_cell (unhide K1) 4
    have f0 := blk_frozen (unhide K1) 0
    have f1 := blk_frozen (unhide K1) 1
    have f2 := blk_frozen (unhide K1) 2
    have f3 := blk_frozen (unhide K1) 3
    have f4 := blk_frozen (unhide K1) 4
    have hlr : B + 1 < w6.heap.size := by omega
    go_wp2
    refine bodyPost_ret (v := .tuple #[.agg #[.int .i64 0, .int .i64 0, .int .i64 0, .slice none 0 0, .slice none 0 0], .iface t6 v6]) ?_ rfl ⟨.inr ⟨by rw [unhide HW]; omega, by rw [unhide HW, unhide HS6]⟩, ?_⟩
    · rw [results_ct (p := 2) (ty := 98) (u := 3) (by kernel_rfl)]
      go_simp
    · rw [← unhide HBE]
      exact set5_below (unhide HB) (by omega) _ _ _ _ _
  have HW : Hid (frE f g = 0) := frE_ok (unhide HOK) (unhide HDO) ⟨hAN, hK⟩
  have HEx := hide (exact_new f.W f.H a2 f.n c2 (clQ f.q) 256 w5 aS ((unhide HT _ (unhide HB)).sub (by simp)) (unhide HP5) (by omega) hE0 (by omega))
  have HKK := hide hK
  clear hE0 hK HT HP5 hAN hAN' HG6 HL6  HS6
  go_wp2_with fail
  refine (unhide HEx).mono ?_
  rintro e w6 ⟨x1, y1, x2, y2, rfl, hnew, hpx, hnm, hb6⟩
  have HPX := hide hpx
  have HNB : Hid (∀ gq, x2 = some ⟨gq, 0, none⟩ → B + 2 ≤ gq) := fun gq e => by obtain ⟨g2, e2, h2, _⟩ := own_some hnm hn.2; rw [e2] at e; injection e with e; injection e with e; omega
  have HN1 : Hid (∀ x, x1 = some x → B ≤ x.block) := fun x e => by have := hnew x e; omega
  have HN2 : Hid (∀ x, x2 = some x → B ≤ x.block) := fun x e => by obtain ⟨g2, e2, h2, _⟩ := own_some hnm hn.2; rw [e2] at e; injection e with e; subst e; show B ≤ g2; omega
  have HNM := hide (own_nm hnm (nmL_length (clQ f.q) f.n) hn.2)
  have K6 := hide (blk_below (unhide K5) hb6 (by omega))
  clear HEx p0 p1 p2 K5 hpx hnm hnew
  have hzz := hb6.size
  have K0 := hide (blk_below (unhide K0) hb6 (by omega))
  have K1 := hide (blk_below (unhide K1) hb6 (by omega))
  have HB := hide ((unhide HB).trans (hb6.mono (by omega)))
  have hz : B + 2 ≤ w6.heap.size := by omega
  clear hb6 hzz
  have c00 : w6.cell? ⟨B, 0, none⟩ = some (.int .i64 f.W) := blk_cell (unhide K0) 0
  have c01 : w6.cell? ⟨B, 1, none⟩ = some (.int .i64 f.H) := blk_cell (unhide K0) 1
  have c02 : w6.cell? ⟨B, 2, none⟩ = some (.slice a f.n c) := blk_cell (unhide K0) 2
  have c03 : w6.cell? ⟨B, 3, none⟩ = some (.int .i64 f.d) := blk_cell (unhide K0) 3
  have c10 : w6.cell? ⟨B + 1, 0, none⟩ = some (.int .i64 0) := blk_cell (unhide K1) 0
  have c11 : w6.cell? ⟨B + 1, 1, none⟩ = some (.int .i64 0) := blk_cell (unhide K1) 1
  have c12 : w6.cell? ⟨B + 1, 2, none⟩ = some (.int .i64 0) := blk_cell (unhide K1) 2
  have c13 : w6.cell? ⟨B + 1, 3, none⟩ = some (.slice none 0 0) := blk_cell (unhide K1) 3
  have c14 : w6.cell? ⟨B + 1, 4, none⟩ = some (.slice none 0 0) := blk_cell (unhide K1) 4
  have f0 := blk_frozen (unhide K1) 0
  have f1 := blk_frozen (unhide K1) 1
  have f2 := blk_frozen (unhide K1) 2
  have f3 := blk_frozen (unhide K1) 3
  have f4 := blk_frozen (unhide K1) 4
  have p0 : w6.cell? ⟨w4.heap.size, 0, none⟩ = some (.int .i64 f.W) := by rw [← unhide HC]; exact blk_cell (unhide K6) 0
  have p1 : w6.cell? ⟨w4.heap.size, 1, none⟩ = some (.int .i64 f.H) := by rw [← unhide HC]; exact blk_cell (unhide K6) 1
  have p2 : w6.cell? ⟨w4.heap.size, 2, none⟩ = some (.slice a2 f.n c2) := by rw [← unhide HC]; exact blk_cell (unhide K6) 2
  have hlr : B + 1 < w6.heap.size := by omega
  have HTV : Hid (∀ wz : World, (∀ k, k ≠ B + 1 → wz.heap[k]? = w6.heap[k]?) → (⟨f.tf, x1, y1, x2, y2⟩ : TfV).in wz) := fun wz hz => by
    have hne : ∀ k off (q : Px), PxAt w6 k off q → k ≠ B + 1 := fun k off q hq e => by
      subst e
      have h0 := hq.r
      rw [blk_cell (unhide K1)] at h0
      rcases off with _ | _ | _ | _ | _ | off <;> simp at h0
    refine ⟨⟨?_, ?_, ?_, unhide HKK, ulk_one _ hn.2, by show (nmL _ _).length ≤ _; rw [nmL_length]; omega, nmL_lt _ _⟩, ?_, ?_⟩
    · have := (unhide HRi).1; show 1 ≤ f.W.toNat ∧ f.W.toNat ≤ 256; omega
    · have := (unhide HRi).2.1; show 1 ≤ f.H.toNat ∧ f.H.toNat ≤ 256; omega
    · have := unhide HDO; show f.d.toNat ≤ 65535; omega
    · rcases unhide HPX with q | ⟨b, off, e, hm, hc⟩
      · exact .inl q
      · exact .inr ⟨b, off, e, hm, fun i hi => (hc i hi).block (hz _ (hne _ _ _ (hc i hi)))⟩
    · obtain ⟨gq, e, hl, hc⟩ := unhide HNM
      by_cases q : gq = B + 1
      · exfalso
        have := unhide HNB gq e
        omega
      · exact ⟨gq, e, by
          rcases Nat.lt_or_ge gq wz.heap.size with h | h
          · exact h
          · have h2 := hz gq q
            rw [Array.getElem?_eq_none h, Array.getElem?_eq_getElem hl] at h2
            simp at h2, fun j hj => by rw [World.cell?_of_block (a := ⟨gq, j, none⟩) (hz gq q)]; exact hc j hj⟩
  have HEW : Hid (((f.tf.W : Nat) : Int) = f.W) := by have := (unhide HRi).1; show ((f.W.toNat : Nat) : Int) = f.W; omega
  have HEH : Hid (((f.tf.H : Nat) : Int) = f.H) := by have := (unhide HRi).2.1; show ((f.H.toNat : Nat) : Int) = f.H; omega
  have HED : Hid (((f.tf.d : Nat) : Int) = f.d) := by have := unhide HDO; show ((f.d.toNat : Nat) : Int) = f.d; omega
  have HEN : Hid (f.tf.N.length = f.n) := nmL_length _ _
  clear HPX HNM HNB K0 K1 HRi HDO HOK HKK hn K6 HC hC
  go_wp2
  refine bodyPost_ret (v := .tuple #[.agg #[.int .i64 f.W, .int .i64 f.H, .int .i64 f.d, .slice x1 (ulk (clQ f.q) f.n).length y1, .slice x2 f.n y2], .nilIface]) ?_ rfl ⟨.inl ⟨unhide HW, x1, y1, x2, y2, ?_, unhide HTV _ (fun k h => set5_heap _ _ _ _ _ _ _ _ h), by rw [← unhide HBE]; exact unhide HN1, by rw [← unhide HBE]; exact unhide HN2⟩, ?_⟩
  · rw [results_ct (p := 2) (ty := 98) (u := 3) (by kernel_rfl)]
    go_simp
  · rw [unhide HEW, unhide HEH, unhide HED, unhide HEN]; rfl
  · rw [← unhide HBE]
    exact set5_below (unhide HB) (by omega) _ _ _ _ _
end Go.Proofs.YtjcoahahponabaaGreatDoor
