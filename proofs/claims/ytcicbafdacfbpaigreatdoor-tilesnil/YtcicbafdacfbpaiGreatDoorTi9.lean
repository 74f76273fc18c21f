/- The picture of a grid: the program's. -/
import Derived.Test.YtcicbafdacfbpaiGreatDoorTi8
namespace Go.Proofs.YtcicbafdacfbpaiGreatDoor
open Go.RowKit

/-- The picture on which the first k tiles have been put. -/
def picT (W H : Nat) (m : Nat → Nat) (q : Nat → Nat → Px) : Nat → Nat → Px
  | 0 => fun _ => px0
  | k + 1 => putT W (tx W k) (ty W k) (tw W k) (tval (m k) (tw W k) (q k)) (picT W H m q k) (th W H k) 0
/-- What several orders lead to, shown once. -/
theorem onceT {G0 : Prop} {G : World → Nat → Nat → Prop} (F : World → Nat → Nat → Prop) (h : (∀ w b g, F w b g → G w b g) → G0) (r : ∀ w b g, F w b g → G w b g) : G0 := h r
/-- What is known when the tiles are put on the picture. -/
structure PicIn (w w' : World) (B bp g W H N : Nat) : Prop where
  hbp : B ≤ bp
  hg : B ≤ g
  ne : bp ≠ g
  pic : w'.heap[bp]? = some (.cells #[.int .i64 (W : Int), .int .i64 (H : Int), .slice (some ⟨g, 0, none⟩) N N] 24)
  row : PR w' g N (fun _ => px0)
  below : Below B w w'
  size : B ≤ w'.heap.size

theorem picIn_a (w : World) (b W H N : Nat) (hs : w.heap.size = b) : PicIn w (((w.alloc (.cells (madeCells #[.int .u8 0, .int .u8 0, .int .u8 0, .int .u8 0] (N * 4)) 39)).alloc (.cells #[.int .i64 (W : Int), .int .i64 (H : Int), .slice (some ⟨b, 0, none⟩) N N] 24)).drew) b (b + 1) b W H N := by
  subst hs
  have h := al2 w (.cells (madeCells #[.int .u8 0, .int .u8 0, .int .u8 0, .int .u8 0] (N * 4)) 39) (.cells #[.int .i64 (W : Int), .int .i64 (H : Int), .slice (some ⟨w.heap.size, 0, none⟩) N N] 24)
  have hr := (made_PR w N).block (w' := (w.alloc (.cells (madeCells #[.int .u8 0, .int .u8 0, .int .u8 0, .int .u8 0] (N * 4)) 39)).alloc (.cells #[.int .i64 (W : Int), .int .i64 (H : Int), .slice (some ⟨w.heap.size, 0, none⟩) N N] 24)) (Below.heap_alloc _ _ _ (by simp))
  exact ⟨by omega, Nat.le_refl _, by omega, h.k1, hr.block rfl, h.below.drew, by have := h.below.drew.size; omega⟩
theorem picIn_b (w : World) (b W H N : Nat) (hs : w.heap.size = b) : PicIn w (((w.alloc (.cells #[.int .i64 (W : Int), .int .i64 (H : Int), .slice (some ⟨b + 1, 0, none⟩) N N] 24)).alloc (.cells (madeCells #[.int .u8 0, .int .u8 0, .int .u8 0, .int .u8 0] (N * 4)) 39)).drew) b b (b + 1) W H N := by
  subst hs
  have h := al2 w (.cells #[.int .i64 (W : Int), .int .i64 (H : Int), .slice (some ⟨w.heap.size + 1, 0, none⟩) N N] 24) (.cells (madeCells #[.int .u8 0, .int .u8 0, .int .u8 0, .int .u8 0] (N * 4)) 39)
  have hr := made_PR (w.alloc (.cells #[.int .i64 (W : Int), .int .i64 (H : Int), .slice (some ⟨w.heap.size + 1, 0, none⟩) N N] 24)) N
  have es : (w.alloc (.cells #[.int .i64 (W : Int), .int .i64 (H : Int), .slice (some ⟨w.heap.size + 1, 0, none⟩) N N] 24)).heap.size = w.heap.size + 1 := by simp
  rw [es] at hr
  exact ⟨Nat.le_refl _, by omega, by omega, h.k0, hr.block rfl, h.below.drew, by have := h.below.drew.size; omega⟩

set_option maxHeartbeats 4000000 in
set_option maxRecDepth 100000 in
theorem picture_some (gr W H : Nat) (m : Nat → Nat) (q : Nat → Nat → Px) (w : World) (hG : GridAt w gr W H m q) (hW0 : 1 ≤ W) (hW : W ≤ 256) (hH0 : 1 ≤ H) (hH : H ≤ 256) (hm : ∀ k, k < tn W H → m k = 1 ∨ m k = tpn W H k) :
    Calls Tryz.prog 20 #[.pointer (some ⟨gr, 0, none⟩)] w fun e w' => ∃ g, e = .returned (.agg #[.int .i64 (W : Int), .int .i64 (H : Int), .slice (some ⟨g, 0, none⟩) (W * H) (W * H)]) ∧ w.heap.size ≤ g ∧ PR w' g (W * H) (picT W H m q (tn W H)) ∧ Below w.heap.size w w' := by
  have h0 : 0 < tn W H := Nat.mul_pos (tc_pos hW0) (tc_pos hH0)
  have hN256 : tn W H ≤ 256 := Nat.mul_le_mul (tc_le W hW) (tc_le H hH)
  have HNN := hide (fun w1 (h : GridAt w1 gr W H m q) => isNone_some gr W H m q w1 h h0)
  have HG := hide (fun w1 (h : Below w.heap.size w w1) => hG.below h)
  have hMb : W * H ≤ 65536 := Nat.mul_le_mul hW hH
  obtain ⟨N, hN⟩ : ∃ N, N = W * H := ⟨_, rfl⟩
  have zN : (W : Int) * (H : Int) = (N : Int) := by rw [hN]; simp
  rw [← hN] at hMb ⊢
  have wN : IntKind.i64.wrap (N : Int) = (N : Int) := by rw [IntKind.wrap_i64]; omega
  have hmk := make_pxn N (by omega)
  have HNE := hide hN
  have HM := hide hm
  have HA := hide (al1 w (.cells #[.int .i64 0, .int .i64 0, .slice none 0 0] 24))
  obtain ⟨B, hB⟩ : ∃ B, B = w.heap.size := ⟨_, rfl⟩
  clear hG hN hm
  go_enter Tryz.func20, Tryz.ntmps20
  go_wp2_with fail
  generalize w.alloc (.cells #[.int .i64 0, .int .i64 0, .slice none 0 0] 24) = w1 at *
  rw [← hB] at HA HG ⊢
  obtain ⟨hs1, k0, hb1⟩ := unhide HA
  have hg1 := unhide HG w1 hb1
  refine (unhide HNN w1 hg1).mono ?_
  rintro e w2 ⟨rfl, hw⟩
  have hw := hw.symm
  subst hw
  clear HNN HA
  obtain ⟨t, c, hgr, hc1, hc2, htl⟩ := hg1
  have c0 : w1.cell? ⟨gr, 0, none⟩ = some (.int .i64 (W : Int)) := blk_cell hgr 0
  have c1 : w1.cell? ⟨gr, 1, none⟩ = some (.int .i64 (H : Int)) := blk_cell hgr 1
  have hlg := blk_lt hgr
  have HTL := hide htl
  have HGR := hide hgr
  have HB1 := hide hb1
  have HBE := hide hB
  have HK0 := hide k0
  clear htl hgr hb1 hB k0
  go_wp2
  obtain ⟨b0, hb0⟩ : ∃ b, b = B + 1 := ⟨_, rfl⟩
  apply onceT (fun wf bf gf => PicIn w1 wf b0 bf gf W H N)
  · intro hrest
    have hdr := (Below.refl w1.heap.size w1).drew
    have hKS := hide (fun wx (h : Below w1.heap.size w1 wx) => (⟨tcell h hlg c0, tcell h hlg c1⟩ : wx.cell? ⟨gr, 0, none⟩ = some (.int .i64 (W : Int)) ∧ wx.cell? ⟨gr, 1, none⟩ = some (.int .i64 (H : Int))))
    refine wp_region_held_drew (S := fun w' => w'.cell? ⟨gr, 0, none⟩ = some (.int .i64 (W : Int)) ∧ w'.cell? ⟨gr, 1, none⟩ = some (.int .i64 (H : Int))) (by kernel_rfl) (unhide hKS _ hdr) (fun hHeld => ?_)
    refine wpAnyH_take (i := 0) (v := .pointer (some ⟨gr, 0, none⟩)) rfl (by kernel_rfl) (by kernel_rfl) (by kernel_rfl) (fun _ _ _ h => h) (Or.inl ⟨by rfl, ?_⟩) hHeld ?_
    · intro w' hSw
      try dsimp only at hSw
      go_simp
    simp only [Act.put, List.setIfInBounds_toArray]
    refine wpAnyH_take (i := 1) (v := .pointer (some ⟨gr, 0, none⟩)) rfl (by kernel_rfl) (by kernel_rfl) (by kernel_rfl) (fun _ _ _ h => h) (Or.inl ⟨by rfl, ?_⟩) hHeld ?_
    · intro w' hSw
      try dsimp only at hSw
      go_simp
    simp only [Act.put]
    refine wpAnyH_take (i := 2) (v := .pointer (some ⟨gr, 0, none⟩)) rfl (by kernel_rfl) (by kernel_rfl) (by kernel_rfl) (fun _ _ _ h => h) (Or.inl ⟨by rfl, ?_⟩) hHeld ?_
    · intro w' hSw
      try dsimp only at hSw
      go_simp
    simp only [Act.put]
    refine wpAnyH_take (i := 3) (v := .int .i64 (W : Int)) rfl (by kernel_rfl) (by kernel_rfl) (by kernel_rfl) (fun _ _ _ h => h) (Or.inl ⟨by rfl, ?_⟩) hHeld ?_
    · intro w' hSw
      try dsimp only at hSw
      go_simp
    simp only [Act.put]
    refine wpAnyH_take (i := 4) (v := .pointer (some ⟨gr, 0, none⟩)) rfl (by kernel_rfl) (by kernel_rfl) (by kernel_rfl) (fun _ _ _ h => h) (Or.inl ⟨by rfl, ?_⟩) hHeld ?_
    · intro w' hSw
      try dsimp only at hSw
      go_simp
    simp only [Act.put]
    refine wpAnyH_take (i := 5) (v := .pointer (some ⟨gr, 0, none⟩)) rfl (by kernel_rfl) (by kernel_rfl) (by kernel_rfl) (fun _ _ _ h => h) (Or.inl ⟨by rfl, ?_⟩) hHeld ?_
    · intro w' hSw
      try dsimp only at hSw
      go_simp
    simp only [Act.put]
    refine wpAnyH_take (i := 6) (v := .pointer (some ⟨gr, 1, none⟩)) rfl (by kernel_rfl) (by kernel_rfl) (by kernel_rfl) (fun _ _ _ h => h) (Or.inl ⟨by rfl, ?_⟩) hHeld ?_
    · intro w' hSw
      try dsimp only at hSw
      go_simp
    simp only [Act.put]
    refine wpAnyH_take (i := 7) (v := .int .i64 (H : Int)) rfl (by kernel_rfl) (by kernel_rfl) (by kernel_rfl) (fun _ _ _ h => h) (Or.inl ⟨by rfl, ?_⟩) hHeld ?_
    · intro w' hSw
      try dsimp only at hSw
      go_simp
    simp only [Act.put]
    refine wpAnyH_take (i := 8) (v := .pointer (some ⟨gr, 0, none⟩)) rfl (by kernel_rfl) (by kernel_rfl) (by kernel_rfl) (fun _ _ _ h => h) (Or.inl ⟨by rfl, ?_⟩) hHeld ?_
    · intro w' hSw
      try dsimp only at hSw
      go_simp
    simp only [Act.put]
    refine wpAnyH_take (i := 9) (v := .pointer (some ⟨gr, 0, none⟩)) rfl (by kernel_rfl) (by kernel_rfl) (by kernel_rfl) (fun _ _ _ h => h) (Or.inl ⟨by rfl, ?_⟩) hHeld ?_
    · intro w' hSw
      try dsimp only at hSw
      go_simp
    simp only [Act.put]
    refine wpAnyH_take (i := 10) (v := .pointer (some ⟨gr, 0, none⟩)) rfl (by kernel_rfl) (by kernel_rfl) (by kernel_rfl) (fun _ _ _ h => h) (Or.inl ⟨by rfl, ?_⟩) hHeld ?_
    · intro w' hSw
      try dsimp only at hSw
      go_simp
    simp only [Act.put]
    refine wpAnyH_take (i := 11) (v := .int .i64 (W : Int)) rfl (by kernel_rfl) (by kernel_rfl) (by kernel_rfl) (fun _ _ _ h => h) (Or.inl ⟨by rfl, ?_⟩) hHeld ?_
    · intro w' hSw
      try dsimp only at hSw
      go_simp
    simp only [Act.put]
    refine wpAnyH_take (i := 12) (v := .pointer (some ⟨gr, 0, none⟩)) rfl (by kernel_rfl) (by kernel_rfl) (by kernel_rfl) (fun _ _ _ h => h) (Or.inl ⟨by rfl, ?_⟩) hHeld ?_
    · intro w' hSw
      try dsimp only at hSw
      go_simp
    simp only [Act.put]
    refine wpAnyH_take (i := 13) (v := .pointer (some ⟨gr, 0, none⟩)) rfl (by kernel_rfl) (by kernel_rfl) (by kernel_rfl) (fun _ _ _ h => h) (Or.inl ⟨by rfl, ?_⟩) hHeld ?_
    · intro w' hSw
      try dsimp only at hSw
      go_simp
    simp only [Act.put]
    refine wpAnyH_take (i := 14) (v := .pointer (some ⟨gr, 1, none⟩)) rfl (by kernel_rfl) (by kernel_rfl) (by kernel_rfl) (fun _ _ _ h => h) (Or.inl ⟨by rfl, ?_⟩) hHeld ?_
    · intro w' hSw
      try dsimp only at hSw
      go_simp
    simp only [Act.put]
    refine wpAnyH_take (i := 15) (v := .int .i64 (H : Int)) rfl (by kernel_rfl) (by kernel_rfl) (by kernel_rfl) (fun _ _ _ h => h) (Or.inl ⟨by rfl, ?_⟩) hHeld ?_
    · intro w' hSw
      try dsimp only at hSw
      go_simp
    simp only [Act.put]
    refine wpAnyH_take (i := 16) (v := .int .i64 (N : Int)) rfl (by kernel_rfl) (by kernel_rfl) (by kernel_rfl) (fun _ _ _ h => h) (Or.inl ⟨by rfl, ?_⟩) hHeld ?_
    · intro w' hSw
      try dsimp only at hSw
      go_simp
    simp only [Act.put]
    refine wpAnyH_ready (rs := [17, 19]) (by kernel_rfl) (by simp) ?_
    refine AllReadyH.cons rfl (fun K hK => ?_) (AllReadyH.cons rfl (fun K hK => ?_) AllReadyH.nil)
    · go_simp
      have hq1 := hdr.alloc (Nat.le_refl _) (.cells (madeCells #[.int .u8 0, .int .u8 0, .int .u8 0, .int .u8 0] (N * 4)) 39)
      refine hK.out _ _ (unhide hKS _ hq1) (fun hHeld => ?_)
      clear hK K
      try simp only [Act.put, List.setIfInBounds_toArray, List.set_cons_zero, List.set_cons_succ]
      refine wpAnyH_take (i := 18) (v := .agg #[.int .i64 (W : Int), .int .i64 (H : Int), .slice (some ⟨B + 1, 0, none⟩) N N]) rfl (by kernel_rfl) (by kernel_rfl) (by kernel_rfl) (fun _ _ _ h => h) (Or.inl ⟨by rfl, ?_⟩) hHeld ?_
      · intro w' hSw
        try dsimp only at hSw
        go_simp
      simp only [Act.put, List.setIfInBounds_toArray]
      refine wpAnyH_ready (rs := [19]) (by kernel_rfl) (by simp) ?_
      refine AllReadyH.cons rfl (fun K hK => ?_) AllReadyH.nil
      go_simp
      have hq2 := hq1.alloc (by simp) (.cells #[.int .i64 0, .int .i64 0, .slice none 0 0] 24)
      refine hK.out _ _ (unhide hKS _ hq2) (fun hHeld => ?_)
      clear hK K
      try simp only [Act.put, List.setIfInBounds_toArray, List.set_cons_zero, List.set_cons_succ]
      refine wpAnyH_ready (rs := [20]) (by kernel_rfl) (by simp) ?_
      refine AllReadyH.cons rfl (fun K hK => ?_) AllReadyH.nil
      have hbe := picIn_a w1 (B + 1) W H N hs1
      have hbe : PicIn w1 (((w1.alloc (.cells (madeCells #[.int .u8 0, .int .u8 0, .int .u8 0, .int .u8 0] (N * 4)) 39)).alloc (.cells #[.int .i64 (W : Int), .int .i64 (H : Int), .slice (some ⟨B + 1, 0, none⟩) N N] 24)).drew) b0 (B + 1 + 1) (B + 1) W H N := by rw [hb0]; exact hbe
      go_simp
      refine hK.out _ _ (unhide hKS _ (hbe.below.mono (by omega))) (fun hHeld => ?_)
      clear hK K
      try simp only [Act.put, List.setIfInBounds_toArray, List.set_cons_zero, List.set_cons_succ]
      refine wpAnyH_done (by kernel_rfl) ?_ _
      clear hHeld hq1 hq2 hdr hKS
      revert hbe
      generalize (w1.alloc (.cells (madeCells #[.int .u8 0, .int .u8 0, .int .u8 0, .int .u8 0] (N * 4)) 39)).alloc (.cells #[.int .i64 (W : Int), .int .i64 (H : Int), .slice (some ⟨B + 1, 0, none⟩) N N] 24) = wf
      generalize wf.drew = wf
      generalize B + 1 + 1 = b2
      generalize B + 1 = b1
      intro hbe
      exact hrest wf b2 b1 hbe
    · go_simp
      have hq1 := hdr.alloc (Nat.le_refl _) (.cells #[.int .i64 0, .int .i64 0, .slice none 0 0] 24)
      refine hK.out _ _ (unhide hKS _ hq1) (fun hHeld => ?_)
      clear hK K
      try simp only [Act.put, List.setIfInBounds_toArray, List.set_cons_zero, List.set_cons_succ]
      refine wpAnyH_ready (rs := [17]) (by kernel_rfl) (by simp) ?_
      refine AllReadyH.cons rfl (fun K hK => ?_) AllReadyH.nil
      go_simp
      have hq2 := hq1.alloc (by simp) (.cells (madeCells #[.int .u8 0, .int .u8 0, .int .u8 0, .int .u8 0] (N * 4)) 39)
      refine hK.out _ _ (unhide hKS _ hq2) (fun hHeld => ?_)
      clear hK K
      try simp only [Act.put, List.setIfInBounds_toArray, List.set_cons_zero, List.set_cons_succ]
      refine wpAnyH_take (i := 18) (v := .agg #[.int .i64 (W : Int), .int .i64 (H : Int), .slice (some ⟨B + 1 + 1, 0, none⟩) N N]) rfl (by kernel_rfl) (by kernel_rfl) (by kernel_rfl) (fun _ _ _ h => h) (Or.inl ⟨by rfl, ?_⟩) hHeld ?_
      · intro w' hSw
        try dsimp only at hSw
        go_simp
      simp only [Act.put, List.setIfInBounds_toArray]
      refine wpAnyH_ready (rs := [20]) (by kernel_rfl) (by simp) ?_
      refine AllReadyH.cons rfl (fun K hK => ?_) AllReadyH.nil
      have hbe := picIn_b w1 (B + 1) W H N hs1
      have hbe : PicIn w1 (((w1.alloc (.cells #[.int .i64 (W : Int), .int .i64 (H : Int), .slice (some ⟨B + 1 + 1, 0, none⟩) N N] 24)).alloc (.cells (madeCells #[.int .u8 0, .int .u8 0, .int .u8 0, .int .u8 0] (N * 4)) 39)).drew) b0 (B + 1) (B + 1 + 1) W H N := by rw [hb0]; exact hbe
      go_simp
      refine hK.out _ _ (unhide hKS _ (hbe.below.mono (by omega))) (fun hHeld => ?_)
      clear hK K
      try simp only [Act.put, List.setIfInBounds_toArray, List.set_cons_zero, List.set_cons_succ]
      refine wpAnyH_done (by kernel_rfl) ?_ _
      clear hHeld hq1 hq2 hdr hKS
      revert hbe
      generalize (w1.alloc (.cells #[.int .i64 (W : Int), .int .i64 (H : Int), .slice (some ⟨B + 1 + 1, 0, none⟩) N N] 24)).alloc (.cells (madeCells #[.int .u8 0, .int .u8 0, .int .u8 0, .int .u8 0] (N * 4)) 39) = wf
      generalize wf.drew = wf
      generalize B + 1 + 1 = b2
      generalize B + 1 = b1
      intro hbe
      exact hrest wf b1 b2 hbe
  intro w3 bp g hin
  have hbz := hin.below.size
  have HK3 := hide (blk_below (unhide HK0) hin.below (by omega))
  have HGR3 := hide (blk_below (unhide HGR) hin.below (by omega))
  have HIN := hide hin
  have HB3 := hide ((unhide HB1).trans (hin.below.mono (by omega)))
  have hgB := hin.hg
  have hbB := hin.hbp
  have hne := hin.ne
  have g2 : w3.cell? ⟨gr, 2, none⟩ = some (.slice (some ⟨t, 0, none⟩) (tn W H) c) := blk_cell (unhide HGR3) 2
  have hlg3 := blk_lt (unhide HGR3)
  clear hin hmk zN wN c0 c1 HK0
  have HPC := hide (unhide HIN).pic
  have HRW : Hid (PR w3 g N (picT W H m q 0)) := (unhide HIN).row
  have HKP : Hid (∀ b wr, But (· = g) w3 wr → b < B + 1 → wr.heap[b]? = w1.heap[b]?) := fun b wr h hb => (h.block b (by omega) (by show ¬ b = g; omega)).trans ((unhide HIN).below.block b (by omega))
  have HBU : Hid (But (· = g) w3 w3) := But.refl _ _
  have hlb := blk_lt (unhide HPC)
  generalize hnn : tn W H = n at *
  have HNT := hide hnn
  clear hnn HIN HGR3 hbz
  go_wp2
  clear g2
  go_loopw [33] (fun kv wr => ∃ k : Nat, k ≤ n ∧ kv = .int .i64 (k : Int) ∧ Hid (PR wr g N (picT W H m q k)) ∧ Hid (But (· = g) w3 wr)) (fun kv _ => n - (intOf kv).toNat)
  case atStart => exact ⟨0, Nat.zero_le _, rfl, HRW, HBU⟩
  case round =>
    clear HRW HBU
    obtain ⟨k, hk, rfl, HR, HBU⟩ := hrel
    have hs3 := (unhide HBU).size
    by_cases hlt : k < n
    · have g1 : decide ((k : Int) < (n : Int)) = true := decide_eq_true (by omega)
      have g1n : decide (k < n) = true := decide_eq_true hlt
      have hkn : k < tn W H := by have := unhide HNT; omega
      obtain ⟨h1, h2, h3, h4, h5, h6⟩ := tile_in hW0 hkn
      obtain ⟨a, ca, t0, t1, t2, t3, t4, hp⟩ := unhide HTL k hlt
      have htb : t < B + 1 := by have := World.block_lt_of_cell? _ _ t0; simp only at this; omega
      have hmk := unhide HM k hlt
      have hm0 : 0 < m k := by
        rcases hmk with e | e
        · omega
        · have := (tpn_in hW0 hkn).1; omega
      have et := unhide HKP t wr (unhide HBU) htb
      have t0 := (World.cell?_of_block (a := ⟨t, k * 5, none⟩) et).trans t0
      have t1 := (World.cell?_of_block (a := ⟨t, k * 5 + 1, none⟩) et).trans t1
      have t2 := (World.cell?_of_block (a := ⟨t, k * 5 + 2, none⟩) et).trans t2
      have t3 := (World.cell?_of_block (a := ⟨t, k * 5 + 3, none⟩) et).trans t3
      have t4 := (World.cell?_of_block (a := ⟨t, k * 5 + 4, none⟩) et).trans t4
      have hpb : ∀ x, a = some x → x.block < B + 1 := fun x hx => by have := hp.lt x hx hm0; omega
      have hpr : IsPx wr a (m k) (q k) := hp.blocks (fun x hx => unhide HKP x.block wr (unhide HBU) (hpb x hx))
      have HC : Hid (∀ wq, Below wr.heap.size wr wq → Calls Tryz.prog 48 #[tileV (tx W k : Int) (ty W k : Int) (tw W k : Int) (th W H k : Int) a (m k) ca, .agg #[.int .i64 (W : Int), .int .i64 (H : Int), .slice (some ⟨g, 0, none⟩) N N]] wq fun e w' => e = .returned (.tuple #[]) ∧ PR w' g N (picT W H m q (k + 1)) ∧ But (· = g) wq w') := fun wq hb =>
        putOn_any W H g (tx W k) (ty W k) (tw W k) (th W H k) a (m k) ca N N (q k) (picT W H m q k) wq (hpr.below hb) hmk h5 h6 h1 h2 hW hH h3 h4 (unhide HNE) (Nat.le_refl _) ((unhide HR).below hb (unhide HR).lt) (fun x hx => by have := hpb x hx; omega)
      unfold tileV at HC
      have HAQ := hide (al1 wr (.cells #[.int .i64 (tx W k : Int), .int .i64 (ty W k : Int), .int .i64 (tw W k : Int), .int .i64 (th W H k : Int), .slice a (m k) ca] 76))
      have hki : (k : Int) < (n : Int) := by omega
      have kb := ((unhide HBU).block bp hlb (by show ¬ bp = g; omega)).trans (unhide HPC)
      have p0 : wr.cell? ⟨bp, 0, none⟩ = some (.int .i64 (W : Int)) := blk_cell kb 0
      have p1 : wr.cell? ⟨bp, 1, none⟩ = some (.int .i64 (H : Int)) := blk_cell kb 1
      have p2 : wr.cell? ⟨bp, 2, none⟩ = some (.slice (some ⟨g, 0, none⟩) N N) := blk_cell kb 2
      have hbl := blk_lt kb
      clear hp et h1 h2 h3 h4 h5 h6 hpr hmk kb
      generalize tx W k = X at *
      generalize ty W k = Y at *
      generalize tw W k = U at *
      generalize th W H k = V at *
      generalize m k = mk at *
      go_wp2_with fail
      generalize wr.alloc (.cells #[.int .i64 (X : Int), .int .i64 (Y : Int), .int .i64 (U : Int), .int .i64 (V : Int), .slice a mk ca] 76) = wq at *
      obtain ⟨hsq, _, hbq⟩ := unhide HAQ
      refine (unhide HC wq hbq).mono ?_
      rintro e w5 ⟨rfl, hr5, hb5⟩
      have HR5 := hide hr5
      have HBU5 : Hid (But (· = g) w3 w5) := ((unhide HBU).of_below hbq (fun z hz h => absurd h (by omega))).trans hb5
      clear hr5 hb5 hbq HC HAQ t0 t1 t2 t3 t4 p0 p1 p2
      go_wp2
      go_roundw
      case rel => exact ⟨k + 1, by omega, by go_num, HR5, HBU5⟩
      case measure => simp [intOf]; omega
    · obtain rfl : k = n := by omega
      have g1 : decide ((k : Int) < (k : Int)) = false := by simp
      have kb := ((unhide HBU).block bp hlb (by show ¬ bp = g; omega)).trans (unhide HPC)
      have p0 : wr.cell? ⟨bp, 0, none⟩ = some (.int .i64 (W : Int)) := blk_cell kb 0
      have p1 : wr.cell? ⟨bp, 1, none⟩ = some (.int .i64 (H : Int)) := blk_cell kb 1
      have p2 : wr.cell? ⟨bp, 2, none⟩ = some (.slice (some ⟨g, 0, none⟩) N N) := blk_cell kb 2
      have kz := ((unhide HBU).block B (by omega) (by show ¬ B = g; omega)).trans (unhide HK3)
      have z0 : wr.cell? ⟨B, 0, none⟩ = some (.int .i64 0) := blk_cell kz 0
      have z1 : wr.cell? ⟨B, 1, none⟩ = some (.int .i64 0) := blk_cell kz 1
      have z2 : wr.cell? ⟨B, 2, none⟩ = some (.slice none 0 0) := blk_cell kz 2
      have f0 := blk_frozen kz 0
      have f1 := blk_frozen kz 1
      have f2 := blk_frozen kz 2
      have hbl := blk_lt kb
      have hzl := blk_lt kz
      have HF : Hid (Below B w wr) := (unhide HB3).trans ((unhide HBU).below (B := B) (by omega) (fun z hz => by show ¬ z = g; omega))
      clear kb kz HBU
      go_wp2
      refine bodyPost_ret (v := .agg #[.int .i64 (W : Int), .int .i64 (H : Int), .slice (some ⟨g, 0, none⟩) N N]) ?_ rfl ⟨g, rfl, ?_, ?_, ?_⟩
      · rw [results_cellP (p := 2) (ty := 24) (by kernel_rfl)]
        go_simp
      · rw [← unhide HBE]; omega
      · rw [unhide HNT]
        refine (unhide HR).block ?_
        rw [Below.heap_setCell _ _ _ _ (by show g ≠ B; omega), Below.heap_setCell _ _ _ _ (by show g ≠ B; omega), Below.heap_setCell _ _ _ _ (by show g ≠ B; omega)]
      · rw [← unhide HBE]
        exact (((unhide HF).setCell (p := ⟨B, 0, none⟩) (Nat.le_refl _) _).setCell (p := ⟨B, 1, none⟩) (Nat.le_refl _) _).setCell (p := ⟨B, 2, none⟩) (Nat.le_refl _) _
end Go.Proofs.YtcicbafdacfbpaiGreatDoor
