/- A pixel of a grid: the program's. -/
import Derived.Test.YtcicbafdacfbpaiDoorMg10
namespace Go.Proofs.YtcicbafdacfbpaiDoor
open Go.RowKit

set_option maxHeartbeats 1000000 in
theorem tAt_bound (g W H : Nat) (m : Nat → Nat) (q : Nat → Nat → Px) (x y : Int) (w : World) (hG : GridAt w g W H m q) (h0 : 0 < tn W H) (tE : TypeId) (vE : Value) (hE : w.cell? ⟨1, 0, none⟩ = some (.iface tE vE)) (hin : ¬ (0 ≤ x ∧ x < (W : Int) ∧ 0 ≤ y ∧ y < (H : Int))) :
    Calls Tryd.prog 22 #[.pointer (some ⟨g, 0, none⟩), .int .i64 x, .int .i64 y] w fun e w' => e = .returned (.tuple #[.agg #[.int .u8 0, .int .u8 0, .int .u8 0, .int .u8 0], .iface tE vE]) ∧ Below w.heap.size w w' := by
  have HA := hide (al1 w (.cells #[.int .u8 0, .int .u8 0, .int .u8 0, .int .u8 0] 26))
  have HN := hide (fun wx (h : GridAt wx g W H m q) => isNone_some g W H m q wx h h0)
  have HG := hide (fun w1 (h : Below w.heap.size w w1) => hG.below h)
  have hgE := World.block_lt_of_cell? _ _ hE
  simp only at hgE
  have hcs : (decide (x < 0) = true) ∨ (decide (x < 0) = false ∧ decide (x ≥ (W : Int)) = true) ∨ (decide (x < 0) = false ∧ decide (x ≥ (W : Int)) = false ∧ decide (y < 0) = true) ∨ (decide (x < 0) = false ∧ decide (x ≥ (W : Int)) = false ∧ decide (y < 0) = false ∧ decide (y ≥ (H : Int)) = true) := by
    simp only [decide_eq_true_eq, decide_eq_false_iff_not]
    omega
  clear hG hin
  go_enter Tryd.func22, Tryd.ntmps22
  go_wp2_with fail
  generalize w.alloc (.cells #[.int .u8 0, .int .u8 0, .int .u8 0, .int .u8 0] 26) = w1 at *
  obtain ⟨B, hB⟩ : ∃ B, B = w.heap.size := ⟨_, rfl⟩
  rw [← hB] at HA HG ⊢
  obtain ⟨hs1, kz, hb1⟩ := unhide HA
  have hg1 := unhide HG w1 hb1
  refine (unhide HN w1 hg1).mono ?_
  rintro e w2 ⟨rfl, hw⟩
  have hw := hw.symm
  subst hw
  rw [← hB] at hgE
  obtain ⟨t, c, hgr, _⟩ := hg1
  have c0 : w1.cell? ⟨g, 0, none⟩ = some (.int .i64 (W : Int)) := blk_cell hgr 0
  have c1 : w1.cell? ⟨g, 1, none⟩ = some (.int .i64 (H : Int)) := blk_cell hgr 1
  have hlg := blk_lt hgr
  have hE1 := (hb1.cell (p := ⟨1, 0, none⟩) hgE).trans hE
  have z0 : w1.cell? ⟨B, 0, none⟩ = some (.int .u8 0) := blk_cell kz 0
  have f0 := blk_frozen kz 0
  have z1 : w1.cell? ⟨B, 1, none⟩ = some (.int .u8 0) := blk_cell kz 1
  have f1 := blk_frozen kz 1
  have z2 : w1.cell? ⟨B, 2, none⟩ = some (.int .u8 0) := blk_cell kz 2
  have f2 := blk_frozen kz 2
  have z3 : w1.cell? ⟨B, 3, none⟩ = some (.int .u8 0) := blk_cell kz 3
  have f3 := blk_frozen kz 3
  have hzl := blk_lt kz
  have hne : B ≠ 1 := by omega
  have HB1 := hide hb1
  have HBE := hide hB
  clear kz hb1 hB HA HN HG hE hgr
  rcases hcs with d1 | ⟨d1, d2⟩ | ⟨d1, d2, d3⟩ | ⟨d1, d2, d3, d4⟩
  all_goals
    try have d2' : decide ((W : Int) ≤ x) = _ := d2
    try have d4' : decide ((H : Int) ≤ y) = _ := d4
    go_wp2
    go_region
    all_goals
      go_wp2
      refine bodyPost_ret (v := .tuple #[.agg #[.int .u8 0, .int .u8 0, .int .u8 0, .int .u8 0], .iface tE vE]) ?_ rfl ⟨rfl, ?_⟩
      · rw [results_cell_tmp (p := 6) (u := 7) (ty := 26) (by kernel_rfl)]
        go_simp
      · rw [← unhide HBE]
        exact ((((unhide HB1).drew.setCell (p := ⟨B, 0, none⟩) (Nat.le_refl _) _).setCell (p := ⟨B, 1, none⟩) (Nat.le_refl _) _).setCell (p := ⟨B, 2, none⟩) (Nat.le_refl _) _).setCell (p := ⟨B, 3, none⟩) (Nat.le_refl _) _

set_option maxHeartbeats 4000000 in
set_option maxRecDepth 100000 in
theorem tAt_ok (g W H x y : Nat) (p : Nat → Px) (w : World) (hG : GridOf w g W H p) (hW0 : 1 ≤ W) (hW : W ≤ 256) (hH0 : 1 ≤ H) (hH : H ≤ 256) (hx : x < W) (hy : y < H) :
    Calls Tryd.prog 22 #[.pointer (some ⟨g, 0, none⟩), .int .i64 (x : Int), .int .i64 (y : Int)] w fun e w' => e = .returned (.tuple #[(p (y * W + x)).val, .nilIface]) ∧ Below w.heap.size w w' := by
  have HA := hide (al1 w (.cells #[.int .u8 0, .int .u8 0, .int .u8 0, .int .u8 0] 26))
  have HN := hide (fun wx (h : GridOf wx g W H p) => isNone_some g W H _ _ wx h (grid_pos hW0 hH0))
  have HG := hide (fun w1 (h : Below w.heap.size w w1) => hG.below h)
  have HT := hide (fun w => tilesFor_any W w hW)
  have d1 : decide ((x : Int) < 0) = false := decide_eq_false (by omega)
  have d2 : decide ((x : Int) ≥ (W : Int)) = false := decide_eq_false (by omega)
  have d2' : decide ((W : Int) ≤ (x : Int)) = false := d2
  have d3 : decide ((y : Int) < 0) = false := decide_eq_false (by omega)
  have d4 : decide ((y : Int) ≥ (H : Int)) = false := decide_eq_false (by omega)
  have d4' : decide ((H : Int) ≤ (y : Int)) = false := d4
  have hc : x / 16 < tc W := by unfold tc; omega
  have hr : y / 16 < tc H := by unfold tc; omega
  obtain ⟨k, hk⟩ : ∃ k, k = y / 16 * tc W + x / 16 := ⟨_, rfl⟩
  have hkl : k < tn W H := by rw [hk]; exact place_tn hc hr
  have htn : tn W H ≤ 256 := Nat.mul_le_mul (tc_le W hW) (tc_le H hH)
  have ex : tx W k = 16 * (x / 16) := by rw [hk]; exact tx_at hc
  have ey : ty W k = 16 * (y / 16) := by rw [hk]; exact ty_at hc
  obtain ⟨h1, h2, h3, h4, h5, h6⟩ := tile_in hW0 hkl
  obtain ⟨dx, hdx⟩ : ∃ dx, dx = x - tx W k := ⟨_, rfl⟩
  obtain ⟨dy, hdy⟩ : ∃ dy, dy = y - ty W k := ⟨_, rfl⟩
  have hxd : x = tx W k + dx := by omega
  have hyd : y = ty W k + dy := by omega
  have hdxl : dx < tw W k := by have : tw W k = min 16 (W - tx W k) := rfl; omega
  have hdyl : dy < th W H k := by have : th W H k = min 16 (H - ty W k) := rfl; omega
  have HV := hide (tval_of (H := H) p hdxl hdyl)
  rw [← hxd, ← hyd] at HV
  have HAT : Hid (∀ a ca wx, IsPx wx a (keepN (tpx W p k) (tpn W H k)) (tpx W p k) → Calls Tryd.prog 46 #[tileV (tx W k : Int) (ty W k : Int) (tw W k : Int) (th W H k : Int) a (keepN (tpx W p k) (tpn W H k)) ca, .int .i64 (x : Int), .int .i64 (y : Int)] wx fun e w' => e = .returned (p (y * W + x)).val ∧ Below wx.heap.size wx w') := fun a ca wx hp => by
    have := tat_any (tx W k) (ty W k) (tw W k) (th W H k) dx dy a _ ca _ wx hp (keepN_or _ _) h5 h6 (by omega) hdxl hdyl
    rw [← hxd, ← hyd, unhide HV] at this
    exact this
  have zq1 : (y : Int) / 16 = ((y / 16 : Nat) : Int) := by omega
  have zq2 : (x : Int) / 16 = ((x / 16 : Nat) : Int) := by omega
  obtain ⟨cx, hcx⟩ : ∃ cx, cx = x / 16 := ⟨_, rfl⟩
  obtain ⟨cy, hcy⟩ : ∃ cy, cy = y / 16 := ⟨_, rfl⟩
  obtain ⟨T, hTc⟩ : ∃ T, T = tc W := ⟨_, rfl⟩
  have hTc' : (W + 15) / 16 = T := by rw [hTc]; rfl
  rw [hTc'] at HT
  have hTb : T ≤ 16 := by rw [hTc]; exact tc_le W hW
  obtain ⟨u, hu⟩ : ∃ u, u = cy * T := ⟨_, rfl⟩
  have zu : (cy : Int) * (T : Int) = (u : Int) := by rw [hu]; simp
  have hub : u ≤ 256 := by rw [hu]; exact Nat.mul_le_mul (show cy ≤ 16 by omega) hTb
  have hku : k = u + cx := by rw [hk, hu, hcx, hcy, hTc]
  have zk : (u : Int) + (cx : Int) = (k : Int) := by omega
  have wu : IntKind.i64.wrap (u : Int) = (u : Int) := by rw [IntKind.wrap_i64]; omega
  have wk : IntKind.i64.wrap (k : Int) = (k : Int) := by rw [IntKind.wrap_i64]; omega
  rw [← hcx] at zq2
  rw [← hcy] at zq1
  have td1 : (y : Int).tdiv 16 = (cy : Int) := by rw [Int.tdiv_eq_ediv_of_nonneg (by omega)]; exact zq1
  have td2 : (x : Int).tdiv 16 = (cx : Int) := by rw [Int.tdiv_eq_ediv_of_nonneg (by omega)]; exact zq2
  have wcx : IntKind.i64.wrap (cx : Int) = (cx : Int) := by rw [IntKind.wrap_i64]; omega
  have wcy : IntKind.i64.wrap (cy : Int) = (cy : Int) := by rw [IntKind.wrap_i64]; omega
  have hkI : (k : Int) < (tn W H : Int) := by omega
  clear hG hk ex ey h1 h2 h3 h4 h5 h6 hdx hdy hxd hyd hdxl hdyl HV hTc hTc' hu hku hcx hcy hc hr
  unfold Px.val at *
  generalize p (y * W + x) = v at *
  go_enter Tryd.func22, Tryd.ntmps22
  go_wp2_with fail
  generalize w.alloc (.cells #[.int .u8 0, .int .u8 0, .int .u8 0, .int .u8 0] 26) = w1 at *
  obtain ⟨B, hB⟩ : ∃ B, B = w.heap.size := ⟨_, rfl⟩
  rw [← hB] at HA HG ⊢
  obtain ⟨hs1, kz, hb1⟩ := unhide HA
  have hg1 := unhide HG w1 hb1
  refine (unhide HN w1 hg1).mono ?_
  rintro e w2 ⟨rfl, hw⟩
  have hw := hw.symm
  subst hw
  obtain ⟨t, c, hgr, _, _, htl⟩ := hg1
  obtain ⟨a, ca, t0, t1, t2, t3, t4, hp⟩ := htl k hkl
  dsimp only at t4 hp
  have c0 : w1.cell? ⟨g, 0, none⟩ = some (.int .i64 (W : Int)) := blk_cell hgr 0
  have c1 : w1.cell? ⟨g, 1, none⟩ = some (.int .i64 (H : Int)) := blk_cell hgr 1
  have c2 : w1.cell? ⟨g, 2, none⟩ = some (.slice (some ⟨t, 0, none⟩) (tn W H) c) := blk_cell hgr 2
  have hlg := blk_lt hgr
  have hlt := World.block_lt_of_cell? _ _ t0
  have hgB : g ≠ B := fun e => by rw [e] at hgr; rw [kz] at hgr; simp at hgr
  have HATa := hide (fun wx (h : Below w1.heap.size w1 wx) => unhide HAT a ca wx (hp.below h))
  have HKZ := hide kz
  have hzl := blk_lt kz
  have htB : t ≠ B := fun e => by
    have h := blk_cell kz (k * 5 + 4)
    rw [e, h] at t4
    have : (#[Value.int .u8 0, .int .u8 0, .int .u8 0, .int .u8 0] : Array Value)[k * 5 + 4]? = none := Array.getElem?_eq_none (by simp)
    rw [this] at t4
    cases t4
  have HB1 := hide hb1
  have HBE := hide hB
  unfold tileV at HATa
  generalize tx W k = X at *
  generalize ty W k = Y at *
  generalize tw W k = U at *
  generalize th W H k = V at *
  generalize keepN (tpx W p k) (tpn W H k) = mk at *
  generalize tn W H = nt at *
  clear kz hb1 hB HA HN HG hgr htl hp HAT
  go_wp2
  have hdr := (Below.refl w1.heap.size w1).drew
  have hKS := hide (fun wx (h : Below w1.heap.size w1 wx) => (⟨tcell h hlg c0, tcell h hlg c2, tcell h hlt t0, tcell h hlt t1, tcell h hlt t2, tcell h hlt t3, tcell h hlt t4⟩ : wx.cell? ⟨g, 0, none⟩ = some (.int .i64 (W : Int)) ∧ wx.cell? ⟨g, 2, none⟩ = some (.slice (some ⟨t, 0, none⟩) nt c) ∧ wx.cell? ⟨t, k * 5, none⟩ = some (.int .i64 (X : Int)) ∧ wx.cell? ⟨t, k * 5 + 1, none⟩ = some (.int .i64 (Y : Int)) ∧ wx.cell? ⟨t, k * 5 + 2, none⟩ = some (.int .i64 (U : Int)) ∧ wx.cell? ⟨t, k * 5 + 3, none⟩ = some (.int .i64 (V : Int)) ∧ wx.cell? ⟨t, k * 5 + 4, none⟩ = some (.slice a mk ca)))
  refine wp_region_held_drew (S := fun w' => w'.cell? ⟨g, 0, none⟩ = some (.int .i64 (W : Int)) ∧ w'.cell? ⟨g, 2, none⟩ = some (.slice (some ⟨t, 0, none⟩) nt c) ∧ w'.cell? ⟨t, k * 5, none⟩ = some (.int .i64 (X : Int)) ∧ w'.cell? ⟨t, k * 5 + 1, none⟩ = some (.int .i64 (Y : Int)) ∧ w'.cell? ⟨t, k * 5 + 2, none⟩ = some (.int .i64 (U : Int)) ∧ w'.cell? ⟨t, k * 5 + 3, none⟩ = some (.int .i64 (V : Int)) ∧ w'.cell? ⟨t, k * 5 + 4, none⟩ = some (.slice a mk ca)) (by kernel_rfl) (unhide hKS _ hdr) (fun hHeld => ?_)
  refine wpAnyH_take (i := 0) (v := .pointer (some ⟨g, 0, none⟩)) rfl (by kernel_rfl) (by kernel_rfl) (by kernel_rfl) (fun _ _ _ h => h) (Or.inl ⟨by rfl, ?_⟩) hHeld ?_
  · intro w' hSw
    try dsimp only at hSw
    go_simp
  simp only [Act.put, List.setIfInBounds_toArray]
  refine wpAnyH_take (i := 1) (v := .pointer (some ⟨g, 0, none⟩)) rfl (by kernel_rfl) (by kernel_rfl) (by kernel_rfl) (fun _ _ _ h => h) (Or.inl ⟨by rfl, ?_⟩) hHeld ?_
  · intro w' hSw
    try dsimp only at hSw
    go_simp
  simp only [Act.put]
  refine wpAnyH_take (i := 2) (v := .pointer (some ⟨g, 2, none⟩)) rfl (by kernel_rfl) (by kernel_rfl) (by kernel_rfl) (fun _ _ _ h => h) (Or.inl ⟨by rfl, ?_⟩) hHeld ?_
  · intro w' hSw
    try dsimp only at hSw
    go_simp
  simp only [Act.put]
  refine wpAnyH_take (i := 3) (v := .slice (some ⟨t, 0, none⟩) nt c) rfl (by kernel_rfl) (by kernel_rfl) (by kernel_rfl) (fun _ _ _ h => h) (Or.inl ⟨by rfl, ?_⟩) hHeld ?_
  · intro w' hSw
    try dsimp only at hSw
    go_simp
  simp only [Act.put]
  refine wpAnyH_take (i := 4) (v := .int .i64 (y : Int)) rfl (by kernel_rfl) (by kernel_rfl) (by kernel_rfl) (fun _ _ _ h => h) (Or.inl ⟨by rfl, ?_⟩) hHeld ?_
  · intro w' hSw
    try dsimp only at hSw
    go_simp
  simp only [Act.put]
  refine wpAnyH_take (i := 5) (v := .int .i64 (cy : Int)) rfl (by kernel_rfl) (by kernel_rfl) (by kernel_rfl) (fun _ _ _ h => h) (Or.inl ⟨by rfl, ?_⟩) hHeld ?_
  · intro w' hSw
    try dsimp only at hSw
    go_simp
  simp only [Act.put]
  refine wpAnyH_take (i := 6) (v := .pointer (some ⟨g, 0, none⟩)) rfl (by kernel_rfl) (by kernel_rfl) (by kernel_rfl) (fun _ _ _ h => h) (Or.inl ⟨by rfl, ?_⟩) hHeld ?_
  · intro w' hSw
    try dsimp only at hSw
    go_simp
  simp only [Act.put]
  refine wpAnyH_take (i := 7) (v := .pointer (some ⟨g, 0, none⟩)) rfl (by kernel_rfl) (by kernel_rfl) (by kernel_rfl) (fun _ _ _ h => h) (Or.inl ⟨by rfl, ?_⟩) hHeld ?_
  · intro w' hSw
    try dsimp only at hSw
    go_simp
  simp only [Act.put]
  refine wpAnyH_take (i := 8) (v := .pointer (some ⟨g, 0, none⟩)) rfl (by kernel_rfl) (by kernel_rfl) (by kernel_rfl) (fun _ _ _ h => h) (Or.inl ⟨by rfl, ?_⟩) hHeld ?_
  · intro w' hSw
    try dsimp only at hSw
    go_simp
  simp only [Act.put]
  refine wpAnyH_take (i := 9) (v := .int .i64 (W : Int)) rfl (by kernel_rfl) (by kernel_rfl) (by kernel_rfl) (fun _ _ _ h => h) (Or.inl ⟨by rfl, ?_⟩) hHeld ?_
  · intro w' hSw
    try dsimp only at hSw
    go_simp
  simp only [Act.put]
  refine wpAnyH_take (i := 12) (v := .int .i64 (x : Int)) rfl (by kernel_rfl) (by kernel_rfl) (by kernel_rfl) (fun _ _ _ h => h) (Or.inl ⟨by rfl, ?_⟩) hHeld ?_
  · intro w' hSw
    try dsimp only at hSw
    go_simp
  simp only [Act.put]
  refine wpAnyH_take (i := 13) (v := .int .i64 (cx : Int)) rfl (by kernel_rfl) (by kernel_rfl) (by kernel_rfl) (fun _ _ _ h => h) (Or.inl ⟨by rfl, ?_⟩) hHeld ?_
  · intro w' hSw
    try dsimp only at hSw
    go_simp
  simp only [Act.put]
  refine wpAnyH_take (i := 17) (v := .int .i64 (x : Int)) rfl (by kernel_rfl) (by kernel_rfl) (by kernel_rfl) (fun _ _ _ h => h) (Or.inl ⟨by rfl, ?_⟩) hHeld ?_
  · intro w' hSw
    try dsimp only at hSw
    go_simp
  simp only [Act.put]
  refine wpAnyH_take (i := 18) (v := .int .i64 (y : Int)) rfl (by kernel_rfl) (by kernel_rfl) (by kernel_rfl) (fun _ _ _ h => h) (Or.inl ⟨by rfl, ?_⟩) hHeld ?_
  · intro w' hSw
    try dsimp only at hSw
    go_simp
  simp only [Act.put]
  refine wpAnyH_ready (rs := [10]) (by kernel_rfl) (by simp) ?_
  refine AllReadyH.cons rfl (fun K hK => ?_) AllReadyH.nil
  go_simp
  refine (unhide HT _).mono ?_
  rintro e w3 ⟨rfl, hw⟩
  have hw := hw.symm
  subst hw
  dsimp only
  refine hK.out _ _ (unhide hKS _ hdr) (fun hHeld => ?_)
  clear hK K
  try simp only [Act.put, List.setIfInBounds_toArray, List.set_cons_zero, List.set_cons_succ]
  refine wpAnyH_take (i := 11) (v := .int .i64 (u : Int)) rfl (by kernel_rfl) (by kernel_rfl) (by kernel_rfl) (fun _ _ _ h => h) (Or.inl ⟨by rfl, ?_⟩) hHeld ?_
  · intro w' hSw
    try dsimp only at hSw
    go_simp
  simp only [Act.put, List.setIfInBounds_toArray]
  refine wpAnyH_take (i := 14) (v := .int .i64 (k : Int)) rfl (by kernel_rfl) (by kernel_rfl) (by kernel_rfl) (fun _ _ _ h => h) (Or.inl ⟨by rfl, ?_⟩) hHeld ?_
  · intro w' hSw
    try dsimp only at hSw
    go_simp
  simp only [Act.put]
  refine wpAnyH_take (i := 15) (v := .pointer (some ⟨t, k * 5, none⟩)) rfl (by kernel_rfl) (by kernel_rfl) (by kernel_rfl) (fun _ _ _ h => h) (Or.inl ⟨by rfl, ?_⟩) hHeld ?_
  · intro w' hSw
    try dsimp only at hSw
    go_simp
  simp only [Act.put]
  refine wpAnyH_take (i := 16) (v := .agg #[.int .i64 (X : Int), .int .i64 (Y : Int), .int .i64 (U : Int), .int .i64 (V : Int), .slice a mk ca]) rfl (by kernel_rfl) (by kernel_rfl) (by kernel_rfl) (fun _ _ _ h => h) (Or.inl ⟨by rfl, ?_⟩) hHeld ?_
  · intro w' hSw
    try dsimp only at hSw
    go_simp
  simp only [Act.put]
  refine wpAnyH_ready (rs := [19]) (by kernel_rfl) (by simp) ?_
  refine AllReadyH.cons rfl (fun K hK => ?_) AllReadyH.nil
  go_simp
  refine (unhide HATa w1.drew hdr).mono ?_
  rintro e w3 ⟨rfl, hb3⟩
  have hq3 := hdr.trans (hb3.mono (Nat.le_refl _))
  dsimp only
  refine hK.out _ _ (unhide hKS _ hq3) (fun hHeld => ?_)
  clear hK K
  try simp only [Act.put, List.setIfInBounds_toArray, List.set_cons_zero, List.set_cons_succ]
  refine wpAnyH_ready (rs := [20]) (by kernel_rfl) (by simp) ?_
  refine AllReadyH.cons rfl (fun K hK => ?_) AllReadyH.nil
  have kz3 := blk_below (unhide HKZ) hq3 hzl
  have z0 : w3.cell? ⟨B, 0, none⟩ = some (.int .u8 0) := blk_cell kz3 0
  have f0 := blk_frozen kz3 0
  have z1 : w3.cell? ⟨B, 1, none⟩ = some (.int .u8 0) := blk_cell kz3 1
  have f1 := blk_frozen kz3 1
  have z2 : w3.cell? ⟨B, 2, none⟩ = some (.int .u8 0) := blk_cell kz3 2
  have f2 := blk_frozen kz3 2
  have z3 : w3.cell? ⟨B, 3, none⟩ = some (.int .u8 0) := blk_cell kz3 3
  have f3 := blk_frozen kz3 3
  go_simp
  obtain ⟨s0, s1, s2, s3, s4, s5, s6⟩ := unhide hKS _ hq3
  refine hK.out _ _ (⟨(far4 w3 B _ _ _ _ _ _ hgB.symm).trans s0, (far4 w3 B _ _ _ _ _ _ hgB.symm).trans s1, (far4 w3 B _ _ _ _ _ _ htB.symm).trans s2, (far4 w3 B _ _ _ _ _ _ htB.symm).trans s3, (far4 w3 B _ _ _ _ _ _ htB.symm).trans s4, (far4 w3 B _ _ _ _ _ _ htB.symm).trans s5, (far4 w3 B _ _ _ _ _ _ htB.symm).trans s6⟩) (fun hHeld => ?_)
  clear hK K
  try simp only [Act.put, List.setIfInBounds_toArray, List.set_cons_zero, List.set_cons_succ]
  refine wpAnyH_take (i := 21) (v := .nilIface) rfl (by kernel_rfl) (by kernel_rfl) (by kernel_rfl) (fun _ _ _ h => h) (Or.inl ⟨by rfl, ?_⟩) hHeld ?_
  · intro w' hSw
    try dsimp only at hSw
    go_simp
  simp only [Act.put, List.setIfInBounds_toArray]
  refine wpAnyH_done (by kernel_rfl) ?_ _
  have hs3 := hq3.size
  have hlB3 : B < w3.heap.size := by omega
  have HB3 := hide ((unhide HB1).trans (hq3.mono (by omega)))
  clear hHeld hKS s0 s1 s2 s3 s4 s5 s6 hb3 hq3 hdr t0 t1 t2 t3 t4 c0 c1 c2 kz3
  go_wp2
  refine bodyPost_ret (v := .tuple #[.agg #[.int .u8 (v.r.toNat : Int), .int .u8 (v.g.toNat : Int), .int .u8 (v.b.toNat : Int), .int .u8 (v.a.toNat : Int)], .nilIface]) ?_ rfl ⟨rfl, ?_⟩
  · rw [results_cell_tmp (p := 6) (u := 7) (ty := 26) (by kernel_rfl)]
    go_simp
  · rw [← unhide HBE]
    exact ((((unhide HB3).setCell (p := ⟨B, 0, none⟩) (Nat.le_refl _) _).setCell (p := ⟨B, 1, none⟩) (Nat.le_refl _) _).setCell (p := ⟨B, 2, none⟩) (Nat.le_refl _) _).setCell (p := ⟨B, 3, none⟩) (Nat.le_refl _) _
end Go.Proofs.YtcicbafdacfbpaiDoor
