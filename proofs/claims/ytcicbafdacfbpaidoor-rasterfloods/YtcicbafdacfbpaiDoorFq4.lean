/- Floods: the program's. -/
import Derived.Test.YtcicbafdacfbpaiDoorFq3
import Derived.Test.YtcicbafdacfbpaiDoorRt3
namespace Go.Proofs.YtcicbafdacfbpaiDoor
open Go.RowKit

set_option maxHeartbeats 4000000 in
set_option maxRecDepth 100000 in
theorem flood_ok (W H x y : Nat) (a : Option Addr) (n c : Nat) (p : Nat → Px) (q : Px) (w : World) (hP : IsPx w a n p) (hW0 : 1 ≤ W) (hW : W ≤ 256) (hH0 : 1 ≤ H) (hH : H ≤ 256) (hn : n = W * H) (hx : x < W) (hy : y < H) :
    Calls Tryd.prog 7 #[.agg #[.int .i64 (W : Int), .int .i64 (H : Int), .slice a n c], .int .i64 (x : Int), .int .i64 (y : Int), q.val] w fun e w' => ∃ f a2 c2, e = .returned (.tuple #[.agg #[.int .i64 (W : Int), .int .i64 (H : Int), .slice a2 (W * H) c2], .nilIface]) ∧ (FloodF W H p x y f ∧ IsPx w' a2 (W * H) (grid W fun x y => if f (y * W + x) then q else p (y * W + x))) ∧ Below w.heap.size w w' := by
  have HA := hide (al3 w (.cells #[.int .i64 (W : Int), .int .i64 (H : Int), .slice a n c] 24) (.cells #[.int .u8 (q.r.toNat : Int), .int .u8 (q.g.toNat : Int), .int .u8 (q.b.toNat : Int), .int .u8 (q.a.toNat : Int)] 26) (.cells #[.int .i64 0, .int .i64 0, .slice none 0 0] 24))
  have HR := hide (fun w => isRight_any (W : Int) (H : Int) a n c w)
  rw [decide_eq_true (show RightP (W : Int) (H : Int) n by unfold RightP; rw [hn]; exact ⟨⟨by omega, by omega⟩, ⟨by omega, by omega⟩, by simp⟩)] at HR
  have HH := hide (fun w => holds_any (W : Int) (H : Int) (x : Int) (y : Int) a n c w)
  rw [decide_eq_true (show (0 : Int) ≤ x ∧ (x : Int) < W ∧ (0 : Int) ≤ y ∧ (y : Int) < H by omega)] at HH
  have HL := hide (fun wx (h : Below w.heap.size w wx) => likeFrom_any W H x y a n c p wx (hP.below h) hW0 hW hH hn hx hy)
  have HPT : Hid (∀ wx g f, Below w.heap.size w wx → MR wx g n f → Calls Tryd.prog 26 #[.agg #[.int .i64 (W : Int), .int .i64 (H : Int), .slice a n c], .agg #[.int .u8 (q.r.toNat : Int), .int .u8 (q.g.toNat : Int), .int .u8 (q.b.toNat : Int), .int .u8 (q.a.toNat : Int)], .func (.func 28) #[.agg #[.int .i64 (W : Int), .slice (some ⟨g, 0, none⟩) n n]] #[]] wx fun e w' => ∃ a2 c2, e = .returned (.agg #[.int .i64 (W : Int), .int .i64 (H : Int), .slice a2 (W * H) c2]) ∧ IsPxN wx.heap.size w' a2 (W * H) (grid W fun x y => if f (y * W + x) then q else p (y * W + x)) ∧ Below wx.heap.size wx w') := fun wx g f hb hm =>
    painted_any W H 28 #[.agg #[.int .i64 (W : Int), .slice (some ⟨g, 0, none⟩) n n]] #[] a n c p q (fun x y => f (y * W + x)) wx (hP.below hb) hW0 hW hH hn (fun args w => by go_simp) (fun x y wq hx hy hq => isMarked_any W H g n n x y f wq (hm.below hq hm.lt) hW hH hx hy hn)
  obtain ⟨M, hM⟩ : ∃ M, M = W * H := ⟨_, rfl⟩
  rw [← hM] at HPT ⊢
  unfold Px.val
  obtain ⟨B, hB⟩ : ∃ B, B = w.heap.size := ⟨_, rfl⟩
  clear hP hn hM
  go_enter Tryd.func7, Tryd.ntmps7
  go_wp2_with fail
  generalize ((w.alloc (.cells #[.int .i64 (W : Int), .int .i64 (H : Int), .slice a n c] 24)).alloc (.cells #[.int .u8 (q.r.toNat : Int), .int .u8 (q.g.toNat : Int), .int .u8 (q.b.toNat : Int), .int .u8 (q.a.toNat : Int)] 26)).alloc (.cells #[.int .i64 0, .int .i64 0, .slice none 0 0] 24) = w1 at *
  rw [← hB] at HA HL HPT ⊢
  have HBE := hide hB
  clear hB
  obtain ⟨hs1, k0, k1, k2, hb1⟩ := unhide HA
  refine (unhide HR w1).mono ?_
  rintro e w2 ⟨rfl, hb2⟩
  have hs2 := hb2.size
  have k0 := blk_below k0 hb2 (by omega)
  have k1 := blk_below k1 hb2 (by omega)
  have k2 := blk_below k2 hb2 (by omega)
  have HB2 := hide (hb1.trans (hb2.mono (by omega)))
  have c0 : w2.cell? ⟨B, 0, none⟩ = some (.int .i64 (W : Int)) := blk_cell k0 0
  have c1 : w2.cell? ⟨B, 1, none⟩ = some (.int .i64 (H : Int)) := blk_cell k0 1
  have c2 : w2.cell? ⟨B, 2, none⟩ = some (.slice a n c) := blk_cell k0 2
  have hl0 := blk_lt k0
  clear HA hb1 hb2 HR
  go_wp2_with fail
  refine (unhide HH w2).mono ?_
  rintro e w3 ⟨rfl, hb3⟩
  have hs3 := hb3.size
  have k0 := blk_below k0 hb3 (by omega)
  have k1 := blk_below k1 hb3 (by omega)
  have k2 := blk_below k2 hb3 (by omega)
  have HB3 := hide ((unhide HB2).trans (hb3.mono (by omega)))
  have c0 : w3.cell? ⟨B, 0, none⟩ = some (.int .i64 (W : Int)) := blk_cell k0 0
  have c1 : w3.cell? ⟨B, 1, none⟩ = some (.int .i64 (H : Int)) := blk_cell k0 1
  have c2 : w3.cell? ⟨B, 2, none⟩ = some (.slice a n c) := blk_cell k0 2
  have d0 : w3.cell? ⟨B + 1, 0, none⟩ = some (.int .u8 (q.r.toNat : Int)) := blk_cell k1 0
  have d1 : w3.cell? ⟨B + 1, 1, none⟩ = some (.int .u8 (q.g.toNat : Int)) := blk_cell k1 1
  have d2 : w3.cell? ⟨B + 1, 2, none⟩ = some (.int .u8 (q.b.toNat : Int)) := blk_cell k1 2
  have d3 : w3.cell? ⟨B + 1, 3, none⟩ = some (.int .u8 (q.a.toNat : Int)) := blk_cell k1 3
  have hl0 := blk_lt k0
  have hl1 := blk_lt k1
  have hl2 := blk_lt k2
  have HK2 := hide k2
  have hdr := (Below.refl w3.heap.size w3).drew
  clear hb3 HH HB2 k0 k1 k2
  go_wp2
  have hKS := hide (fun wx (h : Below w3.heap.size w3 wx) => (⟨fcell h hl0 c0, fcell h hl0 c1, fcell h hl0 c2, fcell h hl1 d0, fcell h hl1 d1, fcell h hl1 d2, fcell h hl1 d3⟩ : wx.cell? ⟨B, 0, none⟩ = some (.int .i64 (W : Int)) ∧ wx.cell? ⟨B, 1, none⟩ = some (.int .i64 (H : Int)) ∧ wx.cell? ⟨B, 2, none⟩ = some (.slice a n c) ∧ wx.cell? ⟨B + 1, 0, none⟩ = some (.int .u8 (q.r.toNat : Int)) ∧ wx.cell? ⟨B + 1, 1, none⟩ = some (.int .u8 (q.g.toNat : Int)) ∧ wx.cell? ⟨B + 1, 2, none⟩ = some (.int .u8 (q.b.toNat : Int)) ∧ wx.cell? ⟨B + 1, 3, none⟩ = some (.int .u8 (q.a.toNat : Int))))
  refine wp_region_held_drew (S := fun w' => w'.cell? ⟨B, 0, none⟩ = some (.int .i64 (W : Int)) ∧ w'.cell? ⟨B, 1, none⟩ = some (.int .i64 (H : Int)) ∧ w'.cell? ⟨B, 2, none⟩ = some (.slice a n c) ∧ w'.cell? ⟨B + 1, 0, none⟩ = some (.int .u8 (q.r.toNat : Int)) ∧ w'.cell? ⟨B + 1, 1, none⟩ = some (.int .u8 (q.g.toNat : Int)) ∧ w'.cell? ⟨B + 1, 2, none⟩ = some (.int .u8 (q.b.toNat : Int)) ∧ w'.cell? ⟨B + 1, 3, none⟩ = some (.int .u8 (q.a.toNat : Int))) (by kernel_rfl) (unhide hKS _ hdr) (fun hHeld => ?_)
  refine wpAnyH_take (i := 0) (v := .agg #[.int .i64 (W : Int), .int .i64 (H : Int), .slice a n c]) rfl (by kernel_rfl) (by kernel_rfl) (by kernel_rfl) (fun _ _ _ h => h) (Or.inl ⟨by rfl, ?_⟩) hHeld ?_
  · intro w' hSw
    try dsimp only at hSw
    go_simp
  simp only [List.getElem_toArray, List.getElem_cons_zero, Act.put, List.setIfInBounds_toArray, List.set_cons_zero, List.set_cons_succ]
  refine wpAnyH_take (i := 1) (v := .agg #[.int .u8 (q.r.toNat : Int), .int .u8 (q.g.toNat : Int), .int .u8 (q.b.toNat : Int), .int .u8 (q.a.toNat : Int)]) rfl (by kernel_rfl) (by kernel_rfl) (by kernel_rfl) (fun _ _ _ h => h) (Or.inl ⟨by rfl, ?_⟩) hHeld ?_
  · intro w' hSw
    try dsimp only at hSw
    go_simp
  simp only [List.getElem_toArray, List.getElem_cons_succ, List.getElem_cons_zero, Act.put, List.setIfInBounds_toArray, List.set_cons_zero, List.set_cons_succ]
  refine wpAnyH_take (i := 2) (v := .agg #[.int .i64 (W : Int), .int .i64 (H : Int), .slice a n c]) rfl (by kernel_rfl) (by kernel_rfl) (by kernel_rfl) (fun _ _ _ h => h) (Or.inl ⟨by rfl, ?_⟩) hHeld ?_
  · intro w' hSw
    try dsimp only at hSw
    go_simp
  simp only [List.getElem_toArray, List.getElem_cons_succ, List.getElem_cons_zero, Act.put, List.setIfInBounds_toArray, List.set_cons_zero, List.set_cons_succ]
  refine wpAnyH_take (i := 3) (v := .int .i64 (x : Int)) rfl (by kernel_rfl) (by kernel_rfl) (by kernel_rfl) (fun _ _ _ h => h) (Or.inl ⟨by rfl, ?_⟩) hHeld ?_
  · intro w' hSw
    try dsimp only at hSw
    go_simp
  simp only [List.getElem_toArray, List.getElem_cons_succ, List.getElem_cons_zero, Act.put, List.setIfInBounds_toArray, List.set_cons_zero, List.set_cons_succ]
  refine wpAnyH_take (i := 4) (v := .int .i64 (y : Int)) rfl (by kernel_rfl) (by kernel_rfl) (by kernel_rfl) (fun _ _ _ h => h) (Or.inl ⟨by rfl, ?_⟩) hHeld ?_
  · intro w' hSw
    try dsimp only at hSw
    go_simp
  simp only [List.getElem_toArray, List.getElem_cons_succ, List.getElem_cons_zero, Act.put, List.setIfInBounds_toArray, List.set_cons_zero, List.set_cons_succ]
  refine wpAnyH_ready (rs := [5]) (by kernel_rfl) (by simp) ?_
  refine AllReadyH.cons rfl (fun K hK => ?_) AllReadyH.nil
  go_simp
  refine (unhide HL w3.drew ((unhide HB3).drew)).mono ?_
  rintro e w4 ⟨g, f, rfl, hg4, hm4, hf4, hb4⟩
  have hq4 := hdr.trans (hb4.mono (Nat.le_refl _))
  have hB4 := (unhide HB3).trans (hq4.mono (by omega))
  dsimp only
  refine hK.out _ _ (unhide hKS _ hq4) (fun hHeld => ?_)
  clear hK K
  try simp only [List.getElem_toArray, List.getElem_cons_succ, List.getElem_cons_zero, Act.put, List.setIfInBounds_toArray, List.set_cons_zero, List.set_cons_succ]
  refine wpAnyH_take (i := 6) (v := .func (.func 28) #[.agg #[.int .i64 (W : Int), .slice (some ⟨g, 0, none⟩) n n]] #[]) rfl (by kernel_rfl) (by kernel_rfl) (by kernel_rfl) (fun _ _ _ h => h) (Or.inl ⟨by rfl, ?_⟩) hHeld ?_
  · intro w' hSw
    try dsimp only at hSw
    go_simp
  simp only [List.getElem_toArray, List.getElem_cons_succ, List.getElem_cons_zero, Act.put, List.setIfInBounds_toArray, List.set_cons_zero, List.set_cons_succ]
  refine wpAnyH_ready (rs := [7]) (by kernel_rfl) (by simp) ?_
  refine AllReadyH.cons rfl (fun K hK => ?_) AllReadyH.nil
  go_simp
  refine (unhide HPT w4 g f hB4 hm4).mono ?_
  rintro e w5 ⟨a2, c2', rfl, hp5, hb5⟩
  have hq5 := hq4.trans (hb5.mono hq4.size)
  dsimp only
  refine hK.out _ _ (unhide hKS _ hq5) (fun hHeld => ?_)
  clear hK K
  try simp only [List.getElem_toArray, List.getElem_cons_succ, List.getElem_cons_zero, Act.put, List.setIfInBounds_toArray, List.set_cons_zero, List.set_cons_succ]
  refine wpAnyH_ready (rs := [8]) (by kernel_rfl) (by simp) ?_
  refine AllReadyH.cons rfl (fun K hK => ?_) AllReadyH.nil
  have kz := blk_below (unhide HK2) hq5 hl2
  have z0 : w5.cell? ⟨B + 2, 0, none⟩ = some (.int .i64 0) := blk_cell kz 0
  have r0 := blk_frozen kz 0
  have z1 : w5.cell? ⟨B + 2, 1, none⟩ = some (.int .i64 0) := blk_cell kz 1
  have r1 := blk_frozen kz 1
  have z2 : w5.cell? ⟨B + 2, 2, none⟩ = some (.slice none 0 0) := blk_cell kz 2
  have r2 := blk_frozen kz 2
  obtain ⟨s0, s1, s2, s3, s4, s5, s6⟩ := unhide hKS _ hq5
  go_simp
  refine hK.out _ _ (⟨(World.cell?_setCell_far _ _ _ _ (by show B + 2 ≠ B; omega)).trans ((World.cell?_setCell_far _ _ _ _ (by show B + 2 ≠ B; omega)).trans ((World.cell?_setCell_far _ _ _ _ (by show B + 2 ≠ B; omega)).trans s0)), (World.cell?_setCell_far _ _ _ _ (by show B + 2 ≠ B; omega)).trans ((World.cell?_setCell_far _ _ _ _ (by show B + 2 ≠ B; omega)).trans ((World.cell?_setCell_far _ _ _ _ (by show B + 2 ≠ B; omega)).trans s1)), (World.cell?_setCell_far _ _ _ _ (by show B + 2 ≠ B; omega)).trans ((World.cell?_setCell_far _ _ _ _ (by show B + 2 ≠ B; omega)).trans ((World.cell?_setCell_far _ _ _ _ (by show B + 2 ≠ B; omega)).trans s2)), (World.cell?_setCell_far _ _ _ _ (by show B + 2 ≠ B + 1; omega)).trans ((World.cell?_setCell_far _ _ _ _ (by show B + 2 ≠ B + 1; omega)).trans ((World.cell?_setCell_far _ _ _ _ (by show B + 2 ≠ B + 1; omega)).trans s3)), (World.cell?_setCell_far _ _ _ _ (by show B + 2 ≠ B + 1; omega)).trans ((World.cell?_setCell_far _ _ _ _ (by show B + 2 ≠ B + 1; omega)).trans ((World.cell?_setCell_far _ _ _ _ (by show B + 2 ≠ B + 1; omega)).trans s4)), (World.cell?_setCell_far _ _ _ _ (by show B + 2 ≠ B + 1; omega)).trans ((World.cell?_setCell_far _ _ _ _ (by show B + 2 ≠ B + 1; omega)).trans ((World.cell?_setCell_far _ _ _ _ (by show B + 2 ≠ B + 1; omega)).trans s5)), (World.cell?_setCell_far _ _ _ _ (by show B + 2 ≠ B + 1; omega)).trans ((World.cell?_setCell_far _ _ _ _ (by show B + 2 ≠ B + 1; omega)).trans ((World.cell?_setCell_far _ _ _ _ (by show B + 2 ≠ B + 1; omega)).trans s6))⟩) (fun hHeld => ?_)
  clear hK K
  try simp only [List.getElem_toArray, List.getElem_cons_succ, List.getElem_cons_zero, Act.put, List.setIfInBounds_toArray, List.set_cons_zero, List.set_cons_succ]
  refine wpAnyH_take (i := 9) (v := .nilIface) rfl (by kernel_rfl) (by kernel_rfl) (by kernel_rfl) (fun _ _ _ h => h) (Or.inl ⟨by rfl, ?_⟩) hHeld ?_
  · intro w' hSw
    try dsimp only at hSw
    go_simp
  simp only [List.getElem_toArray, List.getElem_cons_succ, List.getElem_cons_zero, Act.put, List.setIfInBounds_toArray, List.set_cons_zero, List.set_cons_succ]
  refine wpAnyH_done (by kernel_rfl) ?_ _
  have hs5 := hq5.size
  have hlz : B + 2 < w5.heap.size := by omega
  have HB5 := hide ((unhide HB3).trans (hq5.mono (by omega)))
  have HFF := hide hf4
  have HP5 := hide hp5
  have hs4 := hq4.size
  have hs4b : w3.heap.size ≤ w4.heap.size := hq4.size
  clear hHeld hKS s0 s1 s2 s3 s4 s5 s6 hb4 hb5 hq4 hq5 hdr c0 c1 c2 d0 d1 d2 d3 kz hm4 hf4 hp5 hB4
  go_wp2
  refine bodyPost_ret (v := .tuple #[.agg #[.int .i64 (W : Int), .int .i64 (H : Int), .slice a2 M c2'], .nilIface]) ?_ rfl ⟨f, a2, c2', rfl, ⟨unhide HFF, ?_⟩, ?_⟩
  · rw [results_cell_tmp (p := 8) (u := 9) (ty := 24) (by kernel_rfl)]
    go_simp
  · exact ((((unhide HP5).far (show B + 2 < w4.heap.size by omega) _).far (show B + 2 < w4.heap.size by omega) _).far (show B + 2 < w4.heap.size by omega) _).is
  · rw [← unhide HBE]
    exact (((unhide HB5).setCell (p := ⟨B + 2, 0, none⟩) (by show B ≤ B + 2; omega) _).setCell (p := ⟨B + 2, 1, none⟩) (by show B ≤ B + 2; omega) _).setCell (p := ⟨B + 2, 2, none⟩) (by show B ≤ B + 2; omega) _
end Go.Proofs.YtcicbafdacfbpaiDoor
