/- Tiles in which two pictures are unlike: the document's. -/
import Derived.Test.YtcicbafdacfbpaiGreatDoorTj5
namespace Go.Proofs.YtcicbafdacfbpaiGreatDoor
open Go.RowKit

theorem range_getD {n i : Nat} (h : i < n) : (List.range n).getD i 0 = i := by
  rw [List.getD_eq_getElem?_getD, List.getElem?_range h]; rfl

set_option maxHeartbeats 4000000 in
set_option maxRecDepth 100000 in
theorem changedOf_any (W H : Nat) (a b : Option Addr) (n c d : Nat) (p q : Nat → Px) (w : World) (hA : IsPx w a n p) (hB : IsPx w b n q) (hW0 : 1 ≤ W) (hW : W ≤ 256) (hH : H ≤ 256) (hn : n = W * H) :
    Calls Tryz.prog 23 #[.agg #[.int .i64 (W : Int), .int .i64 (H : Int), .slice a n c], .agg #[.int .i64 (W : Int), .int .i64 (H : Int), .slice b n d]] w fun e w' => ∃ l c', e = .returned (.slice l (fnd (unlP W H p q) (tn W H)).length c') ∧ IsR w' l W H (fnd (unlP W H p q) (tn W H)) ∧ Below w.heap.size w w' := by
  have hN : tn W H ≤ 256 := Nat.mul_le_mul (tc_le W hW) (tc_le H hH)
  have hAL := hide (al2 w (.cells #[.int .i64 (W : Int), .int .i64 (H : Int), .slice a n c] 24) (.cells #[.int .i64 (W : Int), .int .i64 (H : Int), .slice b n d] 24))
  have HT := hide (fun w => tilesOfR_any W H w hW0 hW hH)
  have HCA : Hid (∀ i wx, i < tn W H → Below w.heap.size w wx → Calls Tryz.prog 52 #[.agg #[.int .i64 (W : Int), .int .i64 (H : Int), .slice a n c], .agg #[.int .i64 (tx W i : Int), .int .i64 (ty W i : Int), .int .i64 (tw W i : Int), .int .i64 (th W H i : Int)]] wx fun e w' => ∃ g c2, e = .returned (.agg #[.int .i64 (tw W i : Int), .int .i64 (th W H i : Int), .slice (some ⟨g, 0, none⟩) (tpn W H i) c2]) ∧ IsPx w' (some ⟨g, 0, none⟩) (tpn W H i) (tpx W p i) ∧ Below wx.heap.size wx w') := fun i wx hi hb => by
    obtain ⟨h1, h2, h3, h4, h5, h6⟩ := tile_in hW0 hi
    refine (cropOf_any W H a n c p (tx W i) (ty W i) (tw W i) (th W H i) wx hW hH hn (hA.below hb) h1 h2).mono ?_
    rintro e w' ⟨g, c2, rfl, hr, hb2⟩
    exact ⟨g, c2, rfl, hr.isPx (by have := (tpn_in hW0 hi).2; unfold tpn at this; omega), hb2⟩
  have HCB : Hid (∀ i wx, i < tn W H → Below w.heap.size w wx → Calls Tryz.prog 52 #[.agg #[.int .i64 (W : Int), .int .i64 (H : Int), .slice b n d], .agg #[.int .i64 (tx W i : Int), .int .i64 (ty W i : Int), .int .i64 (tw W i : Int), .int .i64 (th W H i : Int)]] wx fun e w' => ∃ g c2, e = .returned (.agg #[.int .i64 (tw W i : Int), .int .i64 (th W H i : Int), .slice (some ⟨g, 0, none⟩) (tpn W H i) c2]) ∧ IsPx w' (some ⟨g, 0, none⟩) (tpn W H i) (tpx W q i) ∧ Below wx.heap.size wx w') := fun i wx hi hb => by
    obtain ⟨h1, h2, h3, h4, h5, h6⟩ := tile_in hW0 hi
    refine (cropOf_any W H b n d q (tx W i) (ty W i) (tw W i) (th W H i) wx hW hH hn (hB.below hb) h1 h2).mono ?_
    rintro e w' ⟨g, c2, rfl, hr, hb2⟩
    exact ⟨g, c2, rfl, hr.isPx (by have := (tpn_in hW0 hi).2; unfold tpn at this; omega), hb2⟩
  have HPN : Hid (∀ i, i < tn W H → tpn W H i ≤ 256) := fun i hi => (tpn_in hW0 hi).2
  have HFD : Hid (∀ i, fnd (unlP W H p q) (i + 1) = if unlP W H p q i = true then fnd (unlP W H p q) i ++ [i] else fnd (unlP W H p q) i) := fun i => rfl
  have HFL : Hid (∀ i, (fnd (unlP W H p q) i).length ≤ i) := fun i => fnd_length _ i
  have HUD : Hid (∀ i, unlP W H p q i = !decide (Eqv (tpx W p i) (tpx W q i) (tpn W H i))) := fun i => rfl
  obtain ⟨F, hF⟩ : ∃ F, F = fnd (unlP W H p q) := ⟨_, rfl⟩
  rw [← hF] at HFD HFL ⊢
  have HF0 : Hid (F 0 = []) := by rw [hF]; exact rfl
  clear hA hB hn hF
  go_enter Tryz.func23, Tryz.ntmps23
  go_wp2_with fail
  generalize (w.alloc (.cells #[.int .i64 (W : Int), .int .i64 (H : Int), .slice a n c] 24)).alloc (.cells #[.int .i64 (W : Int), .int .i64 (H : Int), .slice b n d] 24) = w1 at *
  obtain ⟨B, hB⟩ : ∃ B, B = w.heap.size := ⟨_, rfl⟩
  rw [← hB] at hAL HCA HCB ⊢
  obtain ⟨hs1, k0, k1, hb1⟩ := unhide hAL
  refine (unhide HT w1).mono ?_
  rintro e w2 ⟨la, lc, rfl, hR, hb2⟩
  have HR := hide hR
  have HK0 := hide (blk_below k0 hb2 (blk_lt k0))
  have HK1 := hide (blk_below k1 hb2 (blk_lt k1))
  have HB2 := hide (hb1.trans (hb2.mono (by omega)))
  have hs2 := hb2.size
  have HBE := hide hB
  have HO0 : Hid (w2.ownsRow w2.heap.size 37 4 (.slice none 0 0) (F 0).length (rectL W H (F 0))) := by rw [unhide HF0]; exact World.ownsRow_nil _ _ _ _
  have HW0 := hide (Below.refl w2.heap.size w2)
  clear hR k0 k1 hb1 hb2 hAL HT hB
  obtain ⟨nt, hnt⟩ : ∃ nt, nt = tn W H := ⟨_, rfl⟩
  rw [← hnt] at HR hN HCA HCB HPN ⊢
  have HNT := hide hnt
  clear hnt
  go_wp2
  go_loopw [5, 7] (fun lv iv wr => ∃ i : Nat, i ≤ nt ∧ iv = .int .i64 (i : Int) ∧ Hid (wr.ownsRow w2.heap.size 37 4 lv (F i).length (rectL W H (F i))) ∧ Hid (Below w2.heap.size w2 wr)) (fun _ iv _ => nt - (intOf iv).toNat)
  case atStart => exact ⟨0, Nat.zero_le _, rfl, HO0, HW0⟩
  case round =>
    clear HO0 HW0
    obtain ⟨i, hi, rfl, HO, HW⟩ := hrel
    by_cases hlt : i < nt
    · have d1 : decide ((i : Int) < (nt : Int)) = true := decide_eq_true (by omega)
      have d1n : decide (i < nt) = true := decide_eq_true hlt
      have hii : (i : Int) < (nt : Int) := by omega
      obtain ⟨rb, hrb, hcells⟩ := ((unhide HR).below (unhide HW)).resolve_left (fun e => by have := congrArg List.length e; rw [List.length_range] at this; simp at this; omega)
      subst hrb
      have hrc := hcells i (by rw [List.length_range]; exact hlt)
      rw [range_getD hlt] at hrc
      obtain ⟨r0, r1, r2, r3⟩ := hrc
      have kA := blk_below (unhide HK0) (unhide HW) (blk_lt (unhide HK0))
      have kB := blk_below (unhide HK1) (unhide HW) (blk_lt (unhide HK1))
      have hlA := blk_lt kA
      have hlB := blk_lt kB
      have hlR : rb < wr.heap.size := World.block_lt_of_cell? _ _ r0
      have a0 : wr.cell? ⟨B, 0, none⟩ = some (.int .i64 (W : Int)) := blk_cell kA 0
      have a1 : wr.cell? ⟨B, 1, none⟩ = some (.int .i64 (H : Int)) := blk_cell kA 1
      have a2 : wr.cell? ⟨B, 2, none⟩ = some (.slice a n c) := blk_cell kA 2
      have b0 : wr.cell? ⟨B + 1, 0, none⟩ = some (.int .i64 (W : Int)) := blk_cell kB 0
      have b1 : wr.cell? ⟨B + 1, 1, none⟩ = some (.int .i64 (H : Int)) := blk_cell kB 1
      have b2 : wr.cell? ⟨B + 1, 2, none⟩ = some (.slice b n d) := blk_cell kB 2
      have hBr := (unhide HB2).trans ((unhide HW).mono (by omega))
      have HCAi := hide (fun wx (h : Below wr.heap.size wr wx) => unhide HCA i wx hlt (hBr.trans (h.mono (by have := (unhide HW).size; omega))))
      have HCBi := hide (fun wx (h : Below wr.heap.size wr wx) => unhide HCB i wx hlt (hBr.trans (h.mono (by have := (unhide HW).size; omega))))
      have hpn := unhide HPN i hlt
      have HFi := hide (unhide HFD i)
      have hfl := unhide HFL i
      have HUi := hide (unhide HUD i)
      have hdr := (Below.refl wr.heap.size wr).drew
      have hswr := (unhide HW).size
      clear hcells kA kB hBr
      go_wp2
      have hKS := hide (fun wx (h : Below wr.heap.size wr wx) => (⟨tcell h hlA a0, tcell h hlA a1, tcell h hlA a2, tcell h hlB b0, tcell h hlB b1, tcell h hlB b2, tcell h hlR r0, tcell h hlR r1, tcell h hlR r2, tcell h hlR r3⟩ : wx.cell? ⟨B, 0, none⟩ = some (.int .i64 (W : Int)) ∧ wx.cell? ⟨B, 1, none⟩ = some (.int .i64 (H : Int)) ∧ wx.cell? ⟨B, 2, none⟩ = some (.slice a n c) ∧ wx.cell? ⟨B + 1, 0, none⟩ = some (.int .i64 (W : Int)) ∧ wx.cell? ⟨B + 1, 1, none⟩ = some (.int .i64 (H : Int)) ∧ wx.cell? ⟨B + 1, 2, none⟩ = some (.slice b n d) ∧ wx.cell? ⟨rb, i * 4, none⟩ = some (.int .i64 (tx W i : Int)) ∧ wx.cell? ⟨rb, i * 4 + 1, none⟩ = some (.int .i64 (ty W i : Int)) ∧ wx.cell? ⟨rb, i * 4 + 2, none⟩ = some (.int .i64 (tw W i : Int)) ∧ wx.cell? ⟨rb, i * 4 + 3, none⟩ = some (.int .i64 (th W H i : Int))))
      obtain ⟨lv, lvc, rfl⟩ := own_shapeT (unhide HO)
      refine wp_region_held_drew (S := fun w' => w'.cell? ⟨B, 0, none⟩ = some (.int .i64 (W : Int)) ∧ w'.cell? ⟨B, 1, none⟩ = some (.int .i64 (H : Int)) ∧ w'.cell? ⟨B, 2, none⟩ = some (.slice a n c) ∧ w'.cell? ⟨B + 1, 0, none⟩ = some (.int .i64 (W : Int)) ∧ w'.cell? ⟨B + 1, 1, none⟩ = some (.int .i64 (H : Int)) ∧ w'.cell? ⟨B + 1, 2, none⟩ = some (.slice b n d) ∧ w'.cell? ⟨rb, i * 4, none⟩ = some (.int .i64 (tx W i : Int)) ∧ w'.cell? ⟨rb, i * 4 + 1, none⟩ = some (.int .i64 (ty W i : Int)) ∧ w'.cell? ⟨rb, i * 4 + 2, none⟩ = some (.int .i64 (tw W i : Int)) ∧ w'.cell? ⟨rb, i * 4 + 3, none⟩ = some (.int .i64 (th W H i : Int))) (by kernel_rfl) (unhide hKS _ hdr) (fun hHeld => ?_)
      refine wpAnyH_take (i := 0) (v := .agg #[.int .i64 (W : Int), .int .i64 (H : Int), .slice a n c]) rfl (by kernel_rfl) (by kernel_rfl) (by kernel_rfl) (fun _ _ _ h => h) (Or.inl ⟨by rfl, ?_⟩) hHeld ?_
      · intro w' hSw
        try dsimp only at hSw
        go_simp
      simp only [Act.put, List.setIfInBounds_toArray]
      refine wpAnyH_take (i := 1) (v := .slice (some ⟨rb, 0, none⟩) nt lc) rfl (by kernel_rfl) (by kernel_rfl) (by kernel_rfl) (fun _ _ _ h => h) (Or.inl ⟨by rfl, ?_⟩) hHeld ?_
      · intro w' hSw
        try dsimp only at hSw
        go_simp
      simp only [Act.put]
      refine wpAnyH_take (i := 2) (v := .int .i64 (i : Int)) rfl (by kernel_rfl) (by kernel_rfl) (by kernel_rfl) (fun _ _ _ h => h) (Or.inl ⟨by rfl, ?_⟩) hHeld ?_
      · intro w' hSw
        try dsimp only at hSw
        go_simp
      simp only [Act.put]
      refine wpAnyH_take (i := 3) (v := .pointer (some ⟨rb, i * 4, none⟩)) rfl (by kernel_rfl) (by kernel_rfl) (by kernel_rfl) (fun _ _ _ h => h) (Or.inl ⟨by rfl, ?_⟩) hHeld ?_
      · intro w' hSw
        try dsimp only at hSw
        go_simp
      simp only [Act.put]
      refine wpAnyH_take (i := 4) (v := .agg #[.int .i64 (tx W i : Int), .int .i64 (ty W i : Int), .int .i64 (tw W i : Int), .int .i64 (th W H i : Int)]) rfl (by kernel_rfl) (by kernel_rfl) (by kernel_rfl) (fun _ _ _ h => h) (Or.inl ⟨by rfl, ?_⟩) hHeld ?_
      · intro w' hSw
        try dsimp only at hSw
        go_simp
      simp only [Act.put]
      refine wpAnyH_take (i := 6) (v := .agg #[.int .i64 (W : Int), .int .i64 (H : Int), .slice b n d]) rfl (by kernel_rfl) (by kernel_rfl) (by kernel_rfl) (fun _ _ _ h => h) (Or.inl ⟨by rfl, ?_⟩) hHeld ?_
      · intro w' hSw
        try dsimp only at hSw
        go_simp
      simp only [Act.put]
      refine wpAnyH_take (i := 7) (v := .slice (some ⟨rb, 0, none⟩) nt lc) rfl (by kernel_rfl) (by kernel_rfl) (by kernel_rfl) (fun _ _ _ h => h) (Or.inl ⟨by rfl, ?_⟩) hHeld ?_
      · intro w' hSw
        try dsimp only at hSw
        go_simp
      simp only [Act.put]
      refine wpAnyH_take (i := 8) (v := .int .i64 (i : Int)) rfl (by kernel_rfl) (by kernel_rfl) (by kernel_rfl) (fun _ _ _ h => h) (Or.inl ⟨by rfl, ?_⟩) hHeld ?_
      · intro w' hSw
        try dsimp only at hSw
        go_simp
      simp only [Act.put]
      refine wpAnyH_take (i := 9) (v := .pointer (some ⟨rb, i * 4, none⟩)) rfl (by kernel_rfl) (by kernel_rfl) (by kernel_rfl) (fun _ _ _ h => h) (Or.inl ⟨by rfl, ?_⟩) hHeld ?_
      · intro w' hSw
        try dsimp only at hSw
        go_simp
      simp only [Act.put]
      refine wpAnyH_take (i := 10) (v := .agg #[.int .i64 (tx W i : Int), .int .i64 (ty W i : Int), .int .i64 (tw W i : Int), .int .i64 (th W H i : Int)]) rfl (by kernel_rfl) (by kernel_rfl) (by kernel_rfl) (fun _ _ _ h => h) (Or.inl ⟨by rfl, ?_⟩) hHeld ?_
      · intro w' hSw
        try dsimp only at hSw
        go_simp
      simp only [Act.put]
      refine wpAnyH_ready (rs := [5]) (by kernel_rfl) (by simp) ?_
      refine AllReadyH.cons rfl (fun K hK => ?_) AllReadyH.nil
      go_simp
      refine (unhide HCAi wr.drew hdr).mono ?_
      rintro e w3 ⟨gA, cA, rfl, hpA, hbA⟩
      have hqw3 := hdr.trans (hbA.mono hdr.size)
      dsimp only
      refine hK.out _ _ (unhide hKS _ hqw3) (fun hHeld => ?_)
      clear hK K
      try simp only [Act.put, List.setIfInBounds_toArray, List.set_cons_zero, List.set_cons_succ]
      refine wpAnyH_ready (rs := [11]) (by kernel_rfl) (by simp) ?_
      refine AllReadyH.cons rfl (fun K hK => ?_) AllReadyH.nil
      go_simp
      refine (unhide HCBi w3 hqw3).mono ?_
      rintro e w4 ⟨gB, cB, rfl, hpB, hbB⟩
      have hqw4 := hqw3.trans (hbB.mono hqw3.size)
      dsimp only
      refine hK.out _ _ (unhide hKS _ hqw4) (fun hHeld => ?_)
      clear hK K
      try simp only [Act.put, List.setIfInBounds_toArray, List.set_cons_zero, List.set_cons_succ]
      have hpA := hpA.below hbB
      refine wpAnyH_ready (rs := [12]) (by kernel_rfl) (by simp) ?_
      refine AllReadyH.cons rfl (fun K hK => ?_) AllReadyH.nil
      go_simp
      refine (samePictureD_any (tw W i : Int) (th W H i : Int) (some ⟨gA, 0, none⟩) (some ⟨gB, 0, none⟩) (tpn W H i) cA cB (tpx W p i) (tpx W q i) w4 hpA hpB (by omega)).mono ?_
      rintro e w5 ⟨rfl, hb5⟩
      have hqw5 := hqw4.trans (hb5.mono hqw4.size)
      dsimp only
      refine hK.out _ _ (unhide hKS _ hqw5) (fun hHeld => ?_)
      clear hK K
      try simp only [Act.put, List.setIfInBounds_toArray, List.set_cons_zero, List.set_cons_succ]
      refine wpAnyH_take (i := 13) (v := .bool (decide (Eqv (tpx W p i) (tpx W q i) (tpn W H i)))) rfl (by kernel_rfl) (by kernel_rfl) (by kernel_rfl) (fun _ _ _ h => h) (Or.inl ⟨by rfl, ?_⟩) hHeld ?_
      · intro w' hSw
        try dsimp only at hSw
        go_simp
      simp only [Act.put, List.setIfInBounds_toArray]
      refine wpAnyH_done (by kernel_rfl) ?_ _
      have HU := unhide HUi
      obtain ⟨s0, s1, s2, s3⟩ := (⟨tcell hqw5 hlR r0, tcell hqw5 hlR r1, tcell hqw5 hlR r2, tcell hqw5 hlR r3⟩ : w5.cell? ⟨rb, i * 4, none⟩ = some (.int .i64 (tx W i : Int)) ∧ w5.cell? ⟨rb, i * 4 + 1, none⟩ = some (.int .i64 (ty W i : Int)) ∧ w5.cell? ⟨rb, i * 4 + 2, none⟩ = some (.int .i64 (tw W i : Int)) ∧ w5.cell? ⟨rb, i * 4 + 3, none⟩ = some (.int .i64 (th W H i : Int)))
      have HO5 := hide (own_belowP (unhide HO) hqw5)
      have HW5 := hide ((unhide HW).trans (hqw5.mono hswr))
      have hs5 := hqw5.size
      have hlR5 : rb < w5.heap.size := by omega
      clear hHeld hpA hpB hbA hbB hb5 hqw3 hqw4 hqw5 hdr hKS r0 r1 r2 r3 a0 a1 a2 b0 b1 b2 HO HW HCAi HCBi HUi
      generalize decide (Eqv (tpx W p i) (tpx W q i) (tpn W H i)) = r at *
      cases r
      · rw [HU] at HFi
        have HF1 : Hid (F (i + 1) = F i ++ [i]) := by show _ = _; rw [unhide HFi]; simp
        have HQ := hide (al1 w5 (.cells #[.int .i64 (tx W i : Int), .int .i64 (ty W i : Int), .int .i64 (tw W i : Int), .int .i64 (th W H i : Int)] 37))
        have HOB := hide ((unhide HO5).alloc (.cells #[.int .i64 (tx W i : Int), .int .i64 (ty W i : Int), .int .i64 (tw W i : Int), .int .i64 (th W H i : Int)] 37))
        clear HU HFi
        go_wp2_with (at_builtin; refine wpList_appR _ rfl (.tmp 35) (.tmp 40) rfl rfl w2.heap.size w5.heap.size W H i (.slice lv (F i).length lvc) (F i) (F i).length rfl rfl rfl (unhide HOB) (unhide HQ).k0 (by omega) (by have := (unhide HQ).size; omega) ?_)
        intro gb cp w6 ho6 hg6
        have HW6 : Hid (Below w2.heap.size w2 w6) := ((unhide HW5).trans ((unhide HQ).below.mono (by omega))).grown hg6 (by have := (unhide HQ).size; omega) (fun b e => ((unhide HOB).lt b e).1)
        have HO6 : Hid (w6.ownsRow w2.heap.size 37 4 (.slice (some ⟨gb, 0, none⟩) ((F i).length + 1) cp) (F (i + 1)).length (rectL W H (F (i + 1)))) := by
          rw [unhide HF1, List.length_append]
          exact ho6
        clear ho6 hg6 HOB HQ HF1 HW5 HO5 s0 s1 s2 s3
        go_wp2
        go_roundw
        case rel => exact ⟨i + 1, by omega, by go_num, HO6, HW6⟩
        case measure => simp [intOf]; omega
      · rw [HU] at HFi
        have HO6 : Hid (w5.ownsRow w2.heap.size 37 4 (.slice lv (F i).length lvc) (F (i + 1)).length (rectL W H (F (i + 1)))) := by
          show World.ownsRow _ _ _ _ _ _ _
          rw [unhide HFi]
          simpa using unhide HO5
        clear HU HFi HO5 s0 s1 s2 s3
        go_wp2
        go_roundw
        case rel => exact ⟨i + 1, by omega, by go_num, HO6, HW5⟩
        case measure => simp [intOf]; omega
    · obtain rfl : i = nt := by omega
      have d1 : decide ((i : Int) < (i : Int)) = false := by simp
      obtain ⟨lv, lvc, rfl⟩ := own_shapeT (unhide HO)
      have HFI := hide (own_R (unhide HO))
      have HFB := hide ((unhide HB2).trans ((unhide HW).mono (by omega)))
      clear HO
      go_wp2
      go_ret
      rw [← unhide HBE, ← unhide HNT]
      exact ⟨lv, lvc, rfl, unhide HFI, unhide HFB⟩
end Go.Proofs.YtcicbafdacfbpaiGreatDoor
