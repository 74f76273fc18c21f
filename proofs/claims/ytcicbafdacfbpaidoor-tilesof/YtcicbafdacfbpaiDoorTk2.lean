/- Tiles of one color of a picture: the document's. -/
import Derived.Test.YtcicbafdacfbpaiDoorMg10
import Derived.Test.YtcicbafdacfbpaiDoorTk1
namespace Go.Proofs.YtcicbafdacfbpaiDoor
open Go.RowKit

theorem ulk_alike {q : Nat → Px} {n : Nat} (h : Alk q n) : ∀ i, i < n → ulk q (i + 1) = [q 0]
  | 0, _ => rfl
  | i + 1, hi => by
    have ih := ulk_alike h i (by omega)
    show addP (ulk q (i + 1)) (q (i + 1)) = _
    rw [ih, h (i + 1) hi]
    unfold addP
    rw [if_pos (by simp)]
theorem ulk_one {q : Nat → Px} {n : Nat} (h0 : 0 < n) : (ulk q n).length = 1 ↔ Alk q n := by
  constructor
  · intro h j hj
    obtain ⟨x, hx⟩ := List.length_eq_one_iff.1 h
    have h1 := ulk_has q hj
    have h2 := ulk_has q h0
    rw [hx, List.mem_singleton] at h1 h2
    rw [h1, h2]
  · intro h
    obtain ⟨k, rfl⟩ : ∃ k, n = k + 1 := ⟨n - 1, by omega⟩
    rw [ulk_alike h k (by omega)]
    rfl

set_option maxHeartbeats 4000000 in
set_option maxRecDepth 100000 in
theorem plainOf_any (W H : Nat) (a : Option Addr) (n c : Nat) (p : Nat → Px) (w : World) (hA : IsPx w a n p) (hW0 : 1 ≤ W) (hW : W ≤ 256) (hH : H ≤ 256) (hn : n = W * H) :
    Calls Tryd.prog 20 #[.agg #[.int .i64 (W : Int), .int .i64 (H : Int), .slice a n c]] w fun e w' => e = .returned (.int .i64 ((fnd (fun i => decide (Alk (tpx W p i) (tpn W H i))) (tn W H)).length : Int)) ∧ Below w.heap.size w w' := by
  have hN : tn W H ≤ 256 := Nat.mul_le_mul (tc_le W hW) (tc_le H hH)
  have hAL := hide (al1 w (.cells #[.int .i64 (W : Int), .int .i64 (H : Int), .slice a n c] 24))
  have HT := hide (fun w => tilesOfR_any W H w hW0 hW hH)
  have HCA : Hid (∀ i wx, i < tn W H → Below w.heap.size w wx → Calls Tryd.prog 44 #[.agg #[.int .i64 (W : Int), .int .i64 (H : Int), .slice a n c], .agg #[.int .i64 (tx W i : Int), .int .i64 (ty W i : Int), .int .i64 (tw W i : Int), .int .i64 (th W H i : Int)]] wx fun e w' => ∃ g c2, e = .returned (.agg #[.int .i64 (tw W i : Int), .int .i64 (th W H i : Int), .slice (some ⟨g, 0, none⟩) (tpn W H i) c2]) ∧ IsPx w' (some ⟨g, 0, none⟩) (tpn W H i) (tpx W p i) ∧ Below wx.heap.size wx w') := fun i wx hi hb => by
    obtain ⟨h1, h2, h3, h4, h5, h6⟩ := tile_in hW0 hi
    refine (cropOf_any W H a n c p (tx W i) (ty W i) (tw W i) (th W H i) wx hW hH hn (hA.below hb) h1 h2).mono ?_
    rintro e w' ⟨g, c2, rfl, hr, hb2⟩
    exact ⟨g, c2, rfl, hr.isPx (by have := (tpn_in hW0 hi).2; unfold tpn at this; omega), hb2⟩
  have HUN : Hid (∀ i g c2 wx, i < tn W H → IsPx wx (some ⟨g, 0, none⟩) (tpn W H i) (tpx W p i) → Calls Tryd.prog 43 #[.agg #[.int .i64 (tw W i : Int), .int .i64 (th W H i : Int), .slice (some ⟨g, 0, none⟩) (tpn W H i) c2]] wx fun e w' => ∃ a1 c1 a2 c2, e = .returned (.tuple #[.slice a1 (ulk (tpx W p i) (tpn W H i)).length c1, .slice a2 (tpn W H i) c2]) ∧ Below wx.heap.size wx w') := fun i g c2 wx hi hp => by
    refine (unlike_any _ _ _ _ c2 _ wx hp (by have := (tpn_in hW0 hi).2; omega)).mono ?_
    rintro e w' ⟨a1, c1, a2, c2, rfl, _, hb⟩
    exact ⟨a1, c1, a2, c2, rfl, hb⟩
  obtain ⟨D, hD⟩ : ∃ D : Nat → Bool, D = fun i => decide (Alk (tpx W p i) (tpn W H i)) := ⟨_, rfl⟩
  rw [← hD]
  have HDE : Hid (∀ i, i < tn W H → D i = decide ((ulk (tpx W p i) (tpn W H i)).length = 1)) := fun i hi => by
    rw [hD]
    exact decide_eq_decide.2 (ulk_one (tpn_in hW0 hi).1).symm
  have HFD : Hid (∀ i, (fnd D (i + 1)).length = if D i = true then (fnd D i).length + 1 else (fnd D i).length) := fun i => by
    show (if D i = true then fnd D i ++ [i] else fnd D i).length = _
    split
    · rw [List.length_append]; rfl
    · rfl
  have HFL : Hid (∀ i, (fnd D i).length ≤ i) := fun i => fnd_length _ i
  have HUB : Hid (∀ i, i < tn W H → (ulk (tpx W p i) (tpn W H i)).length ≤ 256) := fun i hi => Nat.le_trans (ulk_len _ _) (tpn_in hW0 hi).2
  obtain ⟨F, hF⟩ : ∃ F, F = fun i => (fnd D i).length := ⟨_, rfl⟩
  have HFE : Hid (∀ i, F (i + 1) = if D i = true then F i + 1 else F i) := fun i => by rw [hF]; exact unhide HFD i
  have HFB : Hid (∀ i, F i ≤ i) := fun i => by rw [hF]; exact unhide HFL i
  have HF0 : Hid (F 0 = 0) := by rw [hF]; exact rfl
  have hFt : (fnd D (tn W H)).length = F (tn W H) := by rw [hF]
  rw [hFt]
  clear hA hn hF HFD HFL hFt hD
  go_enter Tryd.func20, Tryd.ntmps20
  go_wp2_with fail
  generalize w.alloc (.cells #[.int .i64 (W : Int), .int .i64 (H : Int), .slice a n c] 24) = w1 at *
  obtain ⟨B, hB⟩ : ∃ B, B = w.heap.size := ⟨_, rfl⟩
  rw [← hB] at hAL HCA ⊢
  obtain ⟨hs1, k0, hb1⟩ := unhide hAL
  refine (unhide HT w1).mono ?_
  rintro e w2 ⟨la, lc, rfl, hR, hb2⟩
  have HR := hide hR
  have HK0 := hide (blk_below k0 hb2 (blk_lt k0))
  have HB2 := hide (hb1.trans (hb2.mono (by omega)))
  have hs2 := hb2.size
  have HBE := hide hB
  have HW0 := hide (Below.refl w2.heap.size w2)
  clear hR k0 hb1 hb2 hAL HT hB
  obtain ⟨nt, hnt⟩ : ∃ nt, nt = tn W H := ⟨_, rfl⟩
  rw [← hnt] at HR hN HCA HUN HDE HUB ⊢
  have HNT := hide hnt
  clear hnt
  go_wp2
  go_loopw [3, 5] (fun cv iv wr => ∃ i f : Nat, i ≤ nt ∧ cv = .int .i64 (f : Int) ∧ Hid (f = F i) ∧ iv = .int .i64 (i : Int) ∧ Hid (Below w2.heap.size w2 wr)) (fun _ iv _ => nt - (intOf iv).toNat)
  case atStart => exact ⟨0, 0, Nat.zero_le _, rfl, (unhide HF0).symm, rfl, HW0⟩
  case round =>
    clear HW0
    obtain ⟨i, f, hi, rfl, HFi, rfl, HW⟩ := hrel
    have hfb : f ≤ 1000 := by have := unhide HFB i; have := unhide HFi; omega
    by_cases hlt : i < nt
    · have d1 : decide ((i : Int) < (nt : Int)) = true := decide_eq_true (by omega)
      have d1n : decide (i < nt) = true := decide_eq_true hlt
      have hii : (i : Int) < (nt : Int) := by omega
      obtain ⟨rb, hrb, hcells⟩ := ((unhide HR).below (unhide HW)).resolve_left (fun e => by have := congrArg List.length e; rw [List.length_range] at this; simp at this; omega)
      subst hrb
      have hrc := hcells i (by rw [List.length_range]; exact hlt)
      rw [range_getD hlt] at hrc
      obtain ⟨r0, r1, r2, r3⟩ := hrc
      have kA := blk_below (unhide HK0) (unhide HW) (blk_lt (unhide HK0))
      have hlA := blk_lt kA
      have hlR : rb < wr.heap.size := World.block_lt_of_cell? _ _ r0
      have a0 : wr.cell? ⟨B, 0, none⟩ = some (.int .i64 (W : Int)) := blk_cell kA 0
      have a1 : wr.cell? ⟨B, 1, none⟩ = some (.int .i64 (H : Int)) := blk_cell kA 1
      have a2 : wr.cell? ⟨B, 2, none⟩ = some (.slice a n c) := blk_cell kA 2
      have hBr := (unhide HB2).trans ((unhide HW).mono (by omega))
      have HCAi := hide (fun wx (h : Below wr.heap.size wr wx) => unhide HCA i wx hlt (hBr.trans (h.mono (by have := (unhide HW).size; omega))))
      have HUNi := hide (fun g c2 wx h => unhide HUN i g c2 wx hlt h)
      have HDi := hide (unhide HDE i hlt)
      have hub := unhide HUB i hlt
      have HFEi := hide (unhide HFE i)
      have hdr := (Below.refl wr.heap.size wr).drew
      have hswr := (unhide HW).size
      generalize (ulk (tpx W p i) (tpn W H i)).length = ul at *
      clear hcells kA hBr
      go_wp2
      have hKS := hide (fun wx (h : Below wr.heap.size wr wx) => (⟨tcell h hlA a0, tcell h hlA a1, tcell h hlA a2, tcell h hlR r0, tcell h hlR r1, tcell h hlR r2, tcell h hlR r3⟩ : wx.cell? ⟨B, 0, none⟩ = some (.int .i64 (W : Int)) ∧ wx.cell? ⟨B, 1, none⟩ = some (.int .i64 (H : Int)) ∧ wx.cell? ⟨B, 2, none⟩ = some (.slice a n c) ∧ wx.cell? ⟨rb, i * 4, none⟩ = some (.int .i64 (tx W i : Int)) ∧ wx.cell? ⟨rb, i * 4 + 1, none⟩ = some (.int .i64 (ty W i : Int)) ∧ wx.cell? ⟨rb, i * 4 + 2, none⟩ = some (.int .i64 (tw W i : Int)) ∧ wx.cell? ⟨rb, i * 4 + 3, none⟩ = some (.int .i64 (th W H i : Int))))
      refine wp_region_held_drew (S := fun w' => w'.cell? ⟨B, 0, none⟩ = some (.int .i64 (W : Int)) ∧ w'.cell? ⟨B, 1, none⟩ = some (.int .i64 (H : Int)) ∧ w'.cell? ⟨B, 2, none⟩ = some (.slice a n c) ∧ w'.cell? ⟨rb, i * 4, none⟩ = some (.int .i64 (tx W i : Int)) ∧ w'.cell? ⟨rb, i * 4 + 1, none⟩ = some (.int .i64 (ty W i : Int)) ∧ w'.cell? ⟨rb, i * 4 + 2, none⟩ = some (.int .i64 (tw W i : Int)) ∧ w'.cell? ⟨rb, i * 4 + 3, none⟩ = some (.int .i64 (th W H i : Int))) (by kernel_rfl) (unhide hKS _ hdr) (fun hHeld => ?_)
      refine wpAnyH_take (i := 0) (v := .agg #[.int .i64 (W : Int), .int .i64 (H : Int), .slice a n c]) rfl (by kernel_rfl) (by kernel_rfl) (by kernel_rfl) (fun _ _ _ h => h) (Or.inl ⟨by rfl, ?_⟩) hHeld ?_
      · intro w' hSw
        try dsimp only at hSw
        go_simp
      simp only [Act.put, List.setIfInBounds_toArray]
      refine wpAnyH_take (i := 1) (v := .slice (some ⟨rb, 0, none⟩) nt lc) rfl (by kernel_rfl) (by kernel_rfl) (by kernel_rfl) (fun _ _ _ h => h) (Or.inl ⟨by rfl, ?_⟩) hHeld ?_
      · intro w' hSw
        try dsimp only at hSw
        go_simp
      simp only [Act.put]
      refine wpAnyH_take (i := 2) (v := .int .i64 (i : Int)) rfl (by kernel_rfl) (by kernel_rfl) (by kernel_rfl) (fun _ _ _ h => h) (Or.inl ⟨by rfl, ?_⟩) hHeld ?_
      · intro w' hSw
        try dsimp only at hSw
        go_simp
      simp only [Act.put]
      refine wpAnyH_take (i := 3) (v := .pointer (some ⟨rb, i * 4, none⟩)) rfl (by kernel_rfl) (by kernel_rfl) (by kernel_rfl) (fun _ _ _ h => h) (Or.inl ⟨by rfl, ?_⟩) hHeld ?_
      · intro w' hSw
        try dsimp only at hSw
        go_simp
      simp only [Act.put]
      refine wpAnyH_take (i := 4) (v := .agg #[.int .i64 (tx W i : Int), .int .i64 (ty W i : Int), .int .i64 (tw W i : Int), .int .i64 (th W H i : Int)]) rfl (by kernel_rfl) (by kernel_rfl) (by kernel_rfl) (fun _ _ _ h => h) (Or.inl ⟨by rfl, ?_⟩) hHeld ?_
      · intro w' hSw
        try dsimp only at hSw
        go_simp
      simp only [Act.put]
      refine wpAnyH_ready (rs := [5]) (by kernel_rfl) (by simp) ?_
      refine AllReadyH.cons rfl (fun K hK => ?_) AllReadyH.nil
      go_simp
      refine (unhide HCAi wr.drew hdr).mono ?_
      rintro e w3 ⟨gA, cA, rfl, hpA, hb3⟩
      have hq3 := hdr.trans (hb3.mono (Nat.le_refl _))
      dsimp only
      refine hK.out _ _ (unhide hKS _ hq3) (fun hHeld => ?_)
      clear hK K
      try simp only [Act.put, List.setIfInBounds_toArray, List.set_cons_zero, List.set_cons_succ]
      refine wpAnyH_ready (rs := [6]) (by kernel_rfl) (by simp) ?_
      refine AllReadyH.cons rfl (fun K hK => ?_) AllReadyH.nil
      go_simp
      refine (unhide HUNi gA cA w3 hpA).mono ?_
      rintro e w4 ⟨ua, uc, na, nc, rfl, hb4⟩
      have hq4 := hq3.trans (hb4.mono hq3.size)
      dsimp only
      refine hK.out _ _ (unhide hKS _ hq4) (fun hHeld => ?_)
      clear hK K
      try simp only [Act.put, List.setIfInBounds_toArray, List.set_cons_zero, List.set_cons_succ]
      refine wpAnyH_take (i := 7) (v := .tuple #[.slice ua ul uc, .slice na (tpn W H i) nc]) rfl (by kernel_rfl) (by kernel_rfl) (by kernel_rfl) (fun _ _ _ h => h) (Or.inl ⟨by rfl, ?_⟩) hHeld ?_
      · intro w' hSw
        try dsimp only at hSw
        go_simp
      simp only [Act.put, List.setIfInBounds_toArray]
      refine wpAnyH_take (i := 8) (v := .slice ua ul uc) rfl (by kernel_rfl) (by kernel_rfl) (by kernel_rfl) (fun _ _ _ h => h) (Or.inl ⟨by rfl, ?_⟩) hHeld ?_
      · intro w' hSw
        try dsimp only at hSw
        go_simp
      simp only [Act.put]
      refine wpAnyH_take (i := 9) (v := .slice na (tpn W H i) nc) rfl (by kernel_rfl) (by kernel_rfl) (by kernel_rfl) (fun _ _ _ h => h) (Or.inl ⟨by rfl, ?_⟩) hHeld ?_
      · intro w' hSw
        try dsimp only at hSw
        go_simp
      simp only [Act.put]
      refine wpAnyH_take (i := 10) (v := .slice ua ul uc) rfl (by kernel_rfl) (by kernel_rfl) (by kernel_rfl) (fun _ _ _ h => h) (Or.inl ⟨by rfl, ?_⟩) hHeld ?_
      · intro w' hSw
        try dsimp only at hSw
        go_simp
      simp only [Act.put]
      refine wpAnyH_take (i := 11) (v := .slice na (tpn W H i) nc) rfl (by kernel_rfl) (by kernel_rfl) (by kernel_rfl) (fun _ _ _ h => h) (Or.inl ⟨by rfl, ?_⟩) hHeld ?_
      · intro w' hSw
        try dsimp only at hSw
        go_simp
      simp only [Act.put]
      refine wpAnyH_done (by kernel_rfl) ?_ _
      have HW4 := hide ((unhide HW).trans (hq4.mono hswr))
      clear hHeld hpA hb3 hb4 hq3 hq4 hdr hKS r0 r1 r2 r3 a0 a1 a2 HW HCAi HUNi
      by_cases hu : ul = 1
      · have hud : decide ((ul : Int) = 1) = true := decide_eq_true (by omega)
        have hub2 : ((ul : Int) == 1) = true := by rw [hu]; rfl
        have HF1 : Hid (f + 1 = F (i + 1)) := by show _ = _; rw [unhide HFEi, unhide HDi, if_pos (decide_eq_true hu), unhide HFi]
        clear HFEi HDi HFi
        subst hu
        go_wp2
        go_roundw
        case rel => exact ⟨i + 1, f + 1, by omega, by go_num, HF1, by go_num, HW4⟩
        case measure => simp [intOf]; omega
      · have hui : ¬ (ul : Int) = 1 := by omega
        have hud : decide ((ul : Int) = 1) = false := decide_eq_false hui
        have hub2 : ((ul : Int) == 1) = false := beq_eq_false_iff_ne.2 hui
        have HF1 : Hid (f = F (i + 1)) := by show _ = _; rw [unhide HFEi, unhide HDi, decide_eq_false hu]; exact unhide HFi
        clear HFEi HDi HFi
        go_wp2
        go_roundw
        case rel => exact ⟨i + 1, f, by omega, rfl, HF1, by go_num, HW4⟩
        case measure => simp [intOf]; omega
    · obtain rfl : i = nt := by omega
      have d1 : decide ((i : Int) < (i : Int)) = false := by simp
      have HFB2 := hide ((unhide HB2).trans ((unhide HW).mono (by omega)))
      go_wp2
      go_ret
      rw [← unhide HBE, ← unhide HNT]
      exact ⟨by rw [← unhide HFi]; rfl, unhide HFB2⟩
end Go.Proofs.YtcicbafdacfbpaiDoor
