/- All layers merged: the closure: the program's. -/
import Derived.Test.YtkdckcengmkhhajDoorMg15
import Derived.Test.YtkdckcengmkhhajDoorLyJ
namespace Go.Proofs.YtkdckcengmkhhajDoor
open Go.RowKit

/-- The layer that all become. -/
def mrgL (t : ByteArray) (W H M : Nat) (q : Nat → Px) : Ly := ⟨t, 0, 0, false, 255, 0, (W : Int), (H : Int), M, q⟩

set_option maxHeartbeats 4000000 in
set_option maxRecDepth 100000 in
theorem merge1_any (g n cap bd p W H nd cd : Nat) (sd : Option Addr) (t : ByteArray) (L : Nat → Ly) (a : Nat → Option Addr) (c : Nat → Nat) (w : World) (hR : Row9 w g (n + 1) cap 54 (lyVals L a c (n + 1))) (hX : ∀ i, i < n + 1 → IsPx w (a i) (L i).n (L i).q) (hLR : ∀ i, i < n + 1 → LyR (L i)) (hn : n ≤ 1000) (hcap : cap ≤ maxLen) (hW0 : 1 ≤ W) (hW : W ≤ 256) (hH : H ≤ 256)
    (hd : w.heap[bd]? = some (.cells #[.int .i64 (W : Int), .int .i64 (H : Int), .slice sd nd cd] 39)) (hp : w.cell? ⟨p, 0, none⟩ = some (.string t)) :
    Calls Tryd.prog 49 #[.slice (some ⟨g, 0, none⟩) (n + 1) cap, .int .i64 (n : Int), .pointer (some ⟨bd, 0, none⟩), .pointer (some ⟨p, 0, none⟩)] w fun e w' => ∃ ai ci, e = .returned (.tuple #[.slice (some ⟨g, 0, none⟩) 1 cap, .nilIface]) ∧ Row9 w' g 1 cap 54 ((mrgL t W H (W * H) (grid W (seenP L (n + 1)))).cells ai ci) ∧ IsPx w' ai (W * H) (grid W (seenP L (n + 1))) ∧ (∀ x, ai = some x → w.heap.size ≤ x.block) ∧ (∀ b, b ≠ g → b < w.heap.size → w'.heap[b]? = w.heap[b]?) ∧ Below g w w' := by
  have hgl := hR.lt
  have hown := row9_own (base := g) hR (Nat.le_refl g) hcap
  have hIs : IsLy w (some ⟨g, 0, none⟩) (n + 1) L a c := own_ly hown (by unfold maxLen; omega) hX
  have HFl := hide (fun wr (hb : Below w.heap.size w wr) => flat_any W H (some ⟨g, 0, none⟩) (n + 1) cap L a c wr hW0 hW hH (hIs.below hb) hLR)
  have HRp := hide (fun b xs l al cl wr hr hb => replace_top g n cap b xs l al cl wr hr hb hn hcap)
  have HR := hide hR
  have hle := hR.le
  have c0 : w.cell? ⟨bd, 0, none⟩ = some (.int .i64 (W : Int)) := blk_cell hd 0
  have c1 : w.cell? ⟨bd, 1, none⟩ = some (.int .i64 (H : Int)) := blk_cell hd 1
  have hdl := blk_lt hd
  have hpl := World.block_lt_of_cell? _ _ hp
  have KS := hide (fun wx (h : Below w.heap.size w wx) => (⟨(h.cell (p := ⟨bd, 0, none⟩) hdl).trans c0, (h.cell (p := ⟨bd, 1, none⟩) hdl).trans c1⟩ : wx.cell? ⟨bd, 0, none⟩ = some (.int .i64 (W : Int)) ∧ wx.cell? ⟨bd, 1, none⟩ = some (.int .i64 (H : Int))))
  have hdr := (Below.refl w.heap.size w).drew
  have KP := hide hp
  obtain ⟨M, hM⟩ : ∃ M, M = W * H := ⟨_, rfl⟩
  have hMb : M ≤ 65536 := by rw [hM]; exact Nat.mul_le_mul hW hH
  unfold maxLen at hcap
  rw [← hM] at HFl ⊢
  clear hR hX hLR hIs hown hd hp hM
  go_enter Tryd.func49, Tryd.ntmps49
  go_wp2_with fail
  refine wp_region_held_drew (S := fun w' => w'.cell? ⟨bd, 0, none⟩ = some (.int .i64 (W : Int)) ∧ w'.cell? ⟨bd, 1, none⟩ = some (.int .i64 (H : Int))) (by kernel_rfl) ⟨c0, c1⟩ (fun hHeld => ?_)
  refine wpAnyH_take (i := 0) (v := .pointer (some ⟨bd, 0, none⟩)) rfl (by kernel_rfl) (by kernel_rfl) (by kernel_rfl) (fun _ _ _ h => h) (Or.inl ⟨by rfl, ?_⟩) hHeld ?_
  · intro w' hSw
    try dsimp only at hSw
    go_simp
  simp only [Act.put, List.setIfInBounds_toArray]
  refine wpAnyH_take (i := 1) (v := .int .i64 (W : Int)) rfl (by kernel_rfl) (by kernel_rfl) (by kernel_rfl) (fun _ _ _ h => h) (Or.inl ⟨by rfl, ?_⟩) hHeld ?_
  · intro w' hSw
    try dsimp only at hSw
    go_simp
  simp only [Act.put]
  refine wpAnyH_take (i := 2) (v := .pointer (some ⟨bd, 1, none⟩)) rfl (by kernel_rfl) (by kernel_rfl) (by kernel_rfl) (fun _ _ _ h => h) (Or.inl ⟨by rfl, ?_⟩) hHeld ?_
  · intro w' hSw
    try dsimp only at hSw
    go_simp
  simp only [Act.put]
  refine wpAnyH_take (i := 3) (v := .int .i64 (H : Int)) rfl (by kernel_rfl) (by kernel_rfl) (by kernel_rfl) (fun _ _ _ h => h) (Or.inl ⟨by rfl, ?_⟩) hHeld ?_
  · intro w' hSw
    try dsimp only at hSw
    go_simp
  simp only [Act.put]
  refine wpAnyH_take (i := 4) (v := .slice (some ⟨g, 0, none⟩) (n + 1) cap) rfl (by kernel_rfl) (by kernel_rfl) (by kernel_rfl) (fun _ _ _ h => h) (Or.inl ⟨by rfl, ?_⟩) hHeld ?_
  · intro w' hSw
    try dsimp only at hSw
    go_simp
  simp only [Act.put]
  refine wpAnyH_take (i := 5) (v := .int .i64 (n : Int)) rfl (by kernel_rfl) (by kernel_rfl) (by kernel_rfl) (fun _ _ _ h => h) (Or.inl ⟨by rfl, ?_⟩) hHeld ?_
  · intro w' hSw
    try dsimp only at hSw
    go_simp
  simp only [Act.put]
  refine wpAnyH_take (i := 6) (v := .int .i64 ((n : Int) + 1)) rfl (by kernel_rfl) (by kernel_rfl) (by kernel_rfl) (fun _ _ _ h => h) (Or.inl ⟨by rfl, ?_⟩) hHeld ?_
  · intro w' hSw
    try dsimp only at hSw
    go_simp
    rw [IntKind.wrap_i64]; omega
  simp only [Act.put]
  refine wpAnyH_take (i := 7) (v := .slice (some ⟨g, 0, none⟩) (n + 1) cap) rfl (by kernel_rfl) (by kernel_rfl) (by kernel_rfl) (fun _ _ _ h => h) (Or.inl ⟨by rfl, ?_⟩) hHeld ?_
  · intro w' hSw
    try dsimp only at hSw
    go_simp
    intro hq
    exact absurd (hq (by omega)) (by omega)
  simp only [Act.put]
  refine wpAnyH_take (i := 8) (v := .agg #[.int .i64 (W : Int), .int .i64 (H : Int), .slice (some ⟨g, 0, none⟩) (n + 1) cap]) rfl (by kernel_rfl) (by kernel_rfl) (by kernel_rfl) (fun _ _ _ h => h) (Or.inl ⟨by rfl, ?_⟩) hHeld ?_
  · intro w' hSw
    try dsimp only at hSw
    go_simp
  simp only [Act.put]
  refine wpAnyH_ready (rs := [9, 10]) (by kernel_rfl) (by simp) ?_
  refine AllReadyH.cons rfl (fun K hK => ?_) (AllReadyH.cons rfl (fun K hK => ?_) AllReadyH.nil)
  · skip
    go_simp
    go_wp2_with (first | (go_at_call 37; refine (unhide HFl _ hdr).mono ?_; rintro e w5 ⟨ai, ci, rfl, hpN, hb5⟩; have hq5 := hdr.trans (hb5.mono hdr.size)))

    refine hK.out _ _ (unhide KS _ hq5) (fun hHeld => ?_)
    clear hK K
    try simp only [Act.put, List.setIfInBounds_toArray, List.set_cons_zero, List.set_cons_succ]

    refine wpAnyH_ready (rs := [10]) (by kernel_rfl) (by simp) ?_
    refine AllReadyH.cons rfl (fun K hK => ?_) AllReadyH.nil

    go_simp
    have hA1 := al1 w5 (.cells #[.int .i64 0, .int .i64 0, .slice none 0 0] 32)
    have hq6 := hq5.trans (hA1.below.mono hq5.size)

    refine hK.out _ _ (unhide KS _ hq6) (fun hHeld => ?_)
    clear hK K
    try simp only [Act.put, List.setIfInBounds_toArray, List.set_cons_zero, List.set_cons_succ]

    refine wpAnyH_ready (rs := [11]) (by kernel_rfl) (by simp) ?_
    refine AllReadyH.cons rfl (fun K hK => ?_) AllReadyH.nil

    have hA2 := al1 w5 (.cells #[.int .i64 (W : Int), .int .i64 (H : Int), .slice ai M ci] 32)
    have kQ := (three hA2.k0).1
    have hqS := hq5.trans (hA2.below.mono hq5.size)
    have hPX := hpN.is.below hA2.below
    have hnew : ∀ x, ai = some x → w.heap.size ≤ x.block := hpN.new
    have hlp := blk_lt hA2.k0
    clear hA1 hq6 hpN hb5 hA2
    go_simp
    generalize w5.alloc (.cells #[.int .i64 (W : Int), .int .i64 (H : Int), .slice ai M ci] 32) = wS at *

    refine hK.out _ _ (unhide KS _ hqS) (fun hHeld => ?_)
    clear hK K
    try simp only [Act.put, List.setIfInBounds_toArray, List.set_cons_zero, List.set_cons_succ]

    refine wpAnyH_done (by kernel_rfl) ?_ _
    obtain ⟨p0, p1, p2⟩ := kQ
    have hc := (hqS.cell (p := ⟨p, 0, none⟩) hpl).trans (unhide KP)
    have hA := al1 wS (.cells #[.string t, .int .i64 0, .int .i64 0, .bool false, .int .i64 255, .int .i64 0, .int .i64 (W : Int), .int .i64 (H : Int), .slice ai M ci] 54)
    have hRw := (unhide HR).block ((hA.below.block g (by have := hqS.size; omega)).trans (hqS.block g hgl))
    have hPX2 : IsPx (wS.alloc (.cells #[.string t, .int .i64 0, .int .i64 0, .bool false, .int .i64 255, .int .i64 0, .int .i64 (W : Int), .int .i64 (H : Int), .slice ai M ci] 54)) ai M (grid W (seenP L (n + 1))) := hPX.below hA.below
    have hbA := hqS.trans (hA.below.mono hqS.size)
    have hpS : p < wS.heap.size := by have := hqS.size; omega
    have HRC := hide (unhide HRp wS.heap.size _ (mrgL t W H M (grid W (seenP L (n + 1)))) ai ci _ hRw hA.k0)
    have HPX := hide hPX2
    have HBA := hide hbA
    have HNW := hide hnew
    clear hRw hA hPX hPX2 hbA hqS hnew HRp HFl KS hdr hHeld c0 c1
    go_wp2_with fail
    refine (unhide HRC).mono ?_
    rintro e w8 ⟨rfl, h1, h2, h3, h4⟩
    have hgA : g < (wS.alloc (.cells #[.string t, .int .i64 0, .int .i64 0, .bool false, .int .i64 255, .int .i64 0, .int .i64 (W : Int), .int .i64 (H : Int), .slice ai M ci] 54)).heap.size := by have := (unhide HBA).size; omega
    have H1 := hide h1
    have H2 : Hid (IsPx w8 ai M (grid W (seenP L (n + 1)))) := isPx_block (unhide HPX) (fun x e _ => h2 x.block (by have := unhide HNW x e; omega))
    have H3 : Hid (∀ b, b ≠ g → b < w.heap.size → w8.heap[b]? = w.heap[b]?) := fun b hb hl => (h2 b hb).trans ((unhide HBA).block b hl)
    have H4 := hide (((unhide HBA).mono (Nat.le_of_lt hgl)).trans h4)
    clear h1 h2 h3 h4 HRC HPX HBA
    go_wp2
    go_ret2
    exact ⟨ai, ci, rfl, unhide H1, unhide H2, unhide HNW, unhide H3, unhide H4⟩
  · skip
    go_simp
    have hA1 := al1 w.drew (.cells #[.int .i64 0, .int .i64 0, .slice none 0 0] 32)
    have hq6 := hdr.trans (hA1.below.mono hdr.size)

    refine hK.out _ _ (unhide KS _ hq6) (fun hHeld => ?_)
    clear hK K
    try simp only [Act.put, List.setIfInBounds_toArray, List.set_cons_zero, List.set_cons_succ]

    refine wpAnyH_ready (rs := [9]) (by kernel_rfl) (by simp) ?_
    refine AllReadyH.cons rfl (fun K hK => ?_) AllReadyH.nil

    go_simp
    go_wp2_with (first | (go_at_call 37; refine (unhide HFl _ hq6).mono ?_; rintro e w5 ⟨ai, ci, rfl, hpN, hb5⟩; have hq5 := hq6.trans (hb5.mono hq6.size)))

    refine hK.out _ _ (unhide KS _ hq5) (fun hHeld => ?_)
    clear hK K
    try simp only [Act.put, List.setIfInBounds_toArray, List.set_cons_zero, List.set_cons_succ]

    refine wpAnyH_ready (rs := [11]) (by kernel_rfl) (by simp) ?_
    refine AllReadyH.cons rfl (fun K hK => ?_) AllReadyH.nil

    have k5 : w5.heap[w.heap.size]? = some (.cells #[.int .i64 0, .int .i64 0, .slice none 0 0] 32) := blk_below hA1.k0 hb5 (blk_lt hA1.k0)
    obtain ⟨⟨z0, z1, z2⟩, f0, f1, f2⟩ := three k5
    have hlp := blk_lt k5
    have kQ := put3p_at k5 (.int .i64 (W : Int)) (.int .i64 (H : Int)) (.slice ai M ci)
    have hqS := put3p_below hq5 (Nat.le_refl w.heap.size) (.int .i64 (W : Int)) (.int .i64 (H : Int)) (.slice ai M ci)
    have hPX : IsPx (put3p w5 w.heap.size (.int .i64 (W : Int)) (.int .i64 (H : Int)) (.slice ai M ci)) ai M (grid W (seenP L (n + 1))) := isPx_block hpN.is (fun x e h0 => put3p_far _ _ _ _ _ _ (by have := hpN.new x e; have h6 : (w.drew.alloc (.cells #[.int .i64 0, .int .i64 0, .slice none 0 0] 32)).heap.size = w.heap.size + 1 := hA1.size; omega))
    have hnew : ∀ x, ai = some x → w.heap.size ≤ x.block := fun x e => Nat.le_trans hq6.size (hpN.new x e)
    obtain kQ := (three kQ).1
    unfold put3p at kQ hqS hPX
    clear hA1 hq6 hpN hb5 k5
    go_simp
    go_wp2_with fail
    generalize ((w5.setCell ⟨w.heap.size, 0, none⟩ (.int .i64 (W : Int))).setCell ⟨w.heap.size, 1, none⟩ (.int .i64 (H : Int))).setCell ⟨w.heap.size, 2, none⟩ (.slice ai M ci) = wS at *

    refine hK.out _ _ (unhide KS _ hqS) (fun hHeld => ?_)
    clear hK K
    try simp only [Act.put, List.setIfInBounds_toArray, List.set_cons_zero, List.set_cons_succ]

    refine wpAnyH_done (by kernel_rfl) ?_ _
    obtain ⟨p0, p1, p2⟩ := kQ
    have hc := (hqS.cell (p := ⟨p, 0, none⟩) hpl).trans (unhide KP)
    have hA := al1 wS (.cells #[.string t, .int .i64 0, .int .i64 0, .bool false, .int .i64 255, .int .i64 0, .int .i64 (W : Int), .int .i64 (H : Int), .slice ai M ci] 54)
    have hRw := (unhide HR).block ((hA.below.block g (by have := hqS.size; omega)).trans (hqS.block g hgl))
    have hPX2 : IsPx (wS.alloc (.cells #[.string t, .int .i64 0, .int .i64 0, .bool false, .int .i64 255, .int .i64 0, .int .i64 (W : Int), .int .i64 (H : Int), .slice ai M ci] 54)) ai M (grid W (seenP L (n + 1))) := hPX.below hA.below
    have hbA := hqS.trans (hA.below.mono hqS.size)
    have hpS : p < wS.heap.size := by have := hqS.size; omega
    have HRC := hide (unhide HRp wS.heap.size _ (mrgL t W H M (grid W (seenP L (n + 1)))) ai ci _ hRw hA.k0)
    have HPX := hide hPX2
    have HBA := hide hbA
    have HNW := hide hnew
    clear hRw hA hPX hPX2 hbA hqS hnew HRp HFl KS hdr hHeld c0 c1
    go_wp2_with fail
    refine (unhide HRC).mono ?_
    rintro e w8 ⟨rfl, h1, h2, h3, h4⟩
    have hgA : g < (wS.alloc (.cells #[.string t, .int .i64 0, .int .i64 0, .bool false, .int .i64 255, .int .i64 0, .int .i64 (W : Int), .int .i64 (H : Int), .slice ai M ci] 54)).heap.size := by have := (unhide HBA).size; omega
    have H1 := hide h1
    have H2 : Hid (IsPx w8 ai M (grid W (seenP L (n + 1)))) := isPx_block (unhide HPX) (fun x e _ => h2 x.block (by have := unhide HNW x e; omega))
    have H3 : Hid (∀ b, b ≠ g → b < w.heap.size → w8.heap[b]? = w.heap[b]?) := fun b hb hl => (h2 b hb).trans ((unhide HBA).block b hl)
    have H4 := hide (((unhide HBA).mono (Nat.le_of_lt hgl)).trans h4)
    clear h1 h2 h3 h4 HRC HPX HBA
    go_wp2
    go_ret2
    exact ⟨ai, ci, rfl, unhide H1, unhide H2, unhide HNW, unhide H3, unhide H4⟩
end Go.Proofs.YtkdckcengmkhhajDoor
