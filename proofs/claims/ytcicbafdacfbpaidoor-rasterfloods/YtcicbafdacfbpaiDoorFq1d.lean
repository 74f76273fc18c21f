/- Floods: a place is met: the program's closure. -/
import Derived.Test.YtcicbafdacfbpaiDoorFq1
namespace Go.Proofs.YtcicbafdacfbpaiDoor
open Go.RowKit

set_option maxHeartbeats 4000000 in
theorem meet_new (B kp kl km kw W H : Nat) (a : Option Addr) (n c : Nat) (p : Nat → Px) (like : Px) (g : Nat) (f : Nat → Bool) (va : Option Addr) (vc : Nat) (l : List (Nat × Nat)) (x y : Nat) (w : World) (hS : LFS w B kp kl km kw W H a n c p like g f va vc l) (hW : W ≤ 256) (hH : H ≤ 256) (hn : n = W * H) (hx : x < W) (hy : y < H) (hk : LFK B kp kl km kw g a) (hlb : l.length ≤ 100000) (he : p (y * W + x) = like) (hf : f (y * W + x) = false) :
    Calls Tryd.prog 54 #[.int .i64 (x : Int), .int .i64 (y : Int), .pointer (some ⟨kp, 0, none⟩), .pointer (some ⟨kl, 0, none⟩), .pointer (some ⟨km, 0, none⟩), .pointer (some ⟨kw, 0, none⟩)] w fun e w' => e = .returned (.tuple #[]) ∧ (∃ vb vd, LFS w' B kp kl km kw W H a n c p like g (updB f (y * W + x)) vb vd (l ++ [(x, y)]) ∧ Keep w w' kw g (.slice va l.length vc) (.slice vb (l ++ [(x, y)]).length vd)) ∧ Below B w w' := by
  obtain ⟨i0, hi, hz0, hz1, hz2⟩ := info_parts place_info
  have Hi := hide hi
  have Hz0 := hide hz0
  have Hz1 := hide hz1
  have Hz2 := hide hz2
  have HH := hide (fun w => holds_any (W : Int) (H : Int) (x : Int) (y : Int) a n c w)
  rw [decide_eq_true (show (0 : Int) ≤ x ∧ (x : Int) < W ∧ (0 : Int) ≤ y ∧ (y : Int) < H by omega)] at HH
  have HA := hide (fun wx (h : Below w.heap.size w wx) => rat_any W H x y a n c p wx (hS.px.below h) hW hH hx hy hn)
  have HM := hide (fun wx (h : Below w.heap.size w wx) => isMarked_any W H g n n x y f wx (hS.mr.below h hS.mr.lt) hW hH hx hy hn)
  have HMA := hide (fun wx (h : MR wx g n f) => mark_any W H g n n x y f wx h hW hH hx hy hn)
  have HS := hide hS
  have hlkp := blk_lt (unhide HS).pic
  have hlkl := blk_lt (unhide HS).lik
  have hlkm := blk_lt (unhide HS).mks
  have ckp0 : w.cell? ⟨kp, 0, none⟩ = some (.int .i64 (W : Int)) := blk_cell (unhide HS).pic 0
  have ckp1 : w.cell? ⟨kp, 1, none⟩ = some (.int .i64 (H : Int)) := blk_cell (unhide HS).pic 1
  have ckp2 : w.cell? ⟨kp, 2, none⟩ = some (.slice a n c) := blk_cell (unhide HS).pic 2
  have ckl0 : w.cell? ⟨kl, 0, none⟩ = some (.int .u8 (like.r.toNat : Int)) := blk_cell (unhide HS).lik 0
  have ckl1 : w.cell? ⟨kl, 1, none⟩ = some (.int .u8 (like.g.toNat : Int)) := blk_cell (unhide HS).lik 1
  have ckl2 : w.cell? ⟨kl, 2, none⟩ = some (.int .u8 (like.b.toNat : Int)) := blk_cell (unhide HS).lik 2
  have ckl3 : w.cell? ⟨kl, 3, none⟩ = some (.int .u8 (like.a.toNat : Int)) := blk_cell (unhide HS).lik 3
  have ckm0 : w.cell? ⟨km, 0, none⟩ = some (.int .i64 (W : Int)) := blk_cell (unhide HS).mks 0
  have ckm1 : w.cell? ⟨km, 1, none⟩ = some (.slice (some ⟨g, 0, none⟩) n n) := blk_cell (unhide HS).mks 1
  have hdr := (Below.refl w.heap.size w).drew
  rw [he] at HA
  rw [hf] at HM
  have hBw : B ≤ w.heap.size := by have := blk_lt hS.wai; have := hk.hw; omega
  have HK := hide hk
  obtain ⟨i, hie⟩ : ∃ i, i = y * W + x := ⟨_, rfl⟩
  rw [← hie] at HMA ⊢
  clear hS he hn hf hi hz0 hz1 hz2 hk hie
  unfold Px.val at HA
  generalize (like.r.toNat : Int) = L0 at *
  generalize (like.g.toNat : Int) = L1 at *
  generalize (like.b.toNat : Int) = L2 at *
  generalize (like.a.toNat : Int) = L3 at *
  have hKS := hide (fun wx (h : Below w.heap.size w wx) => (⟨fcell h hlkp ckp0, fcell h hlkp ckp1, fcell h hlkp ckp2, fcell h hlkl ckl0, fcell h hlkl ckl1, fcell h hlkl ckl2, fcell h hlkl ckl3, fcell h hlkm ckm0, fcell h hlkm ckm1⟩ : wx.cell? ⟨kp, 0, none⟩ = some (.int .i64 (W : Int)) ∧ wx.cell? ⟨kp, 1, none⟩ = some (.int .i64 (H : Int)) ∧ wx.cell? ⟨kp, 2, none⟩ = some (.slice a n c) ∧ wx.cell? ⟨kl, 0, none⟩ = some (.int .u8 L0) ∧ wx.cell? ⟨kl, 1, none⟩ = some (.int .u8 L1) ∧ wx.cell? ⟨kl, 2, none⟩ = some (.int .u8 L2) ∧ wx.cell? ⟨kl, 3, none⟩ = some (.int .u8 L3) ∧ wx.cell? ⟨km, 0, none⟩ = some (.int .i64 (W : Int)) ∧ wx.cell? ⟨km, 1, none⟩ = some (.slice (some ⟨g, 0, none⟩) n n)))
  go_enter Tryd.func54, Tryd.ntmps54
  go_wp2
  refine wp_region_held_drew (S := fun w' => w'.cell? ⟨kp, 0, none⟩ = some (.int .i64 (W : Int)) ∧ w'.cell? ⟨kp, 1, none⟩ = some (.int .i64 (H : Int)) ∧ w'.cell? ⟨kp, 2, none⟩ = some (.slice a n c) ∧ w'.cell? ⟨kl, 0, none⟩ = some (.int .u8 L0) ∧ w'.cell? ⟨kl, 1, none⟩ = some (.int .u8 L1) ∧ w'.cell? ⟨kl, 2, none⟩ = some (.int .u8 L2) ∧ w'.cell? ⟨kl, 3, none⟩ = some (.int .u8 L3) ∧ w'.cell? ⟨km, 0, none⟩ = some (.int .i64 (W : Int)) ∧ w'.cell? ⟨km, 1, none⟩ = some (.slice (some ⟨g, 0, none⟩) n n)) (by kernel_rfl) (unhide hKS _ hdr) (fun hHeld => ?_)
  refine wpAnyH_take (i := 0) (v := .agg #[.int .i64 (W : Int), .int .i64 (H : Int), .slice a n c]) rfl (by kernel_rfl) (by kernel_rfl) (by kernel_rfl) (fun _ _ _ h => h) (Or.inl ⟨by rfl, ?_⟩) hHeld ?_
  · intro w' hSw
    try dsimp only at hSw
    go_simp
  simp only [List.getElem_toArray, List.getElem_cons_zero, Act.put, List.setIfInBounds_toArray, List.set_cons_zero, List.set_cons_succ]
  refine wpAnyH_take (i := 1) (v := .int .i64 (x : Int)) rfl (by kernel_rfl) (by kernel_rfl) (by kernel_rfl) (fun _ _ _ h => h) (Or.inl ⟨by rfl, ?_⟩) hHeld ?_
  · intro w' hSw
    try dsimp only at hSw
    go_simp
  simp only [List.getElem_toArray, List.getElem_cons_succ, List.getElem_cons_zero, Act.put, List.setIfInBounds_toArray, List.set_cons_zero, List.set_cons_succ]
  refine wpAnyH_take (i := 2) (v := .int .i64 (y : Int)) rfl (by kernel_rfl) (by kernel_rfl) (by kernel_rfl) (fun _ _ _ h => h) (Or.inl ⟨by rfl, ?_⟩) hHeld ?_
  · intro w' hSw
    try dsimp only at hSw
    go_simp
  simp only [List.getElem_toArray, List.getElem_cons_succ, List.getElem_cons_zero, Act.put, List.setIfInBounds_toArray, List.set_cons_zero, List.set_cons_succ]
  refine wpAnyH_ready (rs := [3]) (by kernel_rfl) (by simp) ?_
  refine AllReadyH.cons rfl (fun K hK => ?_) AllReadyH.nil
  go_simp
  refine (unhide HH w.drew).mono ?_
  rintro e w1 ⟨rfl, hb1⟩
  have hq1 := hdr.trans (hb1.mono (Nat.le_refl _))
  dsimp only
  refine hK.out _ _ (unhide hKS _ hq1) (fun hHeld => ?_)
  clear hK K
  try simp only [List.getElem_toArray, List.getElem_cons_succ, List.getElem_cons_zero, Act.put, List.setIfInBounds_toArray, List.set_cons_zero, List.set_cons_succ]
  refine wpAnyH_take (i := 4) (v := .bool true) rfl (by kernel_rfl) (by kernel_rfl) (by kernel_rfl) (fun _ _ _ h => h) (Or.inl ⟨by rfl, ?_⟩) hHeld ?_
  · intro w' hSw
    try dsimp only at hSw
    go_simp
  simp only [List.getElem_toArray, List.getElem_cons_succ, List.getElem_cons_zero, Act.put, List.setIfInBounds_toArray, List.set_cons_zero, List.set_cons_succ]
  refine wpAnyH_take (i := 5) (v := .agg #[.int .i64 (W : Int), .int .i64 (H : Int), .slice a n c]) rfl (by kernel_rfl) (by kernel_rfl) (by kernel_rfl) (fun _ _ _ h => h) (Or.inl ⟨by kernel_rfl, ?_⟩) hHeld ?_
  · intro w' hSw
    try dsimp only at hSw
    go_simp
  simp only [List.getElem_toArray, List.getElem_cons_succ, List.getElem_cons_zero, Act.put, List.setIfInBounds_toArray, List.set_cons_zero, List.set_cons_succ]
  refine wpAnyH_take (i := 6) (v := .int .i64 (x : Int)) rfl (by kernel_rfl) (by kernel_rfl) (by kernel_rfl) (fun _ _ _ h => h) (Or.inl ⟨by kernel_rfl, ?_⟩) hHeld ?_
  · intro w' hSw
    try dsimp only at hSw
    go_simp
  simp only [List.getElem_toArray, List.getElem_cons_succ, List.getElem_cons_zero, Act.put, List.setIfInBounds_toArray, List.set_cons_zero, List.set_cons_succ]
  refine wpAnyH_take (i := 7) (v := .int .i64 (y : Int)) rfl (by kernel_rfl) (by kernel_rfl) (by kernel_rfl) (fun _ _ _ h => h) (Or.inl ⟨by kernel_rfl, ?_⟩) hHeld ?_
  · intro w' hSw
    try dsimp only at hSw
    go_simp
  simp only [List.getElem_toArray, List.getElem_cons_succ, List.getElem_cons_zero, Act.put, List.setIfInBounds_toArray, List.set_cons_zero, List.set_cons_succ]
  refine wpAnyH_take (i := 9) (v := .agg #[.int .u8 L0, .int .u8 L1, .int .u8 L2, .int .u8 L3]) rfl (by kernel_rfl) (by kernel_rfl) (by kernel_rfl) (fun _ _ _ h => h) (Or.inl ⟨by kernel_rfl, ?_⟩) hHeld ?_
  · intro w' hSw
    try dsimp only at hSw
    go_simp
  simp only [List.getElem_toArray, List.getElem_cons_succ, List.getElem_cons_zero, Act.put, List.setIfInBounds_toArray, List.set_cons_zero, List.set_cons_succ]
  refine wpAnyH_ready (rs := [8]) (by kernel_rfl) (by simp) ?_
  refine AllReadyH.cons rfl (fun K hK => ?_) AllReadyH.nil
  go_simp
  refine (unhide HA w1 hq1).mono ?_
  rintro e w2 ⟨rfl, hb2⟩
  have hq2 := hq1.trans (hb2.mono hq1.size)
  dsimp only
  refine hK.out _ _ (unhide hKS _ hq2) (fun hHeld => ?_)
  clear hK K
  try simp only [List.getElem_toArray, List.getElem_cons_succ, List.getElem_cons_zero, Act.put, List.setIfInBounds_toArray, List.set_cons_zero, List.set_cons_succ]
  refine wpAnyH_take (i := 10) (v := .bool true) rfl (by kernel_rfl) (by kernel_rfl) (by kernel_rfl) (fun _ _ _ h => h) (Or.inl ⟨by kernel_rfl, ?_⟩) hHeld ?_
  · intro w' hSw
    try dsimp only at hSw
    go_simp
  simp only [List.getElem_toArray, List.getElem_cons_succ, List.getElem_cons_zero, Act.put, List.setIfInBounds_toArray, List.set_cons_zero, List.set_cons_succ]
  refine wpAnyH_take (i := 11) (v := .bool true) rfl (by kernel_rfl) (by kernel_rfl) (by kernel_rfl) (fun _ _ _ h => h) (Or.inl ⟨by rfl, ?_⟩) hHeld ?_
  · intro w' hSw
    try dsimp only at hSw
    go_simp
  simp only [List.getElem_toArray, List.getElem_cons_succ, List.getElem_cons_zero, Act.put, List.setIfInBounds_toArray, List.set_cons_zero, List.set_cons_succ]
  refine wpAnyH_take (i := 12) (v := .bool true) rfl (by kernel_rfl) (by kernel_rfl) (by kernel_rfl) (fun _ _ _ h => h) (Or.inl ⟨by rfl, ?_⟩) hHeld ?_
  · intro w' hSw
    try dsimp only at hSw
    go_simp
  simp only [List.getElem_toArray, List.getElem_cons_succ, List.getElem_cons_zero, Act.put, List.setIfInBounds_toArray, List.set_cons_zero, List.set_cons_succ]
  refine wpAnyH_take (i := 13) (v := .agg #[.int .i64 (W : Int), .slice (some ⟨g, 0, none⟩) n n]) rfl (by kernel_rfl) (by kernel_rfl) (by kernel_rfl) (fun _ _ _ h => h) (Or.inl ⟨by kernel_rfl, ?_⟩) hHeld ?_
  · intro w' hSw
    try dsimp only at hSw
    go_simp
  simp only [List.getElem_toArray, List.getElem_cons_succ, List.getElem_cons_zero, Act.put, List.setIfInBounds_toArray, List.set_cons_zero, List.set_cons_succ]
  refine wpAnyH_take (i := 14) (v := .int .i64 (x : Int)) rfl (by kernel_rfl) (by kernel_rfl) (by kernel_rfl) (fun _ _ _ h => h) (Or.inl ⟨by kernel_rfl, ?_⟩) hHeld ?_
  · intro w' hSw
    try dsimp only at hSw
    go_simp
  simp only [List.getElem_toArray, List.getElem_cons_succ, List.getElem_cons_zero, Act.put, List.setIfInBounds_toArray, List.set_cons_zero, List.set_cons_succ]
  refine wpAnyH_take (i := 15) (v := .int .i64 (y : Int)) rfl (by kernel_rfl) (by kernel_rfl) (by kernel_rfl) (fun _ _ _ h => h) (Or.inl ⟨by kernel_rfl, ?_⟩) hHeld ?_
  · intro w' hSw
    try dsimp only at hSw
    go_simp
  simp only [List.getElem_toArray, List.getElem_cons_succ, List.getElem_cons_zero, Act.put, List.setIfInBounds_toArray, List.set_cons_zero, List.set_cons_succ]
  refine wpAnyH_ready (rs := [16]) (by kernel_rfl) (by simp) ?_
  refine AllReadyH.cons rfl (fun K hK => ?_) AllReadyH.nil
  go_simp
  refine (unhide HM w2 hq2).mono ?_
  rintro e w3 ⟨rfl, hb3⟩
  have hq3 := hq2.trans (hb3.mono hq2.size)
  dsimp only
  refine hK.out _ _ (unhide hKS _ hq3) (fun hHeld => ?_)
  clear hK K
  try simp only [List.getElem_toArray, List.getElem_cons_succ, List.getElem_cons_zero, Act.put, List.setIfInBounds_toArray, List.set_cons_zero, List.set_cons_succ]
  refine wpAnyH_take (i := 17) (v := .bool true) rfl (by kernel_rfl) (by kernel_rfl) (by kernel_rfl) (fun _ _ _ h => h) (Or.inl ⟨by kernel_rfl, ?_⟩) hHeld ?_
  · intro w' hSw
    try dsimp only at hSw
    go_simp
  simp only [List.getElem_toArray, List.getElem_cons_succ, List.getElem_cons_zero, Act.put, List.setIfInBounds_toArray, List.set_cons_zero, List.set_cons_succ]
  refine wpAnyH_take (i := 18) (v := .bool true) rfl (by kernel_rfl) (by kernel_rfl) (by kernel_rfl) (fun _ _ _ h => h) (Or.inl ⟨by rfl, ?_⟩) hHeld ?_
  · intro w' hSw
    try dsimp only at hSw
    go_simp
  simp only [List.getElem_toArray, List.getElem_cons_succ, List.getElem_cons_zero, Act.put, List.setIfInBounds_toArray, List.set_cons_zero, List.set_cons_succ]
  refine wpAnyH_done (by kernel_rfl) ?_ _
  clear hHeld
  have HS3 := hide ((unhide HS).below hq3)
  have HB3 := hide (hq3.mono hBw)
  have HQ3 := hide hq3
  have hs3 := hq3.size
  obtain ⟨_, _, _, _, _, _, _, d0, d1⟩ := unhide hKS _ hq3
  clear hKS hq1 hb1 hq2 hb2 hq3 hb3 hdr HH HA HM HS ckp0 ckp1 ckp2 ckl0 ckl1 ckl2 ckl3 ckm0 ckm1
  go_wp2_with fail
  refine (unhide HMA w3 (unhide HS3).mr).mono ?_
  rintro e w4 ⟨rfl, hm4, hb4⟩
  have HS4 := hide ((unhide HS3).marked (unhide HK) hm4 hb4)
  have HB4 : Hid (Below B w w4) := (unhide HB3).trans (hb4.below (B := B) (by omega) (fun z hz => by have := (unhide HK).hg; show ¬ z = g; omega))
  have hs4 := hb4.size
  have HKA : Hid (∀ k, k < w.heap.size → k ≠ g → w4.heap[k]? = w.heap[k]?) := fun k hk hg => (hb4.block k (by omega) hg).trans ((unhide HQ3).block k hk)
  have q0 : w4.cell? ⟨kw, 0, none⟩ = some (.slice va l.length vc) := blk_cell (unhide HS4).wai 0
  have hlw := blk_lt (unhide HS4).wai
  have HA5 := hide (al1 w4 (.cells #[.int .i64 (x : Int), .int .i64 (y : Int)] 86))
  have HS5 := hide ((unhide HS4).below (unhide HA5).below)
  have HB5 := hide ((unhide HB4).trans ((unhide HA5).below.mono (by omega)))
  have HLI : Hid (∀ j u, ([.int .i64 (x : Int), .int .i64 (y : Int)] : List Value)[j]? = some u → (w4.alloc (.cells #[.int .i64 (x : Int), .int .i64 (y : Int)] 86)).cell? ((⟨w4.heap.size, 0, none⟩ : Addr).add j) = some u) := World.news_of_block (heap_alloc_new w4 _)
  have HON : Hid (∀ u ∈ ([.int .i64 (x : Int), .int .i64 (y : Int)] : List Value), u.oneCell' = true) := fun u hu => by
    simp only [List.mem_cons, List.not_mem_nil, or_false] at hu
    rcases hu with rfl | rfl <;> rfl
  have HPV : Hid (plV (l ++ [(x, y)]) = plV l ++ [.int .i64 (x : Int), .int .i64 (y : Int)]) := by show _ = _; rw [plV_append]; rfl
  clear hm4 hb4 HS3 HB3 d0 d1 HMA
  go_wp2_with (at_builtin; refine wpList_append_lies _ rfl (.tmp 31) (.tmp 35) 83 rfl B 86 i0 (.agg #[.int .i64 0, .int .i64 0]) 2 16 Tryd.underlying83 (unhide Hi) (unhide Hz0) (unhide Hz1) (unhide Hz2) rfl (by omega) (.slice va l.length vc) l.length (plV l) rfl (unhide HS5).row ⟨w4.heap.size, 0, none⟩ 1 1 [.int .i64 (x : Int), .int .i64 (y : Int)] rfl rfl (unhide HLI) (unhide HON) (by omega) (by unfold maxLen; omega) (by omega) (by have := (unhide HA5).size; omega) _ rfl ?_)
  intro gb cap w6 hown hgr hat hlt6
  rw [← unhide HPV] at hown
  have HF := hide ((unhide HS5).more (unhide HK) hown hgr (by rw [(unhide HA5).size]; exact hat))
  have hk6 := (hgr.block kw (blk_lt (unhide HS5).wai) (fun e => ((unhide HS5).ap kw e.symm).2.2.2.1 rfl)).trans (unhide HS5).wai
  have q6 : w6.cell? ⟨kw, 0, none⟩ = some (.slice va l.length vc) := blk_cell hk6 0
  have f6 := blk_frozen hk6 0
  have HB6 : Hid (Below B w w6) := (unhide HB5).grown hgr (by have := (unhide HA5).size; omega) (fun z e => ((unhide HS5).row.lt z e).1)
  have hkw := (unhide HK).hw
  have HKP : Hid (Keep w (w6.setCell ⟨kw, 0, none⟩ (.slice (some ⟨gb, 0, none⟩) (l.length + 1) cap)) kw g (.slice va l.length vc) (.slice (some ⟨gb, 0, none⟩) (l.length + 1) cap)) := fun k hk h1 h2 h3 => by
    refine ⟨(Below.heap_setCell _ _ _ _ h1).trans ((hgr.block k (by have := (unhide HA5).size; omega) (fun e => h3 e.symm)).trans ((Below.heap_alloc _ _ _ (by omega)).trans (unhide HKA k hk h2))), fun e => ?_⟩
    have e : gb = k := by simpa [Value.ownBlock] using e
    rcases hat with q | q
    · exact h3 (by rw [q, e])
    · omega
  clear hown hgr hat hlt6 HS4 HS5 HB4 HB5 HLI HON HPV q0 hk6 HA5 HKA HQ3
  go_wp2
  go_end0
  exact ⟨rfl, ⟨_, _, unhide HF, by rw [List.length_append]; exact unhide HKP⟩, (unhide HB6).setCell (p := ⟨kw, 0, none⟩) hkw _⟩
end Go.Proofs.YtcicbafdacfbpaiDoor
