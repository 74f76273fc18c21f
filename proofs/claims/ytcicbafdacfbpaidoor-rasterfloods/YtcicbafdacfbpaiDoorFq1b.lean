/- Floods: a place is met: the program's closure. -/
import Derived.Test.YtcicbafdacfbpaiDoorFq1
namespace Go.Proofs.YtcicbafdacfbpaiDoor
open Go.RowKit

set_option maxHeartbeats 2000000 in
theorem meet_unlike (B kp kl km kw W H : Nat) (a : Option Addr) (n c : Nat) (p : Nat → Px) (like : Px) (g : Nat) (f : Nat → Bool) (va : Option Addr) (vc : Nat) (l : List (Nat × Nat)) (x y : Nat) (w : World) (hS : LFS w B kp kl km kw W H a n c p like g f va vc l) (hW : W ≤ 256) (hH : H ≤ 256) (hn : n = W * H) (hx : x < W) (hy : y < H) (hne : p (y * W + x) ≠ like) :
    Calls Tryd.prog 54 #[.int .i64 (x : Int), .int .i64 (y : Int), .pointer (some ⟨kp, 0, none⟩), .pointer (some ⟨kl, 0, none⟩), .pointer (some ⟨km, 0, none⟩), .pointer (some ⟨kw, 0, none⟩)] w fun e w' => e = .returned (.tuple #[]) ∧ LFS w' B kp kl km kw W H a n c p like g f va vc l ∧ Below w.heap.size w w' := by
  have HH := hide (fun w => holds_any (W : Int) (H : Int) (x : Int) (y : Int) a n c w)
  rw [decide_eq_true (show (0 : Int) ≤ x ∧ (x : Int) < W ∧ (0 : Int) ≤ y ∧ (y : Int) < H by omega)] at HH
  have HA := hide (fun wx (h : Below w.heap.size w wx) => rat_any W H x y a n c p wx (hS.px.below h) hW hH hx hy hn)
  have HS := hide hS
  have hlkp := blk_lt (unhide HS).pic
  have hlkl := blk_lt (unhide HS).lik
  have hlkm := blk_lt (unhide HS).mks
  have ckp0 : w.cell? ⟨kp, 0, none⟩ = some (.int .i64 (W : Int)) := blk_cell (unhide HS).pic 0
  have ckp1 : w.cell? ⟨kp, 1, none⟩ = some (.int .i64 (H : Int)) := blk_cell (unhide HS).pic 1
  have ckp2 : w.cell? ⟨kp, 2, none⟩ = some (.slice a n c) := blk_cell (unhide HS).pic 2
  have ckl0 : w.cell? ⟨kl, 0, none⟩ = some (.int .u8 (like.r.toNat : Int)) := blk_cell (unhide HS).lik 0
  have ckl1 : w.cell? ⟨kl, 1, none⟩ = some (.int .u8 (like.g.toNat : Int)) := blk_cell (unhide HS).lik 1
  have ckl2 : w.cell? ⟨kl, 2, none⟩ = some (.int .u8 (like.b.toNat : Int)) := blk_cell (unhide HS).lik 2
  have ckl3 : w.cell? ⟨kl, 3, none⟩ = some (.int .u8 (like.a.toNat : Int)) := blk_cell (unhide HS).lik 3
  have ckm0 : w.cell? ⟨km, 0, none⟩ = some (.int .i64 (W : Int)) := blk_cell (unhide HS).mks 0
  have ckm1 : w.cell? ⟨km, 1, none⟩ = some (.slice (some ⟨g, 0, none⟩) n n) := blk_cell (unhide HS).mks 1
  have hdr := (Below.refl w.heap.size w).drew
  rcases px_parts (p (y * W + x)) like with e | ⟨_, hd⟩
  · exact absurd e hne
  clear hS hne hn
  unfold Px.val at HA
  generalize p (y * W + x) = v at *
  generalize (like.r.toNat : Int) = L0 at *
  generalize (like.g.toNat : Int) = L1 at *
  generalize (like.b.toNat : Int) = L2 at *
  generalize (like.a.toNat : Int) = L3 at *
  generalize (v.r.toNat : Int) = V0 at *
  generalize (v.g.toNat : Int) = V1 at *
  generalize (v.b.toNat : Int) = V2 at *
  generalize (v.a.toNat : Int) = V3 at *
  have hKS := hide (fun wx (h : Below w.heap.size w wx) => (⟨fcell h hlkp ckp0, fcell h hlkp ckp1, fcell h hlkp ckp2, fcell h hlkl ckl0, fcell h hlkl ckl1, fcell h hlkl ckl2, fcell h hlkl ckl3, fcell h hlkm ckm0, fcell h hlkm ckm1⟩ : wx.cell? ⟨kp, 0, none⟩ = some (.int .i64 (W : Int)) ∧ wx.cell? ⟨kp, 1, none⟩ = some (.int .i64 (H : Int)) ∧ wx.cell? ⟨kp, 2, none⟩ = some (.slice a n c) ∧ wx.cell? ⟨kl, 0, none⟩ = some (.int .u8 L0) ∧ wx.cell? ⟨kl, 1, none⟩ = some (.int .u8 L1) ∧ wx.cell? ⟨kl, 2, none⟩ = some (.int .u8 L2) ∧ wx.cell? ⟨kl, 3, none⟩ = some (.int .u8 L3) ∧ wx.cell? ⟨km, 0, none⟩ = some (.int .i64 (W : Int)) ∧ wx.cell? ⟨km, 1, none⟩ = some (.slice (some ⟨g, 0, none⟩) n n)))
  rcases hd with hd | ⟨e0, hd⟩ | ⟨e0, e1, hd⟩ | ⟨e0, e1, e2, hd⟩
  all_goals
    have hd' := decide_eq_false hd
    go_enter Tryd.func54, Tryd.ntmps54
    go_wp2
    refine wp_region_held_drew (S := fun w' => w'.cell? ⟨kp, 0, none⟩ = some (.int .i64 (W : Int)) ∧ w'.cell? ⟨kp, 1, none⟩ = some (.int .i64 (H : Int)) ∧ w'.cell? ⟨kp, 2, none⟩ = some (.slice a n c) ∧ w'.cell? ⟨kl, 0, none⟩ = some (.int .u8 L0) ∧ w'.cell? ⟨kl, 1, none⟩ = some (.int .u8 L1) ∧ w'.cell? ⟨kl, 2, none⟩ = some (.int .u8 L2) ∧ w'.cell? ⟨kl, 3, none⟩ = some (.int .u8 L3) ∧ w'.cell? ⟨km, 0, none⟩ = some (.int .i64 (W : Int)) ∧ w'.cell? ⟨km, 1, none⟩ = some (.slice (some ⟨g, 0, none⟩) n n)) (by kernel_rfl) (unhide hKS _ hdr) (fun hHeld => ?_)
    refine wpAnyH_take (i := 0) (v := .agg #[.int .i64 (W : Int), .int .i64 (H : Int), .slice a n c]) rfl (by kernel_rfl) (by kernel_rfl) (by kernel_rfl) (fun _ _ _ h => h) (Or.inl ⟨by rfl, ?_⟩) hHeld ?_
    · intro w' hSw
      try dsimp only at hSw
      go_simp
    simp only [List.getElem_toArray, List.getElem_cons_zero, Act.put, List.setIfInBounds_toArray, List.set_cons_zero, List.set_cons_succ]
    refine wpAnyH_take (i := 1) (v := .int .i64 (x : Int)) rfl (by kernel_rfl) (by kernel_rfl) (by kernel_rfl) (fun _ _ _ h => h) (Or.inl ⟨by rfl, ?_⟩) hHeld ?_
    · intro w' hSw
      try dsimp only at hSw
      go_simp
    simp only [List.getElem_toArray, List.getElem_cons_succ, List.getElem_cons_zero, Act.put, List.setIfInBounds_toArray, List.set_cons_zero, List.set_cons_succ]
    refine wpAnyH_take (i := 2) (v := .int .i64 (y : Int)) rfl (by kernel_rfl) (by kernel_rfl) (by kernel_rfl) (fun _ _ _ h => h) (Or.inl ⟨by rfl, ?_⟩) hHeld ?_
    · intro w' hSw
      try dsimp only at hSw
      go_simp
    simp only [List.getElem_toArray, List.getElem_cons_succ, List.getElem_cons_zero, Act.put, List.setIfInBounds_toArray, List.set_cons_zero, List.set_cons_succ]
    refine wpAnyH_ready (rs := [3]) (by kernel_rfl) (by simp) ?_
    refine AllReadyH.cons rfl (fun K hK => ?_) AllReadyH.nil
    go_simp
    refine (unhide HH w.drew).mono ?_
    rintro e w1 ⟨rfl, hb1⟩
    have hq1 := hdr.trans (hb1.mono (Nat.le_refl _))
    dsimp only
    refine hK.out _ _ (unhide hKS _ hq1) (fun hHeld => ?_)
    clear hK K
    try simp only [List.getElem_toArray, List.getElem_cons_succ, List.getElem_cons_zero, Act.put, List.setIfInBounds_toArray, List.set_cons_zero, List.set_cons_succ]
    refine wpAnyH_take (i := 4) (v := .bool true) rfl (by kernel_rfl) (by kernel_rfl) (by kernel_rfl) (fun _ _ _ h => h) (Or.inl ⟨by rfl, ?_⟩) hHeld ?_
    · intro w' hSw
      try dsimp only at hSw
      go_simp
    simp only [List.getElem_toArray, List.getElem_cons_succ, List.getElem_cons_zero, Act.put, List.setIfInBounds_toArray, List.set_cons_zero, List.set_cons_succ]
    refine wpAnyH_take (i := 5) (v := .agg #[.int .i64 (W : Int), .int .i64 (H : Int), .slice a n c]) rfl (by kernel_rfl) (by kernel_rfl) (by kernel_rfl) (fun _ _ _ h => h) (Or.inl ⟨by kernel_rfl, ?_⟩) hHeld ?_
    · intro w' hSw
      try dsimp only at hSw
      go_simp
    simp only [List.getElem_toArray, List.getElem_cons_succ, List.getElem_cons_zero, Act.put, List.setIfInBounds_toArray, List.set_cons_zero, List.set_cons_succ]
    refine wpAnyH_take (i := 6) (v := .int .i64 (x : Int)) rfl (by kernel_rfl) (by kernel_rfl) (by kernel_rfl) (fun _ _ _ h => h) (Or.inl ⟨by kernel_rfl, ?_⟩) hHeld ?_
    · intro w' hSw
      try dsimp only at hSw
      go_simp
    simp only [List.getElem_toArray, List.getElem_cons_succ, List.getElem_cons_zero, Act.put, List.setIfInBounds_toArray, List.set_cons_zero, List.set_cons_succ]
    refine wpAnyH_take (i := 7) (v := .int .i64 (y : Int)) rfl (by kernel_rfl) (by kernel_rfl) (by kernel_rfl) (fun _ _ _ h => h) (Or.inl ⟨by kernel_rfl, ?_⟩) hHeld ?_
    · intro w' hSw
      try dsimp only at hSw
      go_simp
    simp only [List.getElem_toArray, List.getElem_cons_succ, List.getElem_cons_zero, Act.put, List.setIfInBounds_toArray, List.set_cons_zero, List.set_cons_succ]
    refine wpAnyH_take (i := 9) (v := .agg #[.int .u8 L0, .int .u8 L1, .int .u8 L2, .int .u8 L3]) rfl (by kernel_rfl) (by kernel_rfl) (by kernel_rfl) (fun _ _ _ h => h) (Or.inl ⟨by kernel_rfl, ?_⟩) hHeld ?_
    · intro w' hSw
      try dsimp only at hSw
      go_simp
    simp only [List.getElem_toArray, List.getElem_cons_succ, List.getElem_cons_zero, Act.put, List.setIfInBounds_toArray, List.set_cons_zero, List.set_cons_succ]
    refine wpAnyH_ready (rs := [8]) (by kernel_rfl) (by simp) ?_
    refine AllReadyH.cons rfl (fun K hK => ?_) AllReadyH.nil
    go_simp
    refine (unhide HA w1 hq1).mono ?_
    rintro e w2 ⟨rfl, hb2⟩
    have hq2 := hq1.trans (hb2.mono hq1.size)
    dsimp only
    refine hK.out _ _ (unhide hKS _ hq2) (fun hHeld => ?_)
    clear hK K
    try simp only [List.getElem_toArray, List.getElem_cons_succ, List.getElem_cons_zero, Act.put, List.setIfInBounds_toArray, List.set_cons_zero, List.set_cons_succ]
    refine wpAnyH_take (i := 10) (v := .bool false) rfl (by kernel_rfl) (by kernel_rfl) (by kernel_rfl) (fun _ _ _ h => h) (Or.inl ⟨by kernel_rfl, ?_⟩) hHeld ?_
    · intro w' hSw
      try dsimp only at hSw
      go_simp
    simp only [List.getElem_toArray, List.getElem_cons_succ, List.getElem_cons_zero, Act.put, List.setIfInBounds_toArray, List.set_cons_zero, List.set_cons_succ]
    refine wpAnyH_take (i := 11) (v := .bool false) rfl (by kernel_rfl) (by kernel_rfl) (by kernel_rfl) (fun _ _ _ h => h) (Or.inl ⟨by rfl, ?_⟩) hHeld ?_
    · intro w' hSw
      try dsimp only at hSw
      go_simp
    simp only [List.getElem_toArray, List.getElem_cons_succ, List.getElem_cons_zero, Act.put, List.setIfInBounds_toArray, List.set_cons_zero, List.set_cons_succ]
    refine wpAnyH_take (i := 12) (v := .bool false) rfl (by kernel_rfl) (by kernel_rfl) (by kernel_rfl) (fun _ _ _ h => h) (Or.inl ⟨by rfl, ?_⟩) hHeld ?_
    · intro w' hSw
      try dsimp only at hSw
      go_simp
    simp only [List.getElem_toArray, List.getElem_cons_succ, List.getElem_cons_zero, Act.put, List.setIfInBounds_toArray, List.set_cons_zero, List.set_cons_succ]
    refine wpAnyH_take (i := 13) (v := undef) rfl (by kernel_rfl) (by kernel_rfl) (by kernel_rfl) (fun _ _ _ h => h) (Or.inr ⟨by kernel_rfl, rfl⟩) hHeld ?_
    simp only [List.getElem_toArray, List.getElem_cons_succ, List.getElem_cons_zero, Act.put, List.setIfInBounds_toArray, List.set_cons_zero, List.set_cons_succ]
    refine wpAnyH_take (i := 14) (v := undef) rfl (by kernel_rfl) (by kernel_rfl) (by kernel_rfl) (fun _ _ _ h => h) (Or.inr ⟨by kernel_rfl, rfl⟩) hHeld ?_
    simp only [List.getElem_toArray, List.getElem_cons_succ, List.getElem_cons_zero, Act.put, List.setIfInBounds_toArray, List.set_cons_zero, List.set_cons_succ]
    refine wpAnyH_take (i := 15) (v := undef) rfl (by kernel_rfl) (by kernel_rfl) (by kernel_rfl) (fun _ _ _ h => h) (Or.inr ⟨by kernel_rfl, rfl⟩) hHeld ?_
    simp only [List.getElem_toArray, List.getElem_cons_succ, List.getElem_cons_zero, Act.put, List.setIfInBounds_toArray, List.set_cons_zero, List.set_cons_succ]
    refine wpAnyH_take (i := 16) (v := undef) rfl (by kernel_rfl) (by kernel_rfl) (by kernel_rfl) (fun _ _ _ h => h) (Or.inr ⟨by kernel_rfl, rfl⟩) hHeld ?_
    simp only [List.getElem_toArray, List.getElem_cons_succ, List.getElem_cons_zero, Act.put, List.setIfInBounds_toArray, List.set_cons_zero, List.set_cons_succ]
    refine wpAnyH_take (i := 17) (v := undef) rfl (by kernel_rfl) (by kernel_rfl) (by kernel_rfl) (fun _ _ _ h => h) (Or.inr ⟨by kernel_rfl, rfl⟩) hHeld ?_
    simp only [List.getElem_toArray, List.getElem_cons_succ, List.getElem_cons_zero, Act.put, List.setIfInBounds_toArray, List.set_cons_zero, List.set_cons_succ]
    refine wpAnyH_take (i := 18) (v := .bool false) rfl (by kernel_rfl) (by kernel_rfl) (by kernel_rfl) (fun _ _ _ h => h) (Or.inl ⟨by rfl, ?_⟩) hHeld ?_
    · intro w' hSw
      try dsimp only at hSw
      go_simp
    simp only [List.getElem_toArray, List.getElem_cons_succ, List.getElem_cons_zero, Act.put, List.setIfInBounds_toArray, List.set_cons_zero, List.set_cons_succ]
    refine wpAnyH_done (by kernel_rfl) ?_ _
    clear hHeld
    have HF := hide (show LFS w2 B kp kl km kw W H a n c p like g f va vc l ∧ Below w.heap.size w w2 from ⟨(unhide HS).below hq2, hq2⟩)
    clear hKS hq1 hb1 hq2 hb2 hdr ckp0 ckp1 ckp2 ckl0 ckl1 ckl2 ckl3 ckm0 ckm1
    go_wp2
    go_end0
    exact ⟨rfl, unhide HF⟩
end Go.Proofs.YtcicbafdacfbpaiDoor
