/- A document handed on: the statements' own. -/
import Derived.Test.YtkdckcengmkhhajDoorLyC
import Derived.Deep.RegionHeld
namespace Go.Proofs.YtkdckcengmkhhajDoor
open Go.RowKit

/-- Pixels that lie behind B, and not in that block. -/
structure PxD (w : World) (B : Nat) (g : Option Nat) (a : Option Addr) (n : Nat) (q : Nat → Px) : Prop where
  is : IsPx w a n q
  new : ∀ x, a = some x → B ≤ x.block
  ne : ∀ x, a = some x → 0 < n → some x.block ≠ g
theorem PxD.block {w w' : World} {B n : Nat} {g g' : Option Nat} {a : Option Addr} {q : Nat → Px} (h : PxD w B g a n q) (e : ∀ x, a = some x → 0 < n → w'.heap[x.block]? = w.heap[x.block]?) (hn : ∀ x, a = some x → 0 < n → some x.block ≠ g') : PxD w' B g' a n q :=
  ⟨isPx_block h.is e, h.new, hn⟩
def updA (f : Nat → Option Addr) (i : Nat) (v : Option Addr) : Nat → Option Addr := fun j => if j = i then v else f j
def updN (f : Nat → Nat) (i : Nat) (v : Nat) : Nat → Nat := fun j => if j = i then v else f j
theorem updA_at (f : Nat → Option Addr) (i : Nat) (v : Option Addr) : updA f i v i = v := by simp [updA]
theorem updN_at (f : Nat → Nat) (i v : Nat) : updN f i v i = v := by simp [updN]
theorem updA_ne (f : Nat → Option Addr) (i j : Nat) (v : Option Addr) (h : j ≠ i) : updA f i v j = f j := by simp [updA, h]
theorem updN_ne (f : Nat → Nat) (i j v : Nat) (h : j ≠ i) : updN f i v j = f j := by simp [updN, h]
theorem lyVals_upd (L : Nat → Ly) (f : Nat → Option Addr) (g : Nat → Nat) (i : Nat) (ax : Option Addr) (cx : Nat) : lyVals L (updA f i ax) (updN g i cx) (i + 1) = lyVals L f g i ++ (L i).cells ax cx := by
  show lyVals L (updA f i ax) (updN g i cx) i ++ _ = _
  rw [lyVals_congr (M := L) (b := f) (d := g) i (fun j hj => ⟨rfl, updA_ne f i j ax (by omega), updN_ne g i j cx (by omega)⟩), updA_at, updN_at]
theorem ly_info : (Tryd.prog.info? 54).map (fun i => (i.zero, i.size, i.bytes)) = some (some (.agg #[.string ⟨#[]⟩, .int .i64 0, .int .i64 0, .bool false, .int .i64 0, .int .i64 0, .int .i64 0, .int .i64 0, .slice none 0 0]), 9, 96) := by kernel_rfl
theorem setB (w : World) (k j b : Nat) (u : Value) (h : b ≠ k) : (w.setCell ⟨k, j, none⟩ u).heap[b]? = w.heap[b]? := by
  simp [World.setCell, Array.getElem?_modify, Ne.symm h]
theorem own_cap {w : World} {base n cap size : Nat} {e : TypeId} {s : Option Addr} {xs : List Value} (h : w.ownsRow base e size (.slice s n cap) n xs) : n ≤ cap := by
  rcases h.2 with ⟨e, q⟩ | ⟨g, cap', cur, hv, _, _, hc, _⟩
  · injection e with _ _ e; omega
  · injection hv with _ _ hv; omega

set_option maxHeartbeats 8000000 in
set_option maxRecDepth 100000 in
theorem docOfR_any (W H : Int) (s : Option Addr) (n c : Nat) (L : Nat → Ly) (a : Nat → Option Addr) (cp : Nat → Nat) (w : World) (hL : IsLy w s n L a cp) (hn : n ≤ 12) (hZ : ∀ i, i < n → (L i).n ≤ 4000) :
    Calls Tryd.prog 11 #[.agg #[.int .i64 W, .int .i64 H, .slice s n c]] w fun e w' => ∃ s2 c2 a2 cp2, e = .returned (.agg #[.int .i64 W, .int .i64 H, .slice s2 n c2]) ∧ w'.ownsRow w.heap.size 54 9 (.slice s2 n c2) n (lyVals L a2 cp2 n) ∧ (∀ j, j < n → PxD w' w.heap.size (Value.slice s2 n c2).ownBlock (a2 j) (L j).n (L j).q) ∧ Below w.heap.size w w' := by
  obtain ⟨i0, hi, hz0, hz1, hz2⟩ := info_parts ly_info
  have Hi := hide hi
  have Hz0 := hide hz0
  have Hz1 := hide hz1
  have Hz2 := hide hz2
  clear hi hz0 hz1 hz2
  have HLy := hide (fun i wr (hi : i < n) (hb : Below w.heap.size w wr) => layerOf_any (L i) (a i) (cp i) wr ((hL.below hb).px i hi) (by have := hZ i hi; omega))
  have HL := hide (fun wr (hb : Below w.heap.size w wr) => hL.below hb)
  have HLT := hide (fun x (e : s = some x) (h0 : 0 < n) => ((hL.row.resolve_left (by omega)).elim fun b hb => hb.elim fun off hb => by obtain ⟨e', _, hc⟩ := hb; rw [e] at e'; injection e' with e'; subst e'; exact (hc 0 h0).lt : x.block < w.heap.size))
  have hHA := hide (al3 w (.cells #[.int .i64 W, .int .i64 H, .slice s n c] 24) (.cells #[.int .i64 0, .int .i64 0, .slice none 0 0] 39) (.cells #[.int .i64 W, .int .i64 H, .slice none 0 0] 39))
  obtain ⟨B, hB⟩ : ∃ B, B = w.heap.size := ⟨_, rfl⟩
  clear hL hZ
  go_enter Tryd.func11, Tryd.ntmps11
  go_wp2
  generalize ((w.alloc (.cells #[.int .i64 W, .int .i64 H, .slice s n c] 24)).alloc (.cells #[.int .i64 0, .int .i64 0, .slice none 0 0] 39)).alloc (.cells #[.int .i64 W, .int .i64 H, .slice none 0 0] 39) = w1 at *
  rw [← hB] at HLy HL HLT hHA ⊢
  obtain ⟨hs1, k0, k1, k2, hb1⟩ := unhide hHA
  have HB := hide hb1
  have HBE := hide hB
  clear hHA hb1 hB
  go_loopw [4] (fun iv wr => ∃ (i : Nat) (sa : Option Addr) (ca : Nat) (a2 : Nat → Option Addr) (c2 : Nat → Nat), i ≤ n ∧ iv = .int .i64 (i : Int) ∧ Hid (Below B w wr) ∧ Hid (wr.ownsRow (B + 3) 54 9 (.slice sa i ca) i (lyVals L a2 c2 i)) ∧ Hid (∀ j, j < i → PxD wr (B + 3) (Value.slice sa i ca).ownBlock (a2 j) (L j).n (L j).q) ∧ wr.heap[B]? = some (.cells #[.int .i64 W, .int .i64 H, .slice s n c] 24) ∧ wr.heap[B + 1]? = some (.cells #[.int .i64 0, .int .i64 0, .slice none 0 0] 39) ∧ wr.heap[B + 2]? = some (.cells #[.int .i64 W, .int .i64 H, .slice sa i ca] 39)) (fun iv _ => n - (intOf iv).toNat)
  case atStart => exact ⟨0, none, 0, a, cp, by omega, rfl, HB, ⟨rfl, .inl ⟨rfl, rfl⟩⟩, fun j hj => by omega, k0, k1, k2⟩
  case round =>
    clear HB k0 k1 k2 hs1
    obtain ⟨i, sa, ca, a2, c2', hi, rfl, HB, HO, HX, k0, k1, k2⟩ := hrel
    have hl2 : B + 2 < wr.heap.size := blk_lt k2
    have hl0 : B < wr.heap.size := by omega
    have c2 : wr.cell? ⟨B, 2, none⟩ = some (.slice s n c) := blk_cell k0 2
    have o2 : wr.cell? ⟨B + 2, 2, none⟩ = some (.slice sa i ca) := blk_cell k2 2
    by_cases hlt : i < n
    · have g1 : decide ((i : Int) < (n : Int)) = true := decide_eq_true (by omega)
      have g1n : decide (i < n) = true := decide_eq_true hlt
      obtain ⟨b, off, rfl, hm, hc⟩ := (unhide HL _ (unhide HB)).row.resolve_left (by omega)
      obtain ⟨l0, l1, l2, l3, l4, l5, l6, l7, l8⟩ := hc i hlt
      have hlb := (hc i hlt).lt
      have hbB : b < B := unhide HLT _ rfl (by omega)
      have ha1 : (i : Int) < (n : Int) := by omega
      have HLi := hide (fun wr hb => unhide HLy i wr hlt hb)
      have HUP := hide (lyVals_upd L a2 c2' i)
      clear hc hm HLy
      unfold Ly.val at HLi
      generalize a i = ai at *
      generalize cp i = ci at *
      obtain ⟨l, hl⟩ : ∃ l, l = L i := ⟨_, rfl⟩
      rw [← hl] at l0 l1 l2 l3 l4 l5 l6 l7 l8 HLi HUP
      have HLE := hide hl
      clear hl
      have hdr := (Below.refl wr.heap.size wr).drew
      have KS := hide (fun (w' : World) (h : Below wr.heap.size wr w') => (⟨(h.cell (p := ⟨B, 2, none⟩) hl0).trans c2, (h.cell (p := ⟨b, off + i * 9, none⟩) hlb).trans l0, (h.cell (p := ⟨b, off + i * 9 + 1, none⟩) hlb).trans l1, (h.cell (p := ⟨b, off + i * 9 + 2, none⟩) hlb).trans l2, (h.cell (p := ⟨b, off + i * 9 + 3, none⟩) hlb).trans l3, (h.cell (p := ⟨b, off + i * 9 + 4, none⟩) hlb).trans l4, (h.cell (p := ⟨b, off + i * 9 + 5, none⟩) hlb).trans l5, (h.cell (p := ⟨b, off + i * 9 + 6, none⟩) hlb).trans l6, (h.cell (p := ⟨b, off + i * 9 + 7, none⟩) hlb).trans l7, (h.cell (p := ⟨b, off + i * 9 + 8, none⟩) hlb).trans l8⟩ : w'.cell? ⟨B, 2, none⟩ = some (.slice (some ⟨b, off, none⟩) n c) ∧ w'.cell? ⟨b, off + i * 9, none⟩ = some (.string l.name) ∧ w'.cell? ⟨b, off + i * 9 + 1, none⟩ = some (.int .i64 l.x) ∧ w'.cell? ⟨b, off + i * 9 + 2, none⟩ = some (.int .i64 l.y) ∧ w'.cell? ⟨b, off + i * 9 + 3, none⟩ = some (.bool l.hid) ∧ w'.cell? ⟨b, off + i * 9 + 4, none⟩ = some (.int .i64 l.op) ∧ w'.cell? ⟨b, off + i * 9 + 5, none⟩ = some (.int .i64 l.mo) ∧ w'.cell? ⟨b, off + i * 9 + 6, none⟩ = some (.int .i64 l.wd) ∧ w'.cell? ⟨b, off + i * 9 + 7, none⟩ = some (.int .i64 l.hg) ∧ w'.cell? ⟨b, off + i * 9 + 8, none⟩ = some (.slice ai l.n ci)))
      go_wp2_with fail
      refine wp_region_held_drew (S := fun w' => w'.cell? ⟨B, 2, none⟩ = some (.slice (some ⟨b, off, none⟩) n c) ∧ w'.cell? ⟨b, off + i * 9, none⟩ = some (.string l.name) ∧ w'.cell? ⟨b, off + i * 9 + 1, none⟩ = some (.int .i64 l.x) ∧ w'.cell? ⟨b, off + i * 9 + 2, none⟩ = some (.int .i64 l.y) ∧ w'.cell? ⟨b, off + i * 9 + 3, none⟩ = some (.bool l.hid) ∧ w'.cell? ⟨b, off + i * 9 + 4, none⟩ = some (.int .i64 l.op) ∧ w'.cell? ⟨b, off + i * 9 + 5, none⟩ = some (.int .i64 l.mo) ∧ w'.cell? ⟨b, off + i * 9 + 6, none⟩ = some (.int .i64 l.wd) ∧ w'.cell? ⟨b, off + i * 9 + 7, none⟩ = some (.int .i64 l.hg) ∧ w'.cell? ⟨b, off + i * 9 + 8, none⟩ = some (.slice ai l.n ci)) (by kernel_rfl) (unhide KS _ hdr) (fun hHeld => ?_)
      refine wpAnyH_take (i := 0) (v := .pointer (some ⟨B + 2, 2, none⟩)) rfl (by kernel_rfl) (by kernel_rfl) (by kernel_rfl) (fun _ _ _ h => h) (Or.inl ⟨by rfl, ?_⟩) hHeld ?_
      · intro w' hSw
        try dsimp only at hSw
        go_simp
      simp only [Act.put, List.setIfInBounds_toArray]
      refine wpAnyH_take (i := 2) (v := .pointer (some ⟨B, 2, none⟩)) rfl (by kernel_rfl) (by kernel_rfl) (by kernel_rfl) (fun _ _ _ h => h) (Or.inl ⟨by rfl, ?_⟩) hHeld ?_
      · intro w' hSw
        try dsimp only at hSw
        go_simp
      simp only [Act.put]
      refine wpAnyH_take (i := 3) (v := .slice (some ⟨b, off, none⟩) n c) rfl (by kernel_rfl) (by kernel_rfl) (by kernel_rfl) (fun _ _ _ h => h) (Or.inl ⟨by rfl, ?_⟩) hHeld ?_
      · intro w' hSw
        try dsimp only at hSw
        go_simp
      simp only [Act.put]
      refine wpAnyH_take (i := 4) (v := .int .i64 (i : Int)) rfl (by kernel_rfl) (by kernel_rfl) (by kernel_rfl) (fun _ _ _ h => h) (Or.inl ⟨by rfl, ?_⟩) hHeld ?_
      · intro w' hSw
        try dsimp only at hSw
        go_simp
      simp only [Act.put]
      refine wpAnyH_take (i := 5) (v := .pointer (some ⟨b, off + i * 9, none⟩)) rfl (by kernel_rfl) (by kernel_rfl) (by kernel_rfl) (fun _ _ _ h => h) (Or.inl ⟨by rfl, ?_⟩) hHeld ?_
      · intro w' hSw
        try dsimp only at hSw
        go_simp
      simp only [Act.put]
      refine wpAnyH_take (i := 6) (v := .agg #[.string l.name, .int .i64 l.x, .int .i64 l.y, .bool l.hid, .int .i64 l.op, .int .i64 l.mo, .int .i64 l.wd, .int .i64 l.hg, .slice ai l.n ci]) rfl (by kernel_rfl) (by kernel_rfl) (by kernel_rfl) (fun _ _ _ h => h) (Or.inl ⟨by rfl, ?_⟩) hHeld ?_
      · intro w' hSw
        try dsimp only at hSw
        go_simp
      simp only [Act.put]
      refine wpAnyH_ready (rs := [1, 7]) (by kernel_rfl) (by simp) ?_
      refine AllReadyH.cons rfl (fun K hK => ?_) (AllReadyH.cons rfl (fun K hK => ?_) AllReadyH.nil)
      · skip
        have o2x : wr.drew.cell? ⟨B + 2, 2, none⟩ = some (.slice sa i ca) := (hdr.cell (p := ⟨B + 2, 2, none⟩) hl2).trans o2
        go_simp
        refine hK.out _ _ (unhide KS _ hdr) (fun hHeld => ?_)
        clear hK K o2x
        try simp only [Act.put, List.setIfInBounds_toArray, List.set_cons_zero, List.set_cons_succ]
        refine wpAnyH_ready (rs := [7]) (by kernel_rfl) (by simp) ?_
        refine AllReadyH.cons rfl (fun K hK => ?_) AllReadyH.nil
        go_simp
        go_wp2_with (first | (go_at_call 38; refine (unhide HLi wr.drew ((unhide HB).trans (hdr.mono (by omega)))).mono ?_; rintro e w2 ⟨ax, cx, rfl, hpx, hb2⟩; have hq2 := hdr.trans (hb2.mono (by exact Nat.le_refl _))))
        refine hK.out _ _ (unhide KS _ hq2) (fun hHeld => ?_)
        clear hK K
        try simp only [Act.put, List.setIfInBounds_toArray, List.set_cons_zero, List.set_cons_succ]
        refine wpAnyH_ready (rs := [8]) (by kernel_rfl) (by simp) ?_
        refine AllReadyH.cons rfl (fun K hK => ?_) AllReadyH.nil
        go_simp
        have hA3 := al1 w2 (.cells #[.string l.name, .int .i64 l.x, .int .i64 l.y, .bool l.hid, .int .i64 l.op, .int .i64 l.mo, .int .i64 l.wd, .int .i64 l.hg, .slice ax l.n cx] 54)
        have hq3 := hq2.trans (hA3.below.mono hq2.size)
        refine hK.out _ _ (unhide KS _ hq3) (fun hHeld => ?_)
        clear hK K
        try simp only [Act.put, List.setIfInBounds_toArray, List.set_cons_zero, List.set_cons_succ]
        have hHA3 := hide hA3
        clear hA3
        have hO2 := (own_belowP (unhide HO) hq2).alloc (.cells #[.string l.name, .int .i64 l.x, .int .i64 l.y, .bool l.hid, .int .i64 l.op, .int .i64 l.mo, .int .i64 l.wd, .int .i64 l.hg, .slice ax l.n cx] 54)
        generalize w2.alloc (.cells #[.string l.name, .int .i64 l.x, .int .i64 l.y, .bool l.hid, .int .i64 l.op, .int .i64 l.mo, .int .i64 l.wd, .int .i64 l.hg, .slice ax l.n cx] 54) = w3 at *
        obtain ⟨hs3, kq, hb3⟩ := unhide hHA3
        have hsz2 := hq2.size
        refine wpAnyH_ready (rs := [9]) (by kernel_rfl) (by simp) ?_
        refine AllReadyH.cons rfl (fun K hK => ?_) AllReadyH.nil
        refine step_append_lies _ rfl (.tmp 18) (.tmp 25) 37 rfl (B + 3) 54 i0 (.agg #[.string ⟨#[]⟩, .int .i64 0, .int .i64 0, .bool false, .int .i64 0, .int .i64 0, .int .i64 0, .int .i64 0, .slice none 0 0]) 9 96 Tryd.underlying37 (unhide Hi) (unhide Hz0) (unhide Hz1) (unhide Hz2) rfl (by omega) (.slice sa i ca) i (lyVals L a2 c2' i) rfl hO2 ⟨w2.heap.size, 0, none⟩ 1 1 (l.cells ax cx) rfl rfl (ly_lies kq) (ly_one l ax cx) (by omega) (by unfold maxLen; omega) (by omega) (by omega) _ rfl ?_
        intro g cap2 w4 hown hgr hat hlt4
        have hne : ∀ k, (Value.slice sa i ca).ownBlock = some k → B + 3 ≤ k ∧ k < wr.heap.size := fun k e => (unhide HO).lt k e
        have HKB := hide (fun k (hk : k < wr.heap.size) (hn : some k ≠ (Value.slice sa i ca).ownBlock) => ((hgr.block k (by omega) hn).trans (hq3.block k hk) : w4.heap[k]? = wr.heap[k]?))
        have n2 : some (B + 2) ≠ (Value.slice sa i ca).ownBlock := fun e => by have := hne _ e.symm; omega
        have n1 : some (B + 1) ≠ (Value.slice sa i ca).ownBlock := fun e => by have := hne _ e.symm; omega
        have n0 : some B ≠ (Value.slice sa i ca).ownBlock := fun e => by have := hne _ e.symm; omega
        have nb : some b ≠ (Value.slice sa i ca).ownBlock := fun e => by have := hne _ e.symm; omega
        have kk0 := (unhide HKB B hl0 n0).trans k0
        have kk1 := (unhide HKB (B + 1) (by omega) n1).trans k1
        have kk2 := (unhide HKB (B + 2) hl2 n2).trans k2
        have hC : ∀ j u, wr.cell? ⟨b, j, none⟩ = some u → w4.cell? ⟨b, j, none⟩ = some u := fun j u e => (World.cell?_of_block (a := ⟨b, j, none⟩) (unhide HKB b hlb nb)).trans e
        refine hK.out _ _ ⟨blk_cell kk0 2, hC _ _ l0, hC _ _ l1, hC _ _ l2, hC _ _ l3, hC _ _ l4, hC _ _ l5, hC _ _ l6, hC _ _ l7, hC _ _ l8⟩ (fun hHeld => ?_)
        clear hK K
        try simp only [Act.put, List.setIfInBounds_toArray]
        refine wpAnyH_take (i := 10) (v := .pointer (some ⟨B + 2, 2, none⟩)) rfl (by kernel_rfl) (by kernel_rfl) (by kernel_rfl) (fun _ _ _ h => h) (Or.inl ⟨by rfl, ?_⟩) hHeld ?_
        · intro w' hSw
          try dsimp only at hSw
          go_simp
        simp only [Act.put]
        refine wpAnyH_ready (rs := [11]) (by kernel_rfl) (by simp) ?_
        refine AllReadyH.cons rfl (fun K hK => ?_) AllReadyH.nil
        have p2 : w4.cell? ⟨B + 2, 2, none⟩ = some (.slice sa i ca) := blk_cell kk2 2
        have pf := blk_frozen kk2 2
        have hl24 : B + 2 < w4.heap.size := blk_lt kk2
        go_simp
        refine hK.out _ _ ⟨(World.cell?_setCell_far _ _ _ _ (show B + 2 ≠ B by omega)).trans (blk_cell kk0 2), (World.cell?_setCell_far _ _ _ _ (show B + 2 ≠ b by omega)).trans (hC _ _ l0), (World.cell?_setCell_far _ _ _ _ (show B + 2 ≠ b by omega)).trans (hC _ _ l1), (World.cell?_setCell_far _ _ _ _ (show B + 2 ≠ b by omega)).trans (hC _ _ l2), (World.cell?_setCell_far _ _ _ _ (show B + 2 ≠ b by omega)).trans (hC _ _ l3), (World.cell?_setCell_far _ _ _ _ (show B + 2 ≠ b by omega)).trans (hC _ _ l4), (World.cell?_setCell_far _ _ _ _ (show B + 2 ≠ b by omega)).trans (hC _ _ l5), (World.cell?_setCell_far _ _ _ _ (show B + 2 ≠ b by omega)).trans (hC _ _ l6), (World.cell?_setCell_far _ _ _ _ (show B + 2 ≠ b by omega)).trans (hC _ _ l7), (World.cell?_setCell_far _ _ _ _ (show B + 2 ≠ b by omega)).trans (hC _ _ l8)⟩ (fun hHeld => ?_)
        clear hK K
        refine wpAnyH_done (by kernel_rfl) ?_ _
        have HB4 := hide (((unhide HB).trans (hq3.mono (by omega))).grown hgr (by omega) (fun k e => by have := hne k e; omega))
        have HB5 := hide ((unhide HB4).setCell (p := ⟨B + 2, 2, none⟩) (show B ≤ B + 2 by omega) (.slice (some ⟨g, 0, none⟩) (i + 1) cap2))
        have m0 := (setB w4 (B + 2) 2 B (.slice (some ⟨g, 0, none⟩) (i + 1) cap2) (by omega)).trans kk0
        have m1 := (setB w4 (B + 2) 2 (B + 1) (.slice (some ⟨g, 0, none⟩) (i + 1) cap2) (by omega)).trans kk1
        have m2 := set_cells (j := 2) kk2 (.slice (some ⟨g, 0, none⟩) (i + 1) cap2)
        simp only [List.setIfInBounds_toArray, List.set_cons_zero, List.set_cons_succ] at m2
        have HO5 : Hid ((w4.setCell ⟨B + 2, 2, none⟩ (.slice (some ⟨g, 0, none⟩) (i + 1) cap2)).ownsRow (B + 3) 54 9 (.slice (some ⟨g, 0, none⟩) (i + 1) cap2) (i + 1) (lyVals L (updA a2 i ax) (updN c2' i cx) (i + 1))) := by rw [unhide HUP]; exact own_farP (B := B + 2) (j := 2) hown
        have hg3 : B + 3 ≤ g := (hown.lt g rfl).1
        have HX5 : Hid (∀ j, j < i + 1 → PxD (w4.setCell ⟨B + 2, 2, none⟩ (.slice (some ⟨g, 0, none⟩) (i + 1) cap2)) (B + 3) (Value.slice (some ⟨g, 0, none⟩) (i + 1) cap2).ownBlock (updA a2 i ax j) (L j).n (L j).q) := by
          intro j hj
          rcases Nat.lt_succ_iff_lt_or_eq.1 hj with q | rfl
          · rw [updA_ne a2 i j ax (by omega)]
            have hx := unhide HX j q
            have hlx : ∀ x, a2 j = some x → 0 < (L j).n → x.block < wr.heap.size := fun x e h0 => hx.is.lt x e h0
            refine hx.block (fun x e h0 => ?_) (fun x e h0 => ?_)
            · rw [setB _ _ _ _ _ (by have := hx.new x e; omega)]
              exact unhide HKB _ (hlx x e h0) (hx.ne x e h0)
            · have h1 := hx.ne x e h0
              have h2 := hlx x e h0
              intro q2
              injection q2 with q2
              rcases hat with q3 | q3
              · have q4 : x.block = g := q2
                exact h1 (by rw [q4]; exact q3.symm)
              · have q4 : x.block = g := q2
                omega
          · rw [updA_at, ← unhide HLE]
            have hnw : ∀ x, ax = some x → wr.heap.size ≤ x.block := fun x e => hpx.new x e
            have hl2x : ∀ x, ax = some x → 0 < l.n → x.block < w2.heap.size := fun x e h0 => hpx.is.lt x e h0
            have hnx : ∀ x, ax = some x → some x.block ≠ (Value.slice sa j ca).ownBlock := fun x e q => by have h1 := hnw x e; have h2 := hne _ q.symm; omega
            refine ⟨isPx_block hpx.is (fun x e h0 => ?_), fun x e => by have := hnw x e; omega, fun x e h0 q2 => ?_⟩
            · rw [setB _ _ _ _ _ (by have := hnw x e; omega)]
              exact (hgr.block x.block (by have := hl2x x e h0; omega) (hnx x e)).trans (hb3.block x.block (hl2x x e h0))
            · have h1 := hnw x e
              have h2 := hl2x x e h0
              injection q2 with q2
              have q4 : x.block = g := q2
              rcases hat with q3 | q3
              · have := hne _ q3; omega
              · omega
        generalize w4.setCell ⟨B + 2, 2, none⟩ (.slice (some ⟨g, 0, none⟩) (i + 1) cap2) = w5 at *
        clear HX HB HO hown hgr hat hC hne HKB hpx hO2 hq2 hq3 hb2 hb3 HB4 kk0 kk1 kk2 HLi HL KS k0 k1 k2 kq o2 c2 l0 l1 l2 l3 l4 l5 l6 l7 l8 hdr p2 pf
        go_wp2
        go_roundw
        case rel => exact ⟨i + 1, some ⟨g, 0, none⟩, cap2, updA a2 i ax, updN c2' i cx, by omega, by go_num, HB5, HO5, HX5, m0, m1, m2⟩
        case measure => simp [intOf]; omega
      · skip
        go_simp
        go_wp2_with (first | (go_at_call 38; refine (unhide HLi wr.drew ((unhide HB).trans (hdr.mono (by omega)))).mono ?_; rintro e w2 ⟨ax, cx, rfl, hpx, hb2⟩; have hq2 := hdr.trans (hb2.mono (by exact Nat.le_refl _))))
        refine hK.out _ _ (unhide KS _ hq2) (fun hHeld => ?_)
        clear hK K
        try simp only [Act.put, List.setIfInBounds_toArray, List.set_cons_zero, List.set_cons_succ]
        refine wpAnyH_ready (rs := [1, 8]) (by kernel_rfl) (by simp) ?_
        refine AllReadyH.cons rfl (fun K hK => ?_) (AllReadyH.cons rfl (fun K hK => ?_) AllReadyH.nil)
        · skip
          have o2x : w2.cell? ⟨B + 2, 2, none⟩ = some (.slice sa i ca) := (hq2.cell (p := ⟨B + 2, 2, none⟩) hl2).trans o2
          go_simp
          refine hK.out _ _ (unhide KS _ hq2) (fun hHeld => ?_)
          clear hK K o2x
          try simp only [Act.put, List.setIfInBounds_toArray, List.set_cons_zero, List.set_cons_succ]
          refine wpAnyH_ready (rs := [8]) (by kernel_rfl) (by simp) ?_
          refine AllReadyH.cons rfl (fun K hK => ?_) AllReadyH.nil
          go_simp
          have hA3 := al1 w2 (.cells #[.string l.name, .int .i64 l.x, .int .i64 l.y, .bool l.hid, .int .i64 l.op, .int .i64 l.mo, .int .i64 l.wd, .int .i64 l.hg, .slice ax l.n cx] 54)
          have hq3 := hq2.trans (hA3.below.mono hq2.size)
          refine hK.out _ _ (unhide KS _ hq3) (fun hHeld => ?_)
          clear hK K
          try simp only [Act.put, List.setIfInBounds_toArray, List.set_cons_zero, List.set_cons_succ]
          have hHA3 := hide hA3
          clear hA3
          have hO2 := (own_belowP (unhide HO) hq2).alloc (.cells #[.string l.name, .int .i64 l.x, .int .i64 l.y, .bool l.hid, .int .i64 l.op, .int .i64 l.mo, .int .i64 l.wd, .int .i64 l.hg, .slice ax l.n cx] 54)
          generalize w2.alloc (.cells #[.string l.name, .int .i64 l.x, .int .i64 l.y, .bool l.hid, .int .i64 l.op, .int .i64 l.mo, .int .i64 l.wd, .int .i64 l.hg, .slice ax l.n cx] 54) = w3 at *
          obtain ⟨hs3, kq, hb3⟩ := unhide hHA3
          have hsz2 := hq2.size
          refine wpAnyH_ready (rs := [9]) (by kernel_rfl) (by simp) ?_
          refine AllReadyH.cons rfl (fun K hK => ?_) AllReadyH.nil
          refine step_append_lies _ rfl (.tmp 18) (.tmp 25) 37 rfl (B + 3) 54 i0 (.agg #[.string ⟨#[]⟩, .int .i64 0, .int .i64 0, .bool false, .int .i64 0, .int .i64 0, .int .i64 0, .int .i64 0, .slice none 0 0]) 9 96 Tryd.underlying37 (unhide Hi) (unhide Hz0) (unhide Hz1) (unhide Hz2) rfl (by omega) (.slice sa i ca) i (lyVals L a2 c2' i) rfl hO2 ⟨w2.heap.size, 0, none⟩ 1 1 (l.cells ax cx) rfl rfl (ly_lies kq) (ly_one l ax cx) (by omega) (by unfold maxLen; omega) (by omega) (by omega) _ rfl ?_
          intro g cap2 w4 hown hgr hat hlt4
          have hne : ∀ k, (Value.slice sa i ca).ownBlock = some k → B + 3 ≤ k ∧ k < wr.heap.size := fun k e => (unhide HO).lt k e
          have HKB := hide (fun k (hk : k < wr.heap.size) (hn : some k ≠ (Value.slice sa i ca).ownBlock) => ((hgr.block k (by omega) hn).trans (hq3.block k hk) : w4.heap[k]? = wr.heap[k]?))
          have n2 : some (B + 2) ≠ (Value.slice sa i ca).ownBlock := fun e => by have := hne _ e.symm; omega
          have n1 : some (B + 1) ≠ (Value.slice sa i ca).ownBlock := fun e => by have := hne _ e.symm; omega
          have n0 : some B ≠ (Value.slice sa i ca).ownBlock := fun e => by have := hne _ e.symm; omega
          have nb : some b ≠ (Value.slice sa i ca).ownBlock := fun e => by have := hne _ e.symm; omega
          have kk0 := (unhide HKB B hl0 n0).trans k0
          have kk1 := (unhide HKB (B + 1) (by omega) n1).trans k1
          have kk2 := (unhide HKB (B + 2) hl2 n2).trans k2
          have hC : ∀ j u, wr.cell? ⟨b, j, none⟩ = some u → w4.cell? ⟨b, j, none⟩ = some u := fun j u e => (World.cell?_of_block (a := ⟨b, j, none⟩) (unhide HKB b hlb nb)).trans e
          refine hK.out _ _ ⟨blk_cell kk0 2, hC _ _ l0, hC _ _ l1, hC _ _ l2, hC _ _ l3, hC _ _ l4, hC _ _ l5, hC _ _ l6, hC _ _ l7, hC _ _ l8⟩ (fun hHeld => ?_)
          clear hK K
          try simp only [Act.put, List.setIfInBounds_toArray]
          refine wpAnyH_take (i := 10) (v := .pointer (some ⟨B + 2, 2, none⟩)) rfl (by kernel_rfl) (by kernel_rfl) (by kernel_rfl) (fun _ _ _ h => h) (Or.inl ⟨by rfl, ?_⟩) hHeld ?_
          · intro w' hSw
            try dsimp only at hSw
            go_simp
          simp only [Act.put]
          refine wpAnyH_ready (rs := [11]) (by kernel_rfl) (by simp) ?_
          refine AllReadyH.cons rfl (fun K hK => ?_) AllReadyH.nil
          have p2 : w4.cell? ⟨B + 2, 2, none⟩ = some (.slice sa i ca) := blk_cell kk2 2
          have pf := blk_frozen kk2 2
          have hl24 : B + 2 < w4.heap.size := blk_lt kk2
          go_simp
          refine hK.out _ _ ⟨(World.cell?_setCell_far _ _ _ _ (show B + 2 ≠ B by omega)).trans (blk_cell kk0 2), (World.cell?_setCell_far _ _ _ _ (show B + 2 ≠ b by omega)).trans (hC _ _ l0), (World.cell?_setCell_far _ _ _ _ (show B + 2 ≠ b by omega)).trans (hC _ _ l1), (World.cell?_setCell_far _ _ _ _ (show B + 2 ≠ b by omega)).trans (hC _ _ l2), (World.cell?_setCell_far _ _ _ _ (show B + 2 ≠ b by omega)).trans (hC _ _ l3), (World.cell?_setCell_far _ _ _ _ (show B + 2 ≠ b by omega)).trans (hC _ _ l4), (World.cell?_setCell_far _ _ _ _ (show B + 2 ≠ b by omega)).trans (hC _ _ l5), (World.cell?_setCell_far _ _ _ _ (show B + 2 ≠ b by omega)).trans (hC _ _ l6), (World.cell?_setCell_far _ _ _ _ (show B + 2 ≠ b by omega)).trans (hC _ _ l7), (World.cell?_setCell_far _ _ _ _ (show B + 2 ≠ b by omega)).trans (hC _ _ l8)⟩ (fun hHeld => ?_)
          clear hK K
          refine wpAnyH_done (by kernel_rfl) ?_ _
          have HB4 := hide (((unhide HB).trans (hq3.mono (by omega))).grown hgr (by omega) (fun k e => by have := hne k e; omega))
          have HB5 := hide ((unhide HB4).setCell (p := ⟨B + 2, 2, none⟩) (show B ≤ B + 2 by omega) (.slice (some ⟨g, 0, none⟩) (i + 1) cap2))
          have m0 := (setB w4 (B + 2) 2 B (.slice (some ⟨g, 0, none⟩) (i + 1) cap2) (by omega)).trans kk0
          have m1 := (setB w4 (B + 2) 2 (B + 1) (.slice (some ⟨g, 0, none⟩) (i + 1) cap2) (by omega)).trans kk1
          have m2 := set_cells (j := 2) kk2 (.slice (some ⟨g, 0, none⟩) (i + 1) cap2)
          simp only [List.setIfInBounds_toArray, List.set_cons_zero, List.set_cons_succ] at m2
          have HO5 : Hid ((w4.setCell ⟨B + 2, 2, none⟩ (.slice (some ⟨g, 0, none⟩) (i + 1) cap2)).ownsRow (B + 3) 54 9 (.slice (some ⟨g, 0, none⟩) (i + 1) cap2) (i + 1) (lyVals L (updA a2 i ax) (updN c2' i cx) (i + 1))) := by rw [unhide HUP]; exact own_farP (B := B + 2) (j := 2) hown
          have hg3 : B + 3 ≤ g := (hown.lt g rfl).1
          have HX5 : Hid (∀ j, j < i + 1 → PxD (w4.setCell ⟨B + 2, 2, none⟩ (.slice (some ⟨g, 0, none⟩) (i + 1) cap2)) (B + 3) (Value.slice (some ⟨g, 0, none⟩) (i + 1) cap2).ownBlock (updA a2 i ax j) (L j).n (L j).q) := by
            intro j hj
            rcases Nat.lt_succ_iff_lt_or_eq.1 hj with q | rfl
            · rw [updA_ne a2 i j ax (by omega)]
              have hx := unhide HX j q
              have hlx : ∀ x, a2 j = some x → 0 < (L j).n → x.block < wr.heap.size := fun x e h0 => hx.is.lt x e h0
              refine hx.block (fun x e h0 => ?_) (fun x e h0 => ?_)
              · rw [setB _ _ _ _ _ (by have := hx.new x e; omega)]
                exact unhide HKB _ (hlx x e h0) (hx.ne x e h0)
              · have h1 := hx.ne x e h0
                have h2 := hlx x e h0
                intro q2
                injection q2 with q2
                rcases hat with q3 | q3
                · have q4 : x.block = g := q2
                  exact h1 (by rw [q4]; exact q3.symm)
                · have q4 : x.block = g := q2
                  omega
            · rw [updA_at, ← unhide HLE]
              have hnw : ∀ x, ax = some x → wr.heap.size ≤ x.block := fun x e => hpx.new x e
              have hl2x : ∀ x, ax = some x → 0 < l.n → x.block < w2.heap.size := fun x e h0 => hpx.is.lt x e h0
              have hnx : ∀ x, ax = some x → some x.block ≠ (Value.slice sa j ca).ownBlock := fun x e q => by have h1 := hnw x e; have h2 := hne _ q.symm; omega
              refine ⟨isPx_block hpx.is (fun x e h0 => ?_), fun x e => by have := hnw x e; omega, fun x e h0 q2 => ?_⟩
              · rw [setB _ _ _ _ _ (by have := hnw x e; omega)]
                exact (hgr.block x.block (by have := hl2x x e h0; omega) (hnx x e)).trans (hb3.block x.block (hl2x x e h0))
              · have h1 := hnw x e
                have h2 := hl2x x e h0
                injection q2 with q2
                have q4 : x.block = g := q2
                rcases hat with q3 | q3
                · have := hne _ q3; omega
                · omega
          generalize w4.setCell ⟨B + 2, 2, none⟩ (.slice (some ⟨g, 0, none⟩) (i + 1) cap2) = w5 at *
          clear HX HB HO hown hgr hat hC hne HKB hpx hO2 hq2 hq3 hb2 hb3 HB4 kk0 kk1 kk2 HLi HL KS k0 k1 k2 kq o2 c2 l0 l1 l2 l3 l4 l5 l6 l7 l8 hdr p2 pf
          go_wp2
          go_roundw
          case rel => exact ⟨i + 1, some ⟨g, 0, none⟩, cap2, updA a2 i ax, updN c2' i cx, by omega, by go_num, HB5, HO5, HX5, m0, m1, m2⟩
          case measure => simp [intOf]; omega
        · skip
          go_simp
          have hA3 := al1 w2 (.cells #[.string l.name, .int .i64 l.x, .int .i64 l.y, .bool l.hid, .int .i64 l.op, .int .i64 l.mo, .int .i64 l.wd, .int .i64 l.hg, .slice ax l.n cx] 54)
          have hq3 := hq2.trans (hA3.below.mono hq2.size)
          refine hK.out _ _ (unhide KS _ hq3) (fun hHeld => ?_)
          clear hK K
          try simp only [Act.put, List.setIfInBounds_toArray, List.set_cons_zero, List.set_cons_succ]
          have hHA3 := hide hA3
          clear hA3
          have hO2 := (own_belowP (unhide HO) hq2).alloc (.cells #[.string l.name, .int .i64 l.x, .int .i64 l.y, .bool l.hid, .int .i64 l.op, .int .i64 l.mo, .int .i64 l.wd, .int .i64 l.hg, .slice ax l.n cx] 54)
          generalize w2.alloc (.cells #[.string l.name, .int .i64 l.x, .int .i64 l.y, .bool l.hid, .int .i64 l.op, .int .i64 l.mo, .int .i64 l.wd, .int .i64 l.hg, .slice ax l.n cx] 54) = w3 at *
          obtain ⟨hs3, kq, hb3⟩ := unhide hHA3
          have hsz2 := hq2.size
          refine wpAnyH_ready (rs := [1]) (by kernel_rfl) (by simp) ?_
          refine AllReadyH.cons rfl (fun K hK => ?_) AllReadyH.nil
          have o2x : w3.cell? ⟨B + 2, 2, none⟩ = some (.slice sa i ca) := (hq3.cell (p := ⟨B + 2, 2, none⟩) hl2).trans o2
          go_simp
          refine hK.out _ _ (unhide KS _ hq3) (fun hHeld => ?_)
          clear hK K o2x
          try simp only [Act.put, List.setIfInBounds_toArray, List.set_cons_zero, List.set_cons_succ]
          refine wpAnyH_ready (rs := [9]) (by kernel_rfl) (by simp) ?_
          refine AllReadyH.cons rfl (fun K hK => ?_) AllReadyH.nil
          refine step_append_lies _ rfl (.tmp 18) (.tmp 25) 37 rfl (B + 3) 54 i0 (.agg #[.string ⟨#[]⟩, .int .i64 0, .int .i64 0, .bool false, .int .i64 0, .int .i64 0, .int .i64 0, .int .i64 0, .slice none 0 0]) 9 96 Tryd.underlying37 (unhide Hi) (unhide Hz0) (unhide Hz1) (unhide Hz2) rfl (by omega) (.slice sa i ca) i (lyVals L a2 c2' i) rfl hO2 ⟨w2.heap.size, 0, none⟩ 1 1 (l.cells ax cx) rfl rfl (ly_lies kq) (ly_one l ax cx) (by omega) (by unfold maxLen; omega) (by omega) (by omega) _ rfl ?_
          intro g cap2 w4 hown hgr hat hlt4
          have hne : ∀ k, (Value.slice sa i ca).ownBlock = some k → B + 3 ≤ k ∧ k < wr.heap.size := fun k e => (unhide HO).lt k e
          have HKB := hide (fun k (hk : k < wr.heap.size) (hn : some k ≠ (Value.slice sa i ca).ownBlock) => ((hgr.block k (by omega) hn).trans (hq3.block k hk) : w4.heap[k]? = wr.heap[k]?))
          have n2 : some (B + 2) ≠ (Value.slice sa i ca).ownBlock := fun e => by have := hne _ e.symm; omega
          have n1 : some (B + 1) ≠ (Value.slice sa i ca).ownBlock := fun e => by have := hne _ e.symm; omega
          have n0 : some B ≠ (Value.slice sa i ca).ownBlock := fun e => by have := hne _ e.symm; omega
          have nb : some b ≠ (Value.slice sa i ca).ownBlock := fun e => by have := hne _ e.symm; omega
          have kk0 := (unhide HKB B hl0 n0).trans k0
          have kk1 := (unhide HKB (B + 1) (by omega) n1).trans k1
          have kk2 := (unhide HKB (B + 2) hl2 n2).trans k2
          have hC : ∀ j u, wr.cell? ⟨b, j, none⟩ = some u → w4.cell? ⟨b, j, none⟩ = some u := fun j u e => (World.cell?_of_block (a := ⟨b, j, none⟩) (unhide HKB b hlb nb)).trans e
          refine hK.out _ _ ⟨blk_cell kk0 2, hC _ _ l0, hC _ _ l1, hC _ _ l2, hC _ _ l3, hC _ _ l4, hC _ _ l5, hC _ _ l6, hC _ _ l7, hC _ _ l8⟩ (fun hHeld => ?_)
          clear hK K
          try simp only [Act.put, List.setIfInBounds_toArray]
          refine wpAnyH_take (i := 10) (v := .pointer (some ⟨B + 2, 2, none⟩)) rfl (by kernel_rfl) (by kernel_rfl) (by kernel_rfl) (fun _ _ _ h => h) (Or.inl ⟨by rfl, ?_⟩) hHeld ?_
          · intro w' hSw
            try dsimp only at hSw
            go_simp
          simp only [Act.put]
          refine wpAnyH_ready (rs := [11]) (by kernel_rfl) (by simp) ?_
          refine AllReadyH.cons rfl (fun K hK => ?_) AllReadyH.nil
          have p2 : w4.cell? ⟨B + 2, 2, none⟩ = some (.slice sa i ca) := blk_cell kk2 2
          have pf := blk_frozen kk2 2
          have hl24 : B + 2 < w4.heap.size := blk_lt kk2
          go_simp
          refine hK.out _ _ ⟨(World.cell?_setCell_far _ _ _ _ (show B + 2 ≠ B by omega)).trans (blk_cell kk0 2), (World.cell?_setCell_far _ _ _ _ (show B + 2 ≠ b by omega)).trans (hC _ _ l0), (World.cell?_setCell_far _ _ _ _ (show B + 2 ≠ b by omega)).trans (hC _ _ l1), (World.cell?_setCell_far _ _ _ _ (show B + 2 ≠ b by omega)).trans (hC _ _ l2), (World.cell?_setCell_far _ _ _ _ (show B + 2 ≠ b by omega)).trans (hC _ _ l3), (World.cell?_setCell_far _ _ _ _ (show B + 2 ≠ b by omega)).trans (hC _ _ l4), (World.cell?_setCell_far _ _ _ _ (show B + 2 ≠ b by omega)).trans (hC _ _ l5), (World.cell?_setCell_far _ _ _ _ (show B + 2 ≠ b by omega)).trans (hC _ _ l6), (World.cell?_setCell_far _ _ _ _ (show B + 2 ≠ b by omega)).trans (hC _ _ l7), (World.cell?_setCell_far _ _ _ _ (show B + 2 ≠ b by omega)).trans (hC _ _ l8)⟩ (fun hHeld => ?_)
          clear hK K
          refine wpAnyH_done (by kernel_rfl) ?_ _
          have HB4 := hide (((unhide HB).trans (hq3.mono (by omega))).grown hgr (by omega) (fun k e => by have := hne k e; omega))
          have HB5 := hide ((unhide HB4).setCell (p := ⟨B + 2, 2, none⟩) (show B ≤ B + 2 by omega) (.slice (some ⟨g, 0, none⟩) (i + 1) cap2))
          have m0 := (setB w4 (B + 2) 2 B (.slice (some ⟨g, 0, none⟩) (i + 1) cap2) (by omega)).trans kk0
          have m1 := (setB w4 (B + 2) 2 (B + 1) (.slice (some ⟨g, 0, none⟩) (i + 1) cap2) (by omega)).trans kk1
          have m2 := set_cells (j := 2) kk2 (.slice (some ⟨g, 0, none⟩) (i + 1) cap2)
          simp only [List.setIfInBounds_toArray, List.set_cons_zero, List.set_cons_succ] at m2
          have HO5 : Hid ((w4.setCell ⟨B + 2, 2, none⟩ (.slice (some ⟨g, 0, none⟩) (i + 1) cap2)).ownsRow (B + 3) 54 9 (.slice (some ⟨g, 0, none⟩) (i + 1) cap2) (i + 1) (lyVals L (updA a2 i ax) (updN c2' i cx) (i + 1))) := by rw [unhide HUP]; exact own_farP (B := B + 2) (j := 2) hown
          have hg3 : B + 3 ≤ g := (hown.lt g rfl).1
          have HX5 : Hid (∀ j, j < i + 1 → PxD (w4.setCell ⟨B + 2, 2, none⟩ (.slice (some ⟨g, 0, none⟩) (i + 1) cap2)) (B + 3) (Value.slice (some ⟨g, 0, none⟩) (i + 1) cap2).ownBlock (updA a2 i ax j) (L j).n (L j).q) := by
            intro j hj
            rcases Nat.lt_succ_iff_lt_or_eq.1 hj with q | rfl
            · rw [updA_ne a2 i j ax (by omega)]
              have hx := unhide HX j q
              have hlx : ∀ x, a2 j = some x → 0 < (L j).n → x.block < wr.heap.size := fun x e h0 => hx.is.lt x e h0
              refine hx.block (fun x e h0 => ?_) (fun x e h0 => ?_)
              · rw [setB _ _ _ _ _ (by have := hx.new x e; omega)]
                exact unhide HKB _ (hlx x e h0) (hx.ne x e h0)
              · have h1 := hx.ne x e h0
                have h2 := hlx x e h0
                intro q2
                injection q2 with q2
                rcases hat with q3 | q3
                · have q4 : x.block = g := q2
                  exact h1 (by rw [q4]; exact q3.symm)
                · have q4 : x.block = g := q2
                  omega
            · rw [updA_at, ← unhide HLE]
              have hnw : ∀ x, ax = some x → wr.heap.size ≤ x.block := fun x e => hpx.new x e
              have hl2x : ∀ x, ax = some x → 0 < l.n → x.block < w2.heap.size := fun x e h0 => hpx.is.lt x e h0
              have hnx : ∀ x, ax = some x → some x.block ≠ (Value.slice sa j ca).ownBlock := fun x e q => by have h1 := hnw x e; have h2 := hne _ q.symm; omega
              refine ⟨isPx_block hpx.is (fun x e h0 => ?_), fun x e => by have := hnw x e; omega, fun x e h0 q2 => ?_⟩
              · rw [setB _ _ _ _ _ (by have := hnw x e; omega)]
                exact (hgr.block x.block (by have := hl2x x e h0; omega) (hnx x e)).trans (hb3.block x.block (hl2x x e h0))
              · have h1 := hnw x e
                have h2 := hl2x x e h0
                injection q2 with q2
                have q4 : x.block = g := q2
                rcases hat with q3 | q3
                · have := hne _ q3; omega
                · omega
          generalize w4.setCell ⟨B + 2, 2, none⟩ (.slice (some ⟨g, 0, none⟩) (i + 1) cap2) = w5 at *
          clear HX HB HO hown hgr hat hC hne HKB hpx hO2 hq2 hq3 hb2 hb3 HB4 kk0 kk1 kk2 HLi HL KS k0 k1 k2 kq o2 c2 l0 l1 l2 l3 l4 l5 l6 l7 l8 hdr p2 pf
          go_wp2
          go_roundw
          case rel => exact ⟨i + 1, some ⟨g, 0, none⟩, cap2, updA a2 i ax, updN c2' i cx, by omega, by go_num, HB5, HO5, HX5, m0, m1, m2⟩
          case measure => simp [intOf]; omega
    · obtain rfl : i = n := by omega
      have g1 : decide ((i : Int) < (i : Int)) = false := by simp
      have o0 : wr.cell? ⟨B + 2, 0, none⟩ = some (.int .i64 W) := blk_cell k2 0
      have o1 : wr.cell? ⟨B + 2, 1, none⟩ = some (.int .i64 H) := blk_cell k2 1
      have z0 : wr.cell? ⟨B + 1, 0, none⟩ = some (.int .i64 0) := blk_cell k1 0
      have z1 : wr.cell? ⟨B + 1, 1, none⟩ = some (.int .i64 0) := blk_cell k1 1
      have z2 : wr.cell? ⟨B + 1, 2, none⟩ = some (.slice none 0 0) := blk_cell k1 2
      have f0 := blk_frozen k1 0
      have f1 := blk_frozen k1 1
      have f2 := blk_frozen k1 2
      have hl1 : B + 1 < wr.heap.size := by omega
      have HR : Hid (∀ u0 u1 u2 : Value, (((wr.setCell ⟨B + 1, 0, none⟩ u0).setCell ⟨B + 1, 1, none⟩ u1).setCell ⟨B + 1, 2, none⟩ u2).ownsRow B 54 9 (.slice sa i ca) i (lyVals L a2 c2' i)) := fun u0 u1 u2 =>
        own_rebase (own_farP (B := B + 1) (j := 2) (own_farP (B := B + 1) (j := 1) (own_farP (B := B + 1) (j := 0) (own_rebase (unhide HO) (show B + 2 ≤ B + 3 by omega))))) (show B ≤ B + 2 by omega)
      have HXR : Hid (∀ u0 u1 u2 : Value, ∀ j, j < i → PxD (((wr.setCell ⟨B + 1, 0, none⟩ u0).setCell ⟨B + 1, 1, none⟩ u1).setCell ⟨B + 1, 2, none⟩ u2) B (Value.slice sa i ca).ownBlock (a2 j) (L j).n (L j).q) := fun u0 u1 u2 j hj =>
        ⟨isPx_block (unhide HX j hj).is (fun x e _ => by
          have := (unhide HX j hj).new x e
          rw [setB _ _ _ _ _ (by omega), setB _ _ _ _ _ (by omega), setB _ _ _ _ _ (by omega)]), fun x e => by have := (unhide HX j hj).new x e; omega, (unhide HX j hj).ne⟩
      clear HO HX HL HLy HLT k0 k1 k2
      go_wp2
      refine bodyPost_ret (v := .agg #[.int .i64 W, .int .i64 H, .slice sa i ca]) ?_ rfl ⟨sa, ca, a2, c2', rfl, ?_, ?_, ?_⟩
      · rw [results_c (p := 2) (ty := 39) (by kernel_rfl)]
        go_simp
      · rw [← unhide HBE]
        exact unhide HR _ _ _
      · rw [← unhide HBE]
        exact unhide HXR _ _ _
      · rw [← unhide HBE]
        exact (((unhide HB).setCell (p := ⟨B + 1, 0, none⟩) (show B ≤ B + 1 by omega) _).setCell (p := ⟨B + 1, 1, none⟩) (show B ≤ B + 1 by omega) _).setCell (p := ⟨B + 1, 2, none⟩) (show B ≤ B + 1 by omega) _

theorem docOf_any (W H : Int) (s : Option Addr) (n c : Nat) (L : Nat → Ly) (a : Nat → Option Addr) (cp : Nat → Nat) (w : World) (hL : IsLy w s n L a cp) (hn : n ≤ 12) (hZ : ∀ i, i < n → (L i).n ≤ 4000) :
    Calls Tryd.prog 11 #[.agg #[.int .i64 W, .int .i64 H, .slice s n c]] w fun e w' => ∃ s2 c2 a2 cp2, e = .returned (.agg #[.int .i64 W, .int .i64 H, .slice s2 n c2]) ∧ IsLy w' s2 n L a2 cp2 ∧ n ≤ c2 ∧ Below w.heap.size w w' :=
  (docOfR_any W H s n c L a cp w hL hn hZ).mono fun _ _ ⟨s2, c2, a2, p2, he, ho, hx, hb⟩ => ⟨s2, c2, a2, p2, he, own_ly ho (by unfold maxLen; omega) (fun j hj => (hx j hj).is), own_cap ho, hb⟩
end Go.Proofs.YtkdckcengmkhhajDoor
