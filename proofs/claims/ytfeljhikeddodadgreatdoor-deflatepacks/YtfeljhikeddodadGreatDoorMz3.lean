/- Chains of places in memory: a place more. -/
import Derived.Test.YtfeljhikeddodadGreatDoorMg23
namespace Go.Proofs.YtfeljhikeddodadGreatDoor
open Go.RowKit Mm

theorem LM.same {w w' : World} {bm nn : Nat} {f : Nat → Nat → Nat → Nat} (h : LM w bm nn f) (hb : w'.heap[bm]? = w.heap[bm]?) : LM w' bm nn f := by
  obtain ⟨D, ⟨es, clock, h1, r⟩, h5⟩ := h
  exact ⟨D, ⟨es, clock, hb.trans h1, r⟩, h5⟩
theorem LM.congr {w : World} {bm nn : Nat} {f g : Nat → Nat → Nat → Nat} (h : LM w bm nn f) (he : ∀ x y z, f x y z = g x y z) : LM w bm nn g := by
  have : f = g := funext fun x => funext fun y => funext fun z => he x y z
  rw [← this]; exact h
theorem CH.ltc {w : World} {c bm gb : Nat} {s : ByteArray} {win a : Nat} (h : CH w c bm gb s win a) : c < w.heap.size := World.block_lt_of_cell? _ _ h.c0
theorem CH.ltm {w : World} {c bm gb : Nat} {s : ByteArray} {win a : Nat} (h : CH w c bm gb s win a) : bm < w.heap.size := by
  obtain ⟨nn, _, hm⟩ := h.map
  exact hm.lt
/-- What is not changed. -/
theorem CH.keep {w w' : World} {c bm gb : Nat} {s : ByteArray} {win a : Nat} (h : CH w c bm gb s win a) (h1 : w'.heap[c]? = w.heap[c]?) (h2 : w'.heap[bm]? = w.heap[bm]?) (h3 : w'.heap[gb]? = w.heap[gb]?) (hs : w.heap.size ≤ w'.heap.size) : CH w' c bm gb s win a := by
  have e : ∀ j, w'.cell? ⟨c, j, none⟩ = w.cell? ⟨c, j, none⟩ := fun j => World.cell?_of_block h1
  obtain ⟨nn, hn, hm⟩ := h.map
  exact ⟨(e 0).trans h.c0, (e 1).trans h.c1, (e 2).trans h.c2, (e 3).trans h.c3, (e 4).trans h.c4, ⟨nn, hn, hm.same h2⟩, fun j hj => ⟨(World.cell?_of_block (a := ⟨gb, j, none⟩) h3).trans (h.row j hj).1, (World.frozen?_of_block (a := ⟨gb, j, none⟩) h3).trans (h.row j hj).2⟩, h.ne1, h.ne2, h.ne3, by have := h.lt; omega⟩
theorem CH.below {w w' : World} {c bm gb : Nat} {s : ByteArray} {win a : Nat} (h : CH w c bm gb s win a) (hb : Below w.heap.size w w') : CH w' c bm gb s win a :=
  h.keep (hb.block c h.ltc) (hb.block bm h.ltm) (hb.block gb h.lt) hb.size
theorem befN_in (s : ByteArray) (a j : Nat) (h : j ≠ a) : befN s (a + 1) j = befN s a j := by
  unfold befN
  by_cases q : j < a
  · have : j < a + 1 := by omega
    simp [q, this]
  · have : ¬ j < a + 1 := by omega
    simp [q, this]
theorem befN_at (s : ByteArray) (a : Nat) (h : a + 3 ≤ s.size) : befN s (a + 1) a = prev (byt s) s.size (keyAt (byt s) a) a := by
  unfold befN
  rw [if_pos ⟨by omega, h⟩]
theorem befN_no (s : ByteArray) (a j : Nat) (h : s.size < a + 3) : befN s (a + 1) j = befN s a j := by
  by_cases q : j = a
  · subst q
    unfold befN
    rw [if_neg (by omega), if_neg (by omega)]
  · exact befN_in s a j q
theorem prev_no (s : ByteArray) (a : Nat) (k : Nat × Nat × Nat) (h : s.size < a + 3) : prev (byt s) s.size k (a + 1) = prev (byt s) s.size k a := by
  rw [prev, if_neg (fun q => by omega)]
theorem prev_yes (s : ByteArray) (a x y z : Nat) (h : a + 3 ≤ s.size) : prev (byt s) s.size (x, y, z) (a + 1) = if x = byt s a ∧ y = byt s (a + 1) ∧ z = byt s (a + 2) then a + 1 else prev (byt s) s.size (x, y, z) a := by
  rw [prev]
  by_cases q : x = byt s a ∧ y = byt s (a + 1) ∧ z = byt s (a + 2)
  · rw [if_pos q, if_pos ⟨h, by unfold keyAt; rw [q.1, q.2.1, q.2.2]⟩]
  · rw [if_neg q, if_neg]
    rintro ⟨_, e⟩
    unfold keyAt at e
    injection e with e1 e2
    injection e2 with e2 e3
    exact q ⟨e1.symm, e2.symm, e3.symm⟩
theorem add_no (c bm gb win a : Nat) (s : ByteArray) (w : World) (h : CH w c bm gb s win a) (hs : s.size ≤ 20000) (ha : a ≤ s.size) (hn : s.size < a + 3) :
    Calls Tryz.prog 91 #[.pointer (some ⟨c, 0, none⟩), .int .i64 (a : Int)] w fun e w' => e = .returned (.tuple #[]) ∧ CH w' c bm gb s win (a + 1) ∧ But (fun k => k = bm ∨ k = gb) w w' := by
  have HB := hide (begins_any c a s w h.c0 (by omega) ha)
  rw [decide_eq_false (by omega)] at HB
  have HC : Hid (CH w c bm gb s win (a + 1)) := by
    obtain ⟨nn, hn2, hm⟩ := h.map
    exact ⟨h.c0, h.c1, h.c2, h.c3, h.c4, ⟨nn, by omega, hm.congr (fun x y z => (prev_no s a (x, y, z) hn).symm)⟩, fun j hj => by rw [befN_no s a j hn]; exact h.row j hj, h.ne1, h.ne2, h.ne3, h.lt⟩
  clear h
  go_enter Tryz.func91, Tryz.ntmps91
  go_wp2_with fail
  refine (unhide HB).mono ?_; rintro e w1 ⟨rfl, rfl⟩
  go_wp2
  refine bodyPost_ret (results_none rfl _ _ _) rfl ?_
  exact ⟨rfl, unhide HC, But.refl _ _⟩
theorem three_newM (w : World) (x y z : Value) (t : TypeId) : (w.alloc (.cells #[x, y, z] t)).cell? ⟨w.heap.size, 0, none⟩ = some x ∧ (w.alloc (.cells #[x, y, z] t)).cell? ⟨w.heap.size, 1, none⟩ = some y ∧ (w.alloc (.cells #[x, y, z] t)).cell? ⟨w.heap.size, 2, none⟩ = some z := by simp
set_option maxHeartbeats 4000000 in
set_option maxRecDepth 100000 in
theorem add_yes (c bm gb win a : Nat) (s : ByteArray) (w : World) (h : CH w c bm gb s win a) (hs : s.size ≤ 20000) (hn : a + 3 ≤ s.size) :
    Calls Tryz.prog 91 #[.pointer (some ⟨c, 0, none⟩), .int .i64 (a : Int)] w fun e w' => e = .returned (.tuple #[]) ∧ CH w' c bm gb s win (a + 1) ∧ But (fun k => k = bm ∨ k = gb) w w' := by
  have HB := hide (begins_any c a s w h.c0 (by omega) (by omega))
  rw [decide_eq_true hn] at HB
  have HK := hide (key_any c a s w h.c0 (by omega) hn)
  obtain ⟨x, hx⟩ : ∃ x, x = byt s a := ⟨_, rfl⟩
  obtain ⟨y, hy⟩ : ∃ y, y = byt s (a + 1) := ⟨_, rfl⟩
  obtain ⟨z, hz⟩ : ∃ z, z = byt s (a + 2) := ⟨_, rfl⟩
  have hxl : x < 256 := by rw [hx]; exact byt_lt _ _
  have hyl : y < 256 := by rw [hy]; exact byt_lt _ _
  have hzl : z < 256 := by rw [hz]; exact byt_lt _ _
  rw [← hx, ← hy, ← hz] at HK
  have Hx := hide hx
  have Hy := hide hy
  have Hz := hide hz
  have HC := hide h
  have hal : a < s.size := by omega
  have hai : (a : Int) < (s.size : Int) := by omega
  unfold keyV at HK
  clear h hx hy hz
  go_enter Tryz.func91, Tryz.ntmps91
  go_wp2_with fail
  refine (unhide HB).mono ?_; rintro e w0 ⟨rfl, rfl⟩
  go_wp2_with fail
  refine (unhide HK).mono ?_; rintro e w1 ⟨rfl, hb1⟩
  have hC1 := (unhide HC).below hb1
  obtain ⟨k0, k1, k2⟩ := three_newM w1 (.int .u8 (x : Int)) (.int .u8 (y : Int)) (.int .u8 (z : Int)) 189
  have hb2 : Below w1.heap.size w1 (w1.alloc (.cells #[.int .u8 (x : Int), .int .u8 (y : Int), .int .u8 (z : Int)] 189)) := (Below.refl _ _).alloc (Nat.le_refl _) _
  have hC2 := hC1.below hb2
  have hBu : But (fun k => k = bm ∨ k = gb) w0 (w1.alloc (.cells #[.int .u8 (x : Int), .int .u8 (y : Int), .int .u8 (z : Int)] 189)) := (((But.refl _ _).of_below hb1 (fun k h1 h2 => by omega))).alloc _
  have hkc : c ≠ w1.heap.size := by have := hC1.ltc; omega
  have hkm : bm ≠ w1.heap.size := by have := hC1.ltm; omega
  have hkg : gb ≠ w1.heap.size := by have := hC1.lt; omega
  have HBU := hide hBu
  have HC2 := hide hC2
  clear hC1 hb1 hb2 hC2 hBu HB HK HC
  go_wp2_with fail
  generalize w1.alloc (.cells #[.int .u8 (x : Int), .int .u8 (y : Int), .int .u8 (z : Int)] 189) = w2 at *
  generalize w1.heap.size = kb at *
  obtain ⟨nn, hnn, hM⟩ := (unhide HC2).map
  obtain ⟨v, hv⟩ : ∃ v, v = prev (byt s) s.size (x, y, z) a := ⟨_, rfl⟩
  have hvl : v ≤ a := by rw [hv]; exact prev_le _ _
  have hlk0 := hM.look x y z hxl hyl hzl
  rw [← hv] at hlk0
  unfold keyV at hlk0
  have hr0 := (unhide HC2).row a hal
  have s30 := (unhide HC2).c3
  have s40 := (unhide HC2).c4
  have hne2 := (unhide HC2).ne2
  have hne3 := (unhide HC2).ne3
  have hgs : ∀ u, (w2.setCell ⟨gb, a, none⟩ u).heap[bm]? = w2.heap[bm]? := fun u => Below.heap_setCell _ _ _ _ (fun e => hne3 (by exact e))
  have HM := hide hM
  have Hv := hide hv
  have HR := hide hr0
  have hrd : w2.drew.cell? ⟨gb, a, none⟩ = some (.int .i64 (befN s a a : Int)) := hr0.1
  have hrf : w2.drew.frozen? ⟨gb, a, none⟩ = false := hr0.2
  clear hM hv hr0
  have hlkd : (Instr.lookup 185 (.map (some bm)) (.agg #[.int .u8 (x : Int), .int .u8 (y : Int), .int .u8 (z : Int)]) false).run Tryz.prog w2.drew = .ok (.int .i64 (v : Int)) w2.drew := by
    have hM2 : LM w2.drew bm nn (fun x y z => prev (byt s) s.size (x, y, z) a) := (unhide HM).same rfl
    have := hM2.look x y z hxl hyl hzl
    rw [← unhide Hv] at this
    exact this
  refine wp_region_held_drew (S := fun w' => w'.cell? ⟨c, 3, none⟩ = some (.map (some bm)) ∧ w'.cell? ⟨c, 4, none⟩ = some (.slice (some ⟨gb, 0, none⟩) s.size s.size) ∧ w'.cell? ⟨kb, 0, none⟩ = some (.int .u8 (x : Int)) ∧ w'.cell? ⟨kb, 1, none⟩ = some (.int .u8 (y : Int)) ∧ w'.cell? ⟨kb, 2, none⟩ = some (.int .u8 (z : Int)) ∧ (Instr.lookup 185 (.map (some bm)) (.agg #[.int .u8 (x : Int), .int .u8 (y : Int), .int .u8 (z : Int)]) false).run Tryz.prog w' = .ok (.int .i64 (v : Int)) w') (by kernel_rfl) ⟨s30, s40, k0, k1, k2, hlkd⟩ (fun hHeld => ?_)
  refine wpAnyH_take (i := 0) (v := .pointer (some ⟨c, 0, none⟩)) rfl (by kernel_rfl) (by kernel_rfl) (by kernel_rfl) (fun _ _ _ h => h) (Or.inl ⟨by rfl, ?_⟩) hHeld ?_
  · intro w' hSw
    obtain ⟨s3, s4, k0, k1, k2, hlk⟩ := hSw
    go_simp
  simp only [Act.put, List.setIfInBounds_toArray]
  refine wpAnyH_take (i := 1) (v := .pointer (some ⟨c, 0, none⟩)) rfl (by kernel_rfl) (by kernel_rfl) (by kernel_rfl) (fun _ _ _ h => h) (Or.inl ⟨by rfl, ?_⟩) hHeld ?_
  · intro w' hSw
    obtain ⟨s3, s4, k0, k1, k2, hlk⟩ := hSw
    go_simp
  simp only [Act.put]
  refine wpAnyH_take (i := 2) (v := .pointer (some ⟨c, 4, none⟩)) rfl (by kernel_rfl) (by kernel_rfl) (by kernel_rfl) (fun _ _ _ h => h) (Or.inl ⟨by rfl, ?_⟩) hHeld ?_
  · intro w' hSw
    obtain ⟨s3, s4, k0, k1, k2, hlk⟩ := hSw
    go_simp
  simp only [Act.put]
  refine wpAnyH_take (i := 3) (v := .slice (some ⟨gb, 0, none⟩) s.size s.size) rfl (by kernel_rfl) (by kernel_rfl) (by kernel_rfl) (fun _ _ _ h => h) (Or.inl ⟨by rfl, ?_⟩) hHeld ?_
  · intro w' hSw
    obtain ⟨s3, s4, k0, k1, k2, hlk⟩ := hSw
    go_simp
  simp only [Act.put]
  refine wpAnyH_take (i := 4) (v := .int .i64 (a : Int)) rfl (by kernel_rfl) (by kernel_rfl) (by kernel_rfl) (fun _ _ _ h => h) (Or.inl ⟨by rfl, ?_⟩) hHeld ?_
  · intro w' hSw
    obtain ⟨s3, s4, k0, k1, k2, hlk⟩ := hSw
    go_simp
  simp only [Act.put]
  refine wpAnyH_take (i := 5) (v := .pointer (some ⟨c, 0, none⟩)) rfl (by kernel_rfl) (by kernel_rfl) (by kernel_rfl) (fun _ _ _ h => h) (Or.inl ⟨by rfl, ?_⟩) hHeld ?_
  · intro w' hSw
    obtain ⟨s3, s4, k0, k1, k2, hlk⟩ := hSw
    go_simp
  simp only [Act.put]
  refine wpAnyH_take (i := 6) (v := .pointer (some ⟨c, 0, none⟩)) rfl (by kernel_rfl) (by kernel_rfl) (by kernel_rfl) (fun _ _ _ h => h) (Or.inl ⟨by rfl, ?_⟩) hHeld ?_
  · intro w' hSw
    obtain ⟨s3, s4, k0, k1, k2, hlk⟩ := hSw
    go_simp
  simp only [Act.put]
  refine wpAnyH_take (i := 7) (v := .pointer (some ⟨c, 3, none⟩)) rfl (by kernel_rfl) (by kernel_rfl) (by kernel_rfl) (fun _ _ _ h => h) (Or.inl ⟨by rfl, ?_⟩) hHeld ?_
  · intro w' hSw
    obtain ⟨s3, s4, k0, k1, k2, hlk⟩ := hSw
    go_simp
  simp only [Act.put]
  refine wpAnyH_take (i := 8) (v := .map (some bm)) rfl (by kernel_rfl) (by kernel_rfl) (by kernel_rfl) (fun _ _ _ h => h) (Or.inl ⟨by rfl, ?_⟩) hHeld ?_
  · intro w' hSw
    obtain ⟨s3, s4, k0, k1, k2, hlk⟩ := hSw
    go_simp
  simp only [Act.put, List.getElem_toArray, List.getElem_cons_succ, List.getElem_cons_zero]
  refine wpAnyH_take (i := 9) (v := .agg #[.int .u8 (x : Int), .int .u8 (y : Int), .int .u8 (z : Int)]) rfl (by kernel_rfl) (by kernel_rfl) (by kernel_rfl) (fun _ _ _ h => h) (Or.inl ⟨by rfl, ?_⟩) hHeld ?_
  · intro w' hSw
    obtain ⟨s3, s4, k0, k1, k2, hlk⟩ := hSw
    go_simp
  simp only [Act.put, List.getElem_toArray, List.getElem_cons_succ, List.getElem_cons_zero]
  refine wpAnyH_take (i := 10) (v := .int .i64 (v : Int)) rfl (by kernel_rfl) (by kernel_rfl) (by kernel_rfl) (fun _ _ _ h => h) (Or.inl ⟨by rfl, ?_⟩) hHeld ?_
  · intro w' hSw
    obtain ⟨s3, s4, k0, k1, k2, hlk⟩ := hSw
    go_simp
  simp only [Act.put, List.getElem_toArray, List.getElem_cons_succ, List.getElem_cons_zero]
  refine wpAnyH_take (i := 11) (v := .pointer (some ⟨gb, a, none⟩)) rfl (by kernel_rfl) (by kernel_rfl) (by kernel_rfl) (fun _ _ _ h => h) (Or.inl ⟨by rfl, ?_⟩) hHeld ?_
  · intro w' hSw
    obtain ⟨s3, s4, k0, k1, k2, hlk⟩ := hSw
    go_simp
  simp only [Act.put, List.getElem_toArray, List.getElem_cons_succ, List.getElem_cons_zero]
  refine wpAnyH_ready (rs := [12]) (by kernel_rfl) (by simp) ?_
  refine AllReadyH.cons rfl (fun K hK => ?_) AllReadyH.nil
  go_simp
  have hX3 : LM (w2.setCell ⟨gb, a, none⟩ (.int .i64 (v : Int))).drew bm nn (fun x y z => prev (byt s) s.size (x, y, z) a) := (unhide HM).same (hgs _)
  have hXc : ∀ q j, q ≠ gb → (w2.setCell ⟨gb, a, none⟩ (.int .i64 (v : Int))).drew.cell? ⟨q, j, none⟩ = w2.cell? ⟨q, j, none⟩ := fun q j hq => World.cell?_of_block (Below.heap_setCell _ _ _ _ (fun e => hq (by exact e)))
  have hlk3 : (Instr.lookup 185 (.map (some bm)) (.agg #[.int .u8 (x : Int), .int .u8 (y : Int), .int .u8 (z : Int)]) false).run Tryz.prog (w2.setCell ⟨gb, a, none⟩ (.int .i64 (v : Int))).drew = .ok (.int .i64 (v : Int)) (w2.setCell ⟨gb, a, none⟩ (.int .i64 (v : Int))).drew := by
    have := hX3.look x y z hxl hyl hzl
    rw [← unhide Hv] at this
    exact this
  refine hK.out _ _ ⟨(hXc c 3 hne2).trans s30, (hXc c 4 hne2).trans s40, (hXc kb 0 (Ne.symm hkg)).trans k0, (hXc kb 1 (Ne.symm hkg)).trans k1, (hXc kb 2 (Ne.symm hkg)).trans k2, hlk3⟩ (fun hHeld => ?_)
  clear hK K
  refine wpAnyH_done (by kernel_rfl) ?_ _
  obtain ⟨m3, _, m0, m1, m2, _⟩ := hHeld
  have HX3 := hide hX3
  have hx0 : (w2.setCell ⟨gb, a, none⟩ (.int .i64 (v : Int))).drew.cell? ⟨gb, a, none⟩ = some (.int .i64 (v : Int)) := by
    have hrc : w2.cell? ⟨gb, a, none⟩ = some (.int .i64 (befN s a a : Int)) := (unhide HR).1
    simp [go_sem, hrc]
  have hxo : ∀ j, j ≠ a → (w2.setCell ⟨gb, a, none⟩ (.int .i64 (v : Int))).drew.cell? ⟨gb, j, none⟩ = w2.cell? ⟨gb, j, none⟩ := fun j hj => World.cell?_setCell_other _ _ _ _ (fun e => hj (by injection e with _ e; exact e.symm))
  have hxf : ∀ j, (w2.setCell ⟨gb, a, none⟩ (.int .i64 (v : Int))).drew.frozen? ⟨gb, j, none⟩ = w2.frozen? ⟨gb, j, none⟩ := fun j => by simp [go_sem]
  have hxs : w2.heap.size = (w2.setCell ⟨gb, a, none⟩ (.int .i64 (v : Int))).drew.heap.size := by simp [World.setCell]
  have HBU3 := hide ((unhide HBU).setCell (p := ⟨gb, a, none⟩) (.inr rfl) (.int .i64 (v : Int))).drew
  have HX0 := hide hx0
  have HXO := hide hxo
  have HXF := hide hxf
  have HXC := hide hXc
  clear hlk3 hlkd hlk0 hrd hrf hX3 hx0 hxo hxf hXc hgs s30 s40 k0 k1 k2
  generalize (w2.setCell ⟨gb, a, none⟩ (.int .i64 (v : Int))).drew = w3 at *
  obtain ⟨a1, ha1⟩ : ∃ a1, a1 = a + 1 := ⟨_, rfl⟩
  have za1 : (a : Int) + 1 = (a1 : Int) := by omega
  have wa1 : IntKind.i64.wrap (a1 : Int) = (a1 : Int) := by rw [IntKind.wrap_i64]; omega
  have hM4 : LM w3.drew bm nn (fun x y z => prev (byt s) s.size (x, y, z) a) := (unhide HX3).same rfl
  obtain ⟨w4, hput, hM5, hgr4⟩ := hM4.put x y z a1 hxl hyl hzl (by omega) (by omega)
  unfold keyV at hput
  have HM5 := hide hM5
  have HG4 := hide hgr4
  have Ha1 := hide ha1
  clear hM4 hM5 hgr4 ha1
  go_wp2_with fail
  refine wp_region_held_drew (S := fun w' => w'.cell? ⟨c, 3, none⟩ = some (.map (some bm)) ∧ w'.cell? ⟨kb, 0, none⟩ = some (.int .u8 (x : Int)) ∧ w'.cell? ⟨kb, 1, none⟩ = some (.int .u8 (y : Int)) ∧ w'.cell? ⟨kb, 2, none⟩ = some (.int .u8 (z : Int))) (by kernel_rfl) ⟨m3, m0, m1, m2⟩ (fun hHeld => ?_)
  refine wpAnyH_take (i := 0) (v := .pointer (some ⟨c, 0, none⟩)) rfl (by kernel_rfl) (by kernel_rfl) (by kernel_rfl) (fun _ _ _ h => h) (Or.inl ⟨by rfl, ?_⟩) hHeld ?_
  · intro w' hSw
    obtain ⟨s3, k0, k1, k2⟩ := hSw
    go_simp
  simp only [Act.put, List.setIfInBounds_toArray]
  refine wpAnyH_take (i := 1) (v := .pointer (some ⟨c, 0, none⟩)) rfl (by kernel_rfl) (by kernel_rfl) (by kernel_rfl) (fun _ _ _ h => h) (Or.inl ⟨by rfl, ?_⟩) hHeld ?_
  · intro w' hSw
    obtain ⟨s3, k0, k1, k2⟩ := hSw
    go_simp
  simp only [Act.put]
  refine wpAnyH_take (i := 2) (v := .pointer (some ⟨c, 3, none⟩)) rfl (by kernel_rfl) (by kernel_rfl) (by kernel_rfl) (fun _ _ _ h => h) (Or.inl ⟨by rfl, ?_⟩) hHeld ?_
  · intro w' hSw
    obtain ⟨s3, k0, k1, k2⟩ := hSw
    go_simp
  simp only [Act.put]
  refine wpAnyH_take (i := 3) (v := .map (some bm)) rfl (by kernel_rfl) (by kernel_rfl) (by kernel_rfl) (fun _ _ _ h => h) (Or.inl ⟨by rfl, ?_⟩) hHeld ?_
  · intro w' hSw
    obtain ⟨s3, k0, k1, k2⟩ := hSw
    go_simp
  simp only [Act.put]
  refine wpAnyH_take (i := 4) (v := .agg #[.int .u8 (x : Int), .int .u8 (y : Int), .int .u8 (z : Int)]) rfl (by kernel_rfl) (by kernel_rfl) (by kernel_rfl) (fun _ _ _ h => h) (Or.inl ⟨by rfl, ?_⟩) hHeld ?_
  · intro w' hSw
    obtain ⟨s3, k0, k1, k2⟩ := hSw
    go_simp
  simp only [Act.put]
  refine wpAnyH_take (i := 5) (v := .int .i64 (a : Int)) rfl (by kernel_rfl) (by kernel_rfl) (by kernel_rfl) (fun _ _ _ h => h) (Or.inl ⟨by rfl, ?_⟩) hHeld ?_
  · intro w' hSw
    obtain ⟨s3, k0, k1, k2⟩ := hSw
    go_simp
  simp only [Act.put]
  refine wpAnyH_take (i := 6) (v := .int .i64 (a1 : Int)) rfl (by kernel_rfl) (by kernel_rfl) (by kernel_rfl) (fun _ _ _ h => h) (Or.inl ⟨by rfl, ?_⟩) hHeld ?_
  · intro w' hSw
    obtain ⟨s3, k0, k1, k2⟩ := hSw
    go_simp
  simp only [Act.put]
  refine wpAnyH_ready (rs := [7]) (by kernel_rfl) (by simp) ?_
  refine AllReadyH.cons rfl (fun K hK => ?_) AllReadyH.nil
  have hgb : ∀ q, q < w3.heap.size → q ≠ bm → w4.heap[q]? = w3.heap[q]? := fun q h hq => (unhide HG4).block q h (fun e => hq (by injection e))
  have lc : c < w3.heap.size := World.block_lt_of_cell? _ _ m3
  have lk : kb < w3.heap.size := World.block_lt_of_cell? _ _ m0
  have lg : gb < w3.heap.size := World.block_lt_of_cell? _ _ (unhide HX0)
  have hne1 := (unhide HC2).ne1
  go_simp
  refine hK.out _ _ ⟨(World.cell?_of_block (hgb c lc hne1)).trans m3, (World.cell?_of_block (hgb kb lk (Ne.symm hkm))).trans m0, (World.cell?_of_block (hgb kb lk (Ne.symm hkm))).trans m1, (World.cell?_of_block (hgb kb lk (Ne.symm hkm))).trans m2⟩ (fun hHeld => ?_)
  clear hK K
  refine wpAnyH_done (by kernel_rfl) ?_ _
  have HFIN : Hid (CH w4 c bm gb s win (a + 1)) := by
    have h := unhide HC2
    have e1 : ∀ j, w4.cell? ⟨c, j, none⟩ = w2.cell? ⟨c, j, none⟩ := fun j => (World.cell?_of_block (a := ⟨c, j, none⟩) (hgb c lc hne1)).trans (unhide HXC c j hne2)
    have e2 : ∀ j, w4.cell? ⟨gb, j, none⟩ = w3.cell? ⟨gb, j, none⟩ := fun j => World.cell?_of_block (a := ⟨gb, j, none⟩) (hgb gb lg (Ne.symm hne3))
    have e3 : ∀ j, w4.frozen? ⟨gb, j, none⟩ = w3.frozen? ⟨gb, j, none⟩ := fun j => World.frozen?_of_block (a := ⟨gb, j, none⟩) (hgb gb lg (Ne.symm hne3))
    refine ⟨(e1 0).trans h.c0, (e1 1).trans h.c1, (e1 2).trans h.c2, (e1 3).trans h.c3, (e1 4).trans h.c4, ⟨nn + 1, by omega, (unhide HM5).congr (fun p q r => ?_)⟩, fun j hj => ⟨?_, ?_⟩, h.ne1, h.ne2, h.ne3, ?_⟩
    · rw [prev_yes s a p q r hn, ← unhide Hx, ← unhide Hy, ← unhide Hz, unhide Ha1]
    · rw [e2]
      by_cases hja : j = a
      · subst hja
        rw [unhide HX0, unhide Hv, befN_at s j hn]
        unfold keyAt
        rw [← unhide Hx, ← unhide Hy, ← unhide Hz]
      · rw [unhide HXO j hja, befN_in s a j hja]
        exact (h.row j hj).1
    · rw [e3, unhide HXF]
      exact (h.row j hj).2
    · have h1 := (unhide HG4).size
      have h2 := h.lt
      have h3 : w3.heap.size = w3.drew.heap.size := rfl
      omega
  have HBF := hide ((unhide HBU3).drew.grown (unhide HG4) (fun k e _ => .inl (by injection e with e; exact e.symm)))
  go_wp2
  go_end0
  exact ⟨rfl, unhide HFIN, unhide HBF⟩
end Go.Proofs.YtfeljhikeddodadGreatDoor
