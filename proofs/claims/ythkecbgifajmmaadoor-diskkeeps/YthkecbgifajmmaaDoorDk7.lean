/- A disk: Copy. -/
import Derived.Test.YthkecbgifajmmaaDoorDk6
import Derived.Test.YthkecbgifajmmaaDoorStc
namespace Go.Proofs.YthkecbgifajmmaaDoor
open Go.RowKit

theorem DP.belowD {w w' : World} {q n g1 c1 g2 c2 : Nat} {sw : Option Addr} {cw : Nat} {z : Int} {D : DkS} (h : DP w q n g1 c1 g2 c2 sw cw z D) (hb : Below w.heap.size w w') : DP w' q n g1 c1 g2 c2 sw cw z D :=
  h.keep (fun j hj => hb.block j (DAt.lt ⟨g1, c1, g2, c2, sw, cw, z, rfl, h⟩ j hj))

set_option maxHeartbeats 4000000 in
set_option maxRecDepth 100000 in
theorem dcopy_any (q n : Nat) (fp : List Nat) (D : DkS) (w : World) (h : DAt w q n fp D) (hok : DkOk n D) (hn0 : 0 < n) (hn : n ≤ 4000) :
    Calls Tryd.prog 15 #[.pointer (some ⟨q, 0, none⟩)] w fun e w' => ∃ q' fp', e = .returned (.pointer (some ⟨q', 0, none⟩)) ∧ DAt w' q' n fp' D ∧ (∀ k, k ∈ fp' → w.heap.size ≤ k) ∧ Below w.heap.size w w' := by
  obtain ⟨g1, c1, g2, c2, sw, cw, z, rfl, hp⟩ := h
  have HO := hide hok
  have hfew := hok.few
  obtain ⟨bb, hbb⟩ : ∃ bb : Bool, bb = D.pw.isSome := ⟨_, rfl⟩
  obtain ⟨k0, k1, k2, k3, k4, kf, kq⟩ := hp.cells
  rw [← hbb] at k0
  have HK1 := hide k1
  obtain ⟨zz, k1z⟩ : ∃ zz : Int, w.cell? ⟨q, 1, none⟩ = some (.int .i64 zz) := ⟨_, k1⟩
  have HKZ := hide k1z
  have HPB := hide hp.pb
  clear k1
  have HBB := hide hbb
  have KS : Hid (∀ a b : World, (a.cell? ⟨q, 0, none⟩ = some (.bool bb) ∧ a.cell? ⟨q, 1, none⟩ = some (.int .i64 zz) ∧ a.cell? ⟨q, 2, none⟩ = some (.slice (some ⟨g1, 0, none⟩) n c1) ∧ a.cell? ⟨q, 3, none⟩ = some (.slice (some ⟨g2, 0, none⟩) n c2) ∧ a.cell? ⟨q, 4, none⟩ = some (.slice sw D.ws.length cw) ∧ DP a q n g1 c1 g2 c2 sw cw z D) → Below a.heap.size a b →
      (b.cell? ⟨q, 0, none⟩ = some (.bool bb) ∧ b.cell? ⟨q, 1, none⟩ = some (.int .i64 zz) ∧ b.cell? ⟨q, 2, none⟩ = some (.slice (some ⟨g1, 0, none⟩) n c1) ∧ b.cell? ⟨q, 3, none⟩ = some (.slice (some ⟨g2, 0, none⟩) n c2) ∧ b.cell? ⟨q, 4, none⟩ = some (.slice sw D.ws.length cw) ∧ DP b q n g1 c1 g2 c2 sw cw z D)) := by
    rintro a b ⟨s0, s1, s2, s3, s4, s5⟩ hb
    have hq := blk_lt s5.box
    exact ⟨(hb.cell (p := ⟨q, 0, none⟩) hq).trans s0, (hb.cell (p := ⟨q, 1, none⟩) hq).trans s1, (hb.cell (p := ⟨q, 2, none⟩) hq).trans s2, (hb.cell (p := ⟨q, 3, none⟩) hq).trans s3, (hb.cell (p := ⟨q, 4, none⟩) hq).trans s4, s5.belowD hb⟩
  have KP : Hid (∀ a : World, (a.cell? ⟨q, 0, none⟩ = some (.bool bb) ∧ a.cell? ⟨q, 1, none⟩ = some (.int .i64 zz) ∧ a.cell? ⟨q, 2, none⟩ = some (.slice (some ⟨g1, 0, none⟩) n c1) ∧ a.cell? ⟨q, 3, none⟩ = some (.slice (some ⟨g2, 0, none⟩) n c2) ∧ a.cell? ⟨q, 4, none⟩ = some (.slice sw D.ws.length cw) ∧ DP a q n g1 c1 g2 c2 sw cw z D) → DP a q n g1 c1 g2 c2 sw cw z D) := fun a s => s.2.2.2.2.2
  have hpd : Hid (DP w.drew q n g1 c1 g2 c2 sw cw z D) := hp.keep (fun _ _ => rfl)
  have entS : ∀ args w, (callFunc 28 args).run Tryd.prog w = .ok (.enter 28 args) w := enters_of Tryd.func28 (by kernel_rfl) rfl
  have entW : ∀ args w, (callFunc 29 args).run Tryd.prog w = .ok (.enter 29 args) w := enters_of Tryd.func29 (by kernel_rfl) rfl
  clear hbb hok kf
  go_enter Tryd.func15, Tryd.ntmps15
  go_wp2_with fail
  refine wp_region_held_drew (S := fun a => a.cell? ⟨q, 0, none⟩ = some (.bool bb) ∧ a.cell? ⟨q, 1, none⟩ = some (.int .i64 zz) ∧ a.cell? ⟨q, 2, none⟩ = some (.slice (some ⟨g1, 0, none⟩) n c1) ∧ a.cell? ⟨q, 3, none⟩ = some (.slice (some ⟨g2, 0, none⟩) n c2) ∧ a.cell? ⟨q, 4, none⟩ = some (.slice sw D.ws.length cw) ∧ DP a q n g1 c1 g2 c2 sw cw z D) (by kernel_rfl) ⟨k0, k1z, k2, k3, k4, unhide hpd⟩ (fun hHeld => ?_)
  refine wpAnyH_take (i := 0) (v := .pointer (some ⟨q, 0, none⟩)) rfl (by kernel_rfl) (by kernel_rfl) (by kernel_rfl) (fun _ _ _ h => h) (Or.inl ⟨by rfl, ?_⟩) hHeld ?_
  · intro w' hSw
    obtain ⟨s0, s1, s2, s3, s4, _⟩ := hSw
    go_simp
  simp only [List.getElem_toArray, List.getElem_cons_zero, Act.put, List.setIfInBounds_toArray, List.set_cons_zero, List.set_cons_succ]
  refine wpAnyH_take (i := 1) (v := .pointer (some ⟨q, 0, none⟩)) rfl (by kernel_rfl) (by kernel_rfl) (by kernel_rfl) (fun _ _ _ h => h) (Or.inl ⟨by rfl, ?_⟩) hHeld ?_
  · intro w' hSw
    obtain ⟨s0, s1, s2, s3, s4, _⟩ := hSw
    go_simp
  simp only [List.getElem_toArray, List.getElem_cons_succ, List.getElem_cons_zero, Act.put, List.setIfInBounds_toArray, List.set_cons_zero, List.set_cons_succ]
  refine wpAnyH_take (i := 2) (v := .pointer (some ⟨q, 0, none⟩)) rfl (by kernel_rfl) (by kernel_rfl) (by kernel_rfl) (fun _ _ _ h => h) (Or.inl ⟨by rfl, ?_⟩) hHeld ?_
  · intro w' hSw
    obtain ⟨s0, s1, s2, s3, s4, _⟩ := hSw
    go_simp
  simp only [List.getElem_toArray, List.getElem_cons_succ, List.getElem_cons_zero, Act.put, List.setIfInBounds_toArray, List.set_cons_zero, List.set_cons_succ]
  refine wpAnyH_take (i := 3) (v := .agg #[.bool bb, .int .i64 zz]) rfl (by kernel_rfl) (by kernel_rfl) (by kernel_rfl) (fun _ _ _ h => h) (Or.inl ⟨by rfl, ?_⟩) hHeld ?_
  · intro w' hSw
    obtain ⟨s0, s1, s2, s3, s4, _⟩ := hSw
    go_simp
  simp only [List.getElem_toArray, List.getElem_cons_succ, List.getElem_cons_zero, Act.put, List.setIfInBounds_toArray, List.set_cons_zero, List.set_cons_succ]
  refine wpAnyH_take (i := 4) (v := .pointer (some ⟨q, 0, none⟩)) rfl (by kernel_rfl) (by kernel_rfl) (by kernel_rfl) (fun _ _ _ h => h) (Or.inl ⟨by rfl, ?_⟩) hHeld ?_
  · intro w' hSw
    obtain ⟨s0, s1, s2, s3, s4, _⟩ := hSw
    go_simp
  simp only [List.getElem_toArray, List.getElem_cons_succ, List.getElem_cons_zero, Act.put, List.setIfInBounds_toArray, List.set_cons_zero, List.set_cons_succ]
  refine wpAnyH_take (i := 5) (v := .pointer (some ⟨q, 0, none⟩)) rfl (by kernel_rfl) (by kernel_rfl) (by kernel_rfl) (fun _ _ _ h => h) (Or.inl ⟨by rfl, ?_⟩) hHeld ?_
  · intro w' hSw
    obtain ⟨s0, s1, s2, s3, s4, _⟩ := hSw
    go_simp
  simp only [List.getElem_toArray, List.getElem_cons_succ, List.getElem_cons_zero, Act.put, List.setIfInBounds_toArray, List.set_cons_zero, List.set_cons_succ]
  refine wpAnyH_take (i := 6) (v := .pointer (some ⟨q, 2, none⟩)) rfl (by kernel_rfl) (by kernel_rfl) (by kernel_rfl) (fun _ _ _ h => h) (Or.inl ⟨by rfl, ?_⟩) hHeld ?_
  · intro w' hSw
    obtain ⟨s0, s1, s2, s3, s4, _⟩ := hSw
    go_simp
  simp only [List.getElem_toArray, List.getElem_cons_succ, List.getElem_cons_zero, Act.put, List.setIfInBounds_toArray, List.set_cons_zero, List.set_cons_succ]
  refine wpAnyH_take (i := 7) (v := .slice (some ⟨g1, 0, none⟩) n c1) rfl (by kernel_rfl) (by kernel_rfl) (by kernel_rfl) (fun _ _ _ h => h) (Or.inl ⟨by rfl, ?_⟩) hHeld ?_
  · intro w' hSw
    obtain ⟨s0, s1, s2, s3, s4, _⟩ := hSw
    go_simp
  simp only [List.getElem_toArray, List.getElem_cons_succ, List.getElem_cons_zero, Act.put, List.setIfInBounds_toArray, List.set_cons_zero, List.set_cons_succ]
  refine wpAnyH_take (i := 9) (v := .pointer (some ⟨q, 0, none⟩)) rfl (by kernel_rfl) (by kernel_rfl) (by kernel_rfl) (fun _ _ _ h => h) (Or.inl ⟨by rfl, ?_⟩) hHeld ?_
  · intro w' hSw
    obtain ⟨s0, s1, s2, s3, s4, _⟩ := hSw
    go_simp
  simp only [List.getElem_toArray, List.getElem_cons_succ, List.getElem_cons_zero, Act.put, List.setIfInBounds_toArray, List.set_cons_zero, List.set_cons_succ]
  refine wpAnyH_take (i := 10) (v := .pointer (some ⟨q, 0, none⟩)) rfl (by kernel_rfl) (by kernel_rfl) (by kernel_rfl) (fun _ _ _ h => h) (Or.inl ⟨by rfl, ?_⟩) hHeld ?_
  · intro w' hSw
    obtain ⟨s0, s1, s2, s3, s4, _⟩ := hSw
    go_simp
  simp only [List.getElem_toArray, List.getElem_cons_succ, List.getElem_cons_zero, Act.put, List.setIfInBounds_toArray, List.set_cons_zero, List.set_cons_succ]
  refine wpAnyH_take (i := 11) (v := .pointer (some ⟨q, 3, none⟩)) rfl (by kernel_rfl) (by kernel_rfl) (by kernel_rfl) (fun _ _ _ h => h) (Or.inl ⟨by rfl, ?_⟩) hHeld ?_
  · intro w' hSw
    obtain ⟨s0, s1, s2, s3, s4, _⟩ := hSw
    go_simp
  simp only [List.getElem_toArray, List.getElem_cons_succ, List.getElem_cons_zero, Act.put, List.setIfInBounds_toArray, List.set_cons_zero, List.set_cons_succ]
  refine wpAnyH_take (i := 12) (v := .slice (some ⟨g2, 0, none⟩) n c2) rfl (by kernel_rfl) (by kernel_rfl) (by kernel_rfl) (fun _ _ _ h => h) (Or.inl ⟨by rfl, ?_⟩) hHeld ?_
  · intro w' hSw
    obtain ⟨s0, s1, s2, s3, s4, _⟩ := hSw
    go_simp
  simp only [List.getElem_toArray, List.getElem_cons_succ, List.getElem_cons_zero, Act.put, List.setIfInBounds_toArray, List.set_cons_zero, List.set_cons_succ]
  refine wpAnyH_take (i := 14) (v := .pointer (some ⟨q, 0, none⟩)) rfl (by kernel_rfl) (by kernel_rfl) (by kernel_rfl) (fun _ _ _ h => h) (Or.inl ⟨by rfl, ?_⟩) hHeld ?_
  · intro w' hSw
    obtain ⟨s0, s1, s2, s3, s4, _⟩ := hSw
    go_simp
  simp only [List.getElem_toArray, List.getElem_cons_succ, List.getElem_cons_zero, Act.put, List.setIfInBounds_toArray, List.set_cons_zero, List.set_cons_succ]
  refine wpAnyH_take (i := 15) (v := .pointer (some ⟨q, 0, none⟩)) rfl (by kernel_rfl) (by kernel_rfl) (by kernel_rfl) (fun _ _ _ h => h) (Or.inl ⟨by rfl, ?_⟩) hHeld ?_
  · intro w' hSw
    obtain ⟨s0, s1, s2, s3, s4, _⟩ := hSw
    go_simp
  simp only [List.getElem_toArray, List.getElem_cons_succ, List.getElem_cons_zero, Act.put, List.setIfInBounds_toArray, List.set_cons_zero, List.set_cons_succ]
  refine wpAnyH_take (i := 16) (v := .pointer (some ⟨q, 4, none⟩)) rfl (by kernel_rfl) (by kernel_rfl) (by kernel_rfl) (fun _ _ _ h => h) (Or.inl ⟨by rfl, ?_⟩) hHeld ?_
  · intro w' hSw
    obtain ⟨s0, s1, s2, s3, s4, _⟩ := hSw
    go_simp
  simp only [List.getElem_toArray, List.getElem_cons_succ, List.getElem_cons_zero, Act.put, List.setIfInBounds_toArray, List.set_cons_zero, List.set_cons_succ]
  refine wpAnyH_take (i := 17) (v := .slice sw D.ws.length cw) rfl (by kernel_rfl) (by kernel_rfl) (by kernel_rfl) (fun _ _ _ h => h) (Or.inl ⟨by rfl, ?_⟩) hHeld ?_
  · intro w' hSw
    obtain ⟨s0, s1, s2, s3, s4, _⟩ := hSw
    go_simp
  simp only [List.getElem_toArray, List.getElem_cons_succ, List.getElem_cons_zero, Act.put, List.setIfInBounds_toArray, List.set_cons_zero, List.set_cons_succ]
  refine wpAnyH_ready (rs := [8]) (by kernel_rfl) (by simp) ?_
  refine AllReadyH.cons rfl (fun K hK => ?_) AllReadyH.nil
  refine step_calls rfl 28 [.tmp 10] #[53] rfl [.slice (some ⟨g1, 0, none⟩) n c1] (by simp [Act.eval]) entS ?_
  refine (dcloneS_any g1 n c1 D.now _ (unhide KP _ hHeld).now (unhide HO).now hn0 hn).mono ?_
  rintro e w1 ⟨x1, d1, rfl, hx1, hd1, hm1, hs1, hb1⟩
  refine .inl ⟨_, rfl, ?_⟩
  refine hK.out _ _ (unhide KS _ _ hHeld hb1) (fun hHeld => ?_)
  clear hK K
  simp only [List.getElem_toArray, List.getElem_cons_succ, List.getElem_cons_zero, Act.put, List.setIfInBounds_toArray, List.set_cons_zero, List.set_cons_succ]
  refine wpAnyH_ready (rs := [13]) (by kernel_rfl) (by simp) ?_
  refine AllReadyH.cons rfl (fun K hK => ?_) AllReadyH.nil
  refine step_calls rfl 28 [.tmp 15] #[53] rfl [.slice (some ⟨g2, 0, none⟩) n c2] (by simp [Act.eval]) entS ?_
  refine (dcloneS_any g2 n c2 D.kept _ (unhide KP _ hHeld).kept (unhide HO).kept hn0 hn).mono ?_
  rintro e w2 ⟨x2, d2, rfl, hx2, hd2, hm2, hs2, hb2⟩
  refine .inl ⟨_, rfl, ?_⟩
  refine hK.out _ _ (unhide KS _ _ hHeld hb2) (fun hHeld => ?_)
  clear hK K
  simp only [List.getElem_toArray, List.getElem_cons_succ, List.getElem_cons_zero, Act.put, List.setIfInBounds_toArray, List.set_cons_zero, List.set_cons_succ]
  refine wpAnyH_ready (rs := [18]) (by kernel_rfl) (by simp) ?_
  refine AllReadyH.cons rfl (fun K hK => ?_) AllReadyH.nil
  refine step_calls rfl 29 [.tmp 20] #[56] rfl [.slice sw D.ws.length cw] (by simp [Act.eval]) entW ?_
  refine (dcloneW_any sw cw D.ws _ (unhide KP _ hHeld).ws hfew).mono ?_
  rintro e w3 ⟨x3, d3, rfl, ho3, hb3⟩
  refine .inl ⟨_, rfl, ?_⟩
  refine hK.out _ _ (unhide KS _ _ hHeld hb3) (fun hHeld => ?_)
  clear hK K
  simp only [List.getElem_toArray, List.getElem_cons_succ, List.getElem_cons_zero, Act.put, List.setIfInBounds_toArray, List.set_cons_zero, List.set_cons_succ]
  have hB1 : Below w.heap.size w w1 := (Below.refl _ _).drew.trans hb1
  have hz1 := hB1.size
  have hB2 := hB1.trans (hb2.mono hz1)
  have hz2 := hB2.size
  have hB3 := hB2.trans (hb3.mono hz2)
  have hz3 := hB3.size
  have hs1' := (hs1.kept (hb2.block x1 hs1.lt)).kept (hb3.block x1 (Nat.lt_of_lt_of_le hs1.lt hb2.size))
  have hs2' := hs2.kept (hb3.block x2 hs2.lt)
  have hl1 := hs1.lt
  have hl2 := hs2.lt
  have hw23 := hb3.size
  have hx1 : w.heap.size ≤ x1 := hx1
  have hlt3 := ho3.lt
  have hno3 : ∀ k, k ∈ (blkS x3).toList → w2.heap.size ≤ k ∧ k < w3.heap.size := fun k hk => by
    rcases x3 with _ | ⟨gg, oo, ss⟩
    · simp [blkS] at hk
    · simp [blkS] at hk; subst hk; exact hlt3 k rfl
  have HF := hide (And.intro hs1' (And.intro hs2' (And.intro ho3 (And.intro hno3 hB3))))
  clear hs1 hs2 hs1' hs2' ho3 hno3 hb1 hb2 hb3 hB1 hB2 hB3 hlt3 KP hp k0 k1z k2 k3 k4
  refine wpAnyH_ready (rs := [19]) (by kernel_rfl) (by simp) ?_
  refine AllReadyH.cons rfl (fun K hK => ?_) AllReadyH.nil
  go_simp
  refine hK.out _ _ hHeld (fun hHeld => ?_)
  clear hK K
  refine wpAnyH_ready (rs := [20]) (by kernel_rfl) (by simp) ?_
  refine AllReadyH.cons rfl (fun K hK => ?_) AllReadyH.nil
  go_simp
  have hb4 := (Below.refl w3.heap.size w3).alloc (Nat.le_refl _) (.cells #[.bool bb, .int .i64 zz, .slice (some ⟨x1, 0, none⟩) n d1, .slice (some ⟨x2, 0, none⟩) n d2, .slice x3 D.ws.length d3] 58)
  have hbx := heap_alloc_new w3 (.cells #[.bool bb, .int .i64 zz, .slice (some ⟨x1, 0, none⟩) n d1, .slice (some ⟨x2, 0, none⟩) n d2, .slice x3 D.ws.length d3] 58)
  refine hK.out _ _ (unhide KS _ _ hHeld hb4) (fun hHeld => ?_)
  clear hK K
  generalize w3.alloc (.cells #[.bool bb, .int .i64 zz, .slice (some ⟨x1, 0, none⟩) n d1, .slice (some ⟨x2, 0, none⟩) n d2, .slice x3 D.ws.length d3] 58) = w4 at *
  refine wpAnyH_ready (rs := [21]) (by kernel_rfl) (by simp) ?_
  refine AllReadyH.cons rfl (fun K hK => ?_) AllReadyH.nil
  go_simp
  refine hK.out _ _ hHeld (fun hHeld => ?_)
  clear hK K hHeld
  refine wpAnyH_done (by kernel_rfl) ?_ _
  go_wp2
  go_ret
  obtain ⟨f1, f2, f3, f4, f5⟩ := unhide HF
  have hlb3 : ∀ k, k ∈ (blkS x3).toList → k < w3.heap.size := fun k hk => (f4 k hk).2
  refine ⟨w3.heap.size, w3.heap.size :: x1 :: x2 :: (blkS x3).toList, rfl, ⟨x1, d1, x2, d2, x3, d3, zz, rfl, ⟨?_, f1.kept (hb4.block x1 f1.lt), f2.kept (hb4.block x2 f2.lt), own_keep (own_rebase f3 (Nat.zero_le _)) (fun b hb => hb4.block b (hlb3 b hb)), hd1, hd2, hm1, hm2, ?_, ?_⟩⟩, ?_, f5.trans (hb4.mono hz3)⟩
  · have e : zz = (match D.pw with | none => z | some k => (k : Int)) := by
      have h1 := (unhide HKZ).symm.trans (unhide HK1)
      injection h1 with h1
      injection h1
    rw [hbx, unhide HBB]
    subst e
    cases D.pw <;> rfl
  · exact unhide HPB
  · have hk : ∀ k, k ∈ (blkS x3).toList → w2.heap.size ≤ k ∧ k < w3.heap.size := f4
    have hnd : (blkS x3).toList.Nodup := by cases x3 <;> simp [blkS]
    rw [List.nodup_cons, List.nodup_cons, List.nodup_cons]
    refine ⟨fun hm => ?_, fun hm => ?_, fun hm => ?_, hnd⟩
    · rcases List.mem_cons.1 hm with e | hm
      · have := f1.lt; omega
      rcases List.mem_cons.1 hm with e | hm
      · have := f2.lt; omega
      · have := (hk _ hm).2; omega
    · rcases List.mem_cons.1 hm with e | hm
      · omega
      · have := (hk _ hm).1; omega
    · have := (hk _ hm).1; omega
  · intro k hk
    rcases List.mem_cons.1 hk with rfl | hk
    · omega
    rcases List.mem_cons.1 hk with rfl | hk
    · exact hx1
    rcases List.mem_cons.1 hk with rfl | hk
    · omega
    · have := (f4 _ hk).1; omega
end Go.Proofs.YthkecbgifajmmaaDoor
