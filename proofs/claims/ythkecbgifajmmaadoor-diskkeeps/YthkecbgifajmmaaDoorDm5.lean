/- The document's disk: NewDisk. -/
import Derived.Test.YthkecbgifajmmaaDoorDm4
namespace Go.Proofs.YthkecbgifajmmaaDoor
open Go.RowKit

theorem onceE5 {G0 : Prop} {G : World → Prop} (F : World → Prop) (h : (∀ w, F w → G w) → G0) (r : ∀ w, F w → G w) : G0 := h r

set_option maxHeartbeats 8000000 in
set_option maxRecDepth 100000 in
theorem newDisk_any (n : Nat) (w : World) (hn : n ≤ 4000) :
    Calls Tryd.prog 10 #[.int .i64 (n : Int)] w fun e w' => ∃ p fp, e = .returned (.pointer (some ⟨p, 0, none⟩)) ∧ MAt w' p n fp dk0 ∧ (∀ k, k ∈ fp → w.heap.size ≤ k) ∧ Below w.heap.size w w' := by
  have entZ : ∀ args w, (callFunc 22 args).run Tryd.prog w = .ok (.enter 22 args) w := enters_of Tryd.func22 (by kernel_rfl) rfl
  obtain ⟨p, HPE⟩ : ∃ p, Hid (p = w.heap.size) := ⟨_, rfl⟩
  have HA := (Below.refl w.heap.size w).alloc (Nat.le_refl _) (.cells #[.slice none 0 0, .slice none 0 0, .slice none 0 0, .int .i64 (-1)] 44)
  have HX := heap_alloc_new w (.cells #[.slice none 0 0, .slice none 0 0, .slice none 0 0, .int .i64 (-1)] 44)
  rw [← unhide HPE] at HA HX
  have HQ : Hid (∃ sk ck sn cn, MQ (w.alloc (.cells #[.slice none 0 0, .slice none 0 0, .slice none 0 0, .int .i64 (-1)] 44)) p p 0 sk ck 0 sn cn) := ⟨none, 0, none, 0, HX, World.ownsRow_nil _ _ _ _, World.ownsRow_nil _ _ _ _, Nat.le_refl _, fun b hb => by simp [blkS] at hb, fun b hb => by simp [blkS] at hb, fun b hb => by simp [blkS] at hb⟩
  have HB := hide HA
  have HZ : p ≤ (w.alloc (.cells #[.slice none 0 0, .slice none 0 0, .slice none 0 0, .int .i64 (-1)] 44)).heap.size := by rw [unhide HPE]; simp
  clear HA HX
  go_enter Tryd.func10, Tryd.ntmps10
  go_wp2
  rw [← unhide HPE]
  generalize w.alloc (.cells #[.slice none 0 0, .slice none 0 0, .slice none 0 0, .int .i64 (-1)] 44) = w0 at *
  go_loopw [4] (fun iv wr => ∃ k : Nat, iv = .int .i64 (k : Int) ∧ k ≤ n ∧ Hid (∃ sk ck sn cn, MQ wr p p k sk ck k sn cn) ∧ Hid (Below p w wr) ∧ p ≤ wr.heap.size) (fun iv _ => n - (intOf iv).toNat)
  case atStart => exact ⟨0, rfl, by omega, HQ, HB, HZ⟩
  case round =>
    clear HQ HB HZ
    obtain ⟨k, rfl, hkn, HQ, HB, HZ⟩ := hrel
    obtain ⟨sk, ck, sn, cn, hq⟩ := unhide HQ
    by_cases hk : k < n
    · have dk : decide ((k : Int) < (n : Int)) = true := decide_eq_true (by omega)
      have dkn : decide (k < n) = true := decide_eq_true hk
      have hkk : (k : Int) < (n : Int) := by omega
      obtain ⟨k0, k1, kf, kq⟩ := hq.cells
      have HQ1 := hide hq
      obtain ⟨i0, hi7, hz0, hz1, hz2⟩ := info_parts str_info
      clear HQ hq
      go_upto_region 5 with fail
      refine wp_region_held_drew (S := fun _ => True) (by kernel_rfl) trivial (fun hHeld => ?_)
      refine wpAnyH_take (i := 0) (v := .pointer (some ⟨p, 0, none⟩)) rfl (by kernel_rfl) (by kernel_rfl) (by kernel_rfl) (fun _ _ _ h => h) (Or.inl ⟨by rfl, ?_⟩) hHeld ?_
      · intro w' _
        go_simp
      simp only [List.getElem_toArray, List.getElem_cons_zero, Act.put, List.setIfInBounds_toArray, List.set_cons_zero, List.set_cons_succ]
      refine wpAnyH_take (i := 1) (v := .pointer (some ⟨p, 0, none⟩)) rfl (by kernel_rfl) (by kernel_rfl) (by kernel_rfl) (fun _ _ _ h => h) (Or.inl ⟨by rfl, ?_⟩) hHeld ?_
      · intro w' _
        go_simp
      simp only [List.getElem_toArray, List.getElem_cons_succ, List.getElem_cons_zero, Act.put, List.setIfInBounds_toArray, List.set_cons_zero, List.set_cons_succ]
      refine wpAnyH_take (i := 2) (v := .pointer (some ⟨p, 0, none⟩)) rfl (by kernel_rfl) (by kernel_rfl) (by kernel_rfl) (fun _ _ _ h => h) (Or.inl ⟨by rfl, ?_⟩) hHeld ?_
      · intro w' _
        go_simp
      simp only [List.getElem_toArray, List.getElem_cons_succ, List.getElem_cons_zero, Act.put, List.setIfInBounds_toArray, List.set_cons_zero, List.set_cons_succ]
      refine wpAnyH_take (i := 3) (v := .pointer (some ⟨p, 0, none⟩)) rfl (by kernel_rfl) (by kernel_rfl) (by kernel_rfl) (fun _ _ _ h => h) (Or.inl ⟨by rfl, ?_⟩) hHeld ?_
      · intro w' _
        go_simp
      simp only [List.getElem_toArray, List.getElem_cons_succ, List.getElem_cons_zero, Act.put, List.setIfInBounds_toArray, List.set_cons_zero, List.set_cons_succ]
      apply onceE5 (fun w1 => Below wr.heap.size wr w1)
      · intro hrest
        refine wpAnyH_ready (rs := [4, 5]) (by kernel_rfl) (by simp) ?_
        refine AllReadyH.cons rfl (fun K hK => ?_) (AllReadyH.cons rfl (fun K hK => ?_) AllReadyH.nil)
        · go_simp
          refine hK.out _ _ trivial (fun hHeld => ?_)
          clear hK K
          refine wpAnyH_ready (rs := [5]) (by kernel_rfl) (by simp) ?_
          refine AllReadyH.cons rfl (fun K hK => ?_) AllReadyH.nil
          refine step_calls rfl 22 [.const (.int .i64 64)] #[3] rfl [.int .i64 64] (by simp [Act.eval]) entZ ?_
          refine (zeros_any 64 _ (by omega)).mono ?_
          rintro e w1 ⟨rfl, hb1⟩
          refine .inl ⟨_, rfl, ?_⟩
          rw [nulB64]
          have hb1 : Below wr.heap.size wr w1 := (Below.refl _ _).drew.trans hb1
          have kc := (hb1.cell (p := ⟨p, 0, none⟩) kq).trans k0
          refine hK.out _ _ trivial (fun hHeld => ?_)
          clear hK K
          simp only [List.getElem_toArray, List.getElem_cons_succ, List.getElem_cons_zero, Act.put, List.setIfInBounds_toArray, List.set_cons_zero, List.set_cons_succ]
          refine wpAnyH_ready (rs := [6]) (by kernel_rfl) (by simp) ?_
          refine AllReadyH.cons rfl (fun K hK => ?_) AllReadyH.nil
          go_simp
          refine hK.out _ _ trivial (fun hHeld => ?_)
          clear hK K
          exact hrest w1 hb1
        · refine step_calls rfl 22 [.const (.int .i64 64)] #[3] rfl [.int .i64 64] (by simp [Act.eval]) entZ ?_
          refine (zeros_any 64 _ (by omega)).mono ?_
          rintro e w1 ⟨rfl, hb1⟩
          refine .inl ⟨_, rfl, ?_⟩
          rw [nulB64]
          have hb1 : Below wr.heap.size wr w1 := (Below.refl _ _).drew.trans hb1
          have kc := (hb1.cell (p := ⟨p, 0, none⟩) kq).trans k0
          refine hK.out _ _ trivial (fun hHeld => ?_)
          clear hK K
          simp only [List.getElem_toArray, List.getElem_cons_succ, List.getElem_cons_zero, Act.put, List.setIfInBounds_toArray, List.set_cons_zero, List.set_cons_succ]
          refine wpAnyH_ready (rs := [4, 6]) (by kernel_rfl) (by simp) ?_
          refine AllReadyH.cons rfl (fun K hK => ?_) (AllReadyH.cons rfl (fun K hK => ?_) AllReadyH.nil)
          · go_simp
            refine hK.out _ _ trivial (fun hHeld => ?_)
            clear hK K
            refine wpAnyH_ready (rs := [6]) (by kernel_rfl) (by simp) ?_
            refine AllReadyH.cons rfl (fun K hK => ?_) AllReadyH.nil
            go_simp
            refine hK.out _ _ trivial (fun hHeld => ?_)
            clear hK K
            rw [Array.setIfInBounds_comm true true (show (5 : Nat) ≠ 4 by decide)]
            exact hrest w1 hb1
          · go_simp
            refine hK.out _ _ trivial (fun hHeld => ?_)
            clear hK K
            refine wpAnyH_ready (rs := [4]) (by kernel_rfl) (by simp) ?_
            refine AllReadyH.cons rfl (fun K hK => ?_) AllReadyH.nil
            have ka := ((Below.refl w1.heap.size w1).alloc (Nat.le_refl _) (.cells #[.string zeroS] 9)).cell (p := ⟨p, 0, none⟩) (Nat.lt_of_lt_of_le kq hb1.size) |>.trans kc
            go_simp
            refine hK.out _ _ trivial (fun hHeld => ?_)
            clear hK K
            rw [Array.setIfInBounds_comm true true (show (6 : Nat) ≠ 4 by decide), Array.setIfInBounds_comm true true (show (5 : Nat) ≠ 4 by decide)]
            exact hrest w1 hb1
      intro w1 hb1
      have hq1 := (unhide HQ1).below hb1
      have hZ1 : p ≤ w1.heap.size := Nat.le_trans HZ hb1.size
      have hB1 := (unhide HB).trans (hb1.mono HZ)
      have hbA := (Below.refl w1.heap.size w1).alloc (Nat.le_refl _) (.cells #[.string zeroS] 9)
      have hqA := hq1.below hbA
      have hBA := hB1.trans (hbA.mono hZ1)
      have hZA : p ≤ (w1.alloc (.cells #[.string zeroS] 9)).heap.size := Nat.le_trans hZ1 hbA.size
      have hblA := heap_alloc_new w1 (.cells #[.string zeroS] 9)
      clear hbA hq1 hB1
      generalize w1.alloc (.cells #[.string zeroS] 9) = wAa at *
      obtain ⟨ka0, ka1, kaf, kaq⟩ := hqA.cells
      have kf0 := kaf 0
      refine wpAnyH_ready (rs := [7]) (by kernel_rfl) (by simp) ?_
      refine AllReadyH.cons rfl (fun K hK => ?_) AllReadyH.nil
      refine step_op rfl (wp_append_lies wAa (.tmp 16) (.tmp 18) 41 rfl p 9 i0 _ 1 16 Tryd.underlying41 hi7 hz0 hz1 hz2 rfl (by omega) (.slice sk k ck) k (strL (fun _ => zeroS) k) rfl hqA.kept ⟨w1.heap.size, 0, none⟩ 1 1 [.string zeroS] rfl rfl (World.news_of_block hblA) (fun u hu => by rw [List.mem_singleton.1 hu]; rfl) (by omega) (by unfold maxLen; omega) (by omega) hZA _ rfl ?_)
      intro ga capa w6 hown hgrow hat hlt6
      have hnew := hqA.addK ga capa hgrow hown (hat.imp id (fun e => by omega))
      have hpn : some p ≠ (Value.slice sk k ck).ownBlock := fun e => hqA.pk p ((blk_own p).1 e.symm) rfl
      have k6 := (hgrow.cell_far ⟨p, 0, none⟩ kaq hpn).trans ka0
      have f6 := (hgrow.frozen_far ⟨p, 0, none⟩ kaq hpn).trans kf0
      have HQa := hide hnew.1
      have HBa := hide (hBA.trans (hnew.2 hZA))
      have HZa : p ≤ (w6.setCell ⟨p, 0, none⟩ (.slice (some ⟨ga, 0, none⟩) (k + 1) capa)).heap.size := Nat.le_trans hZA (hnew.2 hZA).size
      refine hK.out _ _ trivial (fun hHeld => ?_)
      clear hK K hnew hown hgrow hat
      simp only [List.getElem_toArray, List.getElem_cons_succ, List.getElem_cons_zero, Act.put, List.setIfInBounds_toArray, List.set_cons_zero, List.set_cons_succ]
      refine wpAnyH_ready (rs := [8]) (by kernel_rfl) (by simp) ?_
      refine AllReadyH.cons rfl (fun K hK => ?_) AllReadyH.nil
      go_simp
      refine hK.out _ _ trivial (fun hHeld => ?_)
      clear hK K
      refine wpAnyH_ready (rs := [9]) (by kernel_rfl) (by simp) ?_
      refine AllReadyH.cons rfl (fun K hK => ?_) AllReadyH.nil
      go_simp
      refine hK.out _ _ trivial (fun hHeld => ?_)
      clear hK K
      refine wpAnyH_ready (rs := [10]) (by kernel_rfl) (by simp) ?_
      refine AllReadyH.cons rfl (fun K hK => ?_) AllReadyH.nil
      go_simp
      refine hK.out _ _ trivial (fun hHeld => ?_)
      clear hK K
      refine wpAnyH_done (by kernel_rfl) ?_ _
      clear hHeld k6 f6 hblA hqA hBA hZA ka0 ka1 kaf kaq kf0 hpn hZ1 hb1
      generalize w6.setCell ⟨p, 0, none⟩ (.slice (some ⟨ga, 0, none⟩) (k + 1) capa) = w7a at *
      clear k0 k1 kf kq HQ1 HB HZ
      go_upto_region 6 with fail
      obtain ⟨k0, k1, kf, kq⟩ := (unhide HQa).cells
      refine wp_region_held_drew (S := fun _ => True) (by kernel_rfl) trivial (fun hHeld => ?_)
      refine wpAnyH_take (i := 0) (v := .pointer (some ⟨p, 0, none⟩)) rfl (by kernel_rfl) (by kernel_rfl) (by kernel_rfl) (fun _ _ _ h => h) (Or.inl ⟨by rfl, ?_⟩) hHeld ?_
      · intro w' _
        go_simp
      simp only [List.getElem_toArray, List.getElem_cons_zero, Act.put, List.setIfInBounds_toArray, List.set_cons_zero, List.set_cons_succ]
      refine wpAnyH_take (i := 1) (v := .pointer (some ⟨p, 0, none⟩)) rfl (by kernel_rfl) (by kernel_rfl) (by kernel_rfl) (fun _ _ _ h => h) (Or.inl ⟨by rfl, ?_⟩) hHeld ?_
      · intro w' _
        go_simp
      simp only [List.getElem_toArray, List.getElem_cons_succ, List.getElem_cons_zero, Act.put, List.setIfInBounds_toArray, List.set_cons_zero, List.set_cons_succ]
      refine wpAnyH_take (i := 2) (v := .pointer (some ⟨p, 0, none⟩)) rfl (by kernel_rfl) (by kernel_rfl) (by kernel_rfl) (fun _ _ _ h => h) (Or.inl ⟨by rfl, ?_⟩) hHeld ?_
      · intro w' _
        go_simp
      simp only [List.getElem_toArray, List.getElem_cons_succ, List.getElem_cons_zero, Act.put, List.setIfInBounds_toArray, List.set_cons_zero, List.set_cons_succ]
      refine wpAnyH_take (i := 3) (v := .pointer (some ⟨p, 1, none⟩)) rfl (by kernel_rfl) (by kernel_rfl) (by kernel_rfl) (fun _ _ _ h => h) (Or.inl ⟨by rfl, ?_⟩) hHeld ?_
      · intro w' _
        go_simp
      simp only [List.getElem_toArray, List.getElem_cons_succ, List.getElem_cons_zero, Act.put, List.setIfInBounds_toArray, List.set_cons_zero, List.set_cons_succ]
      apply onceE5 (fun w1 => Below w7a.heap.size w7a w1)
      · intro hrest
        refine wpAnyH_ready (rs := [4, 5]) (by kernel_rfl) (by simp) ?_
        refine AllReadyH.cons rfl (fun K hK => ?_) (AllReadyH.cons rfl (fun K hK => ?_) AllReadyH.nil)
        · go_simp
          refine hK.out _ _ trivial (fun hHeld => ?_)
          clear hK K
          refine wpAnyH_ready (rs := [5]) (by kernel_rfl) (by simp) ?_
          refine AllReadyH.cons rfl (fun K hK => ?_) AllReadyH.nil
          refine step_calls rfl 22 [.const (.int .i64 64)] #[3] rfl [.int .i64 64] (by simp [Act.eval]) entZ ?_
          refine (zeros_any 64 _ (by omega)).mono ?_
          rintro e w1 ⟨rfl, hb1⟩
          refine .inl ⟨_, rfl, ?_⟩
          rw [nulB64]
          have hb1 : Below w7a.heap.size w7a w1 := (Below.refl _ _).drew.trans hb1
          have kc := (hb1.cell (p := ⟨p, 1, none⟩) kq).trans k1
          refine hK.out _ _ trivial (fun hHeld => ?_)
          clear hK K
          simp only [List.getElem_toArray, List.getElem_cons_succ, List.getElem_cons_zero, Act.put, List.setIfInBounds_toArray, List.set_cons_zero, List.set_cons_succ]
          refine wpAnyH_ready (rs := [6]) (by kernel_rfl) (by simp) ?_
          refine AllReadyH.cons rfl (fun K hK => ?_) AllReadyH.nil
          go_simp
          refine hK.out _ _ trivial (fun hHeld => ?_)
          clear hK K
          exact hrest w1 hb1
        · refine step_calls rfl 22 [.const (.int .i64 64)] #[3] rfl [.int .i64 64] (by simp [Act.eval]) entZ ?_
          refine (zeros_any 64 _ (by omega)).mono ?_
          rintro e w1 ⟨rfl, hb1⟩
          refine .inl ⟨_, rfl, ?_⟩
          rw [nulB64]
          have hb1 : Below w7a.heap.size w7a w1 := (Below.refl _ _).drew.trans hb1
          have kc := (hb1.cell (p := ⟨p, 1, none⟩) kq).trans k1
          refine hK.out _ _ trivial (fun hHeld => ?_)
          clear hK K
          simp only [List.getElem_toArray, List.getElem_cons_succ, List.getElem_cons_zero, Act.put, List.setIfInBounds_toArray, List.set_cons_zero, List.set_cons_succ]
          refine wpAnyH_ready (rs := [4, 6]) (by kernel_rfl) (by simp) ?_
          refine AllReadyH.cons rfl (fun K hK => ?_) (AllReadyH.cons rfl (fun K hK => ?_) AllReadyH.nil)
          · go_simp
            refine hK.out _ _ trivial (fun hHeld => ?_)
            clear hK K
            refine wpAnyH_ready (rs := [6]) (by kernel_rfl) (by simp) ?_
            refine AllReadyH.cons rfl (fun K hK => ?_) AllReadyH.nil
            go_simp
            refine hK.out _ _ trivial (fun hHeld => ?_)
            clear hK K
            rw [Array.setIfInBounds_comm true true (show (5 : Nat) ≠ 4 by decide)]
            exact hrest w1 hb1
          · go_simp
            refine hK.out _ _ trivial (fun hHeld => ?_)
            clear hK K
            refine wpAnyH_ready (rs := [4]) (by kernel_rfl) (by simp) ?_
            refine AllReadyH.cons rfl (fun K hK => ?_) AllReadyH.nil
            have ka := ((Below.refl w1.heap.size w1).alloc (Nat.le_refl _) (.cells #[.string zeroS] 9)).cell (p := ⟨p, 1, none⟩) (Nat.lt_of_lt_of_le kq hb1.size) |>.trans kc
            go_simp
            refine hK.out _ _ trivial (fun hHeld => ?_)
            clear hK K
            rw [Array.setIfInBounds_comm true true (show (6 : Nat) ≠ 4 by decide), Array.setIfInBounds_comm true true (show (5 : Nat) ≠ 4 by decide)]
            exact hrest w1 hb1
      intro w1 hb1
      have hq1 := (unhide HQa).below hb1
      have hZ1 : p ≤ w1.heap.size := Nat.le_trans HZa hb1.size
      have hB1 := (unhide HBa).trans (hb1.mono HZa)
      have hbA := (Below.refl w1.heap.size w1).alloc (Nat.le_refl _) (.cells #[.string zeroS] 9)
      have hqA := hq1.below hbA
      have hBA := hB1.trans (hbA.mono hZ1)
      have hZA : p ≤ (w1.alloc (.cells #[.string zeroS] 9)).heap.size := Nat.le_trans hZ1 hbA.size
      have hblA := heap_alloc_new w1 (.cells #[.string zeroS] 9)
      clear hbA hq1 hB1
      generalize w1.alloc (.cells #[.string zeroS] 9) = wAb at *
      obtain ⟨ka0, ka1, kaf, kaq⟩ := hqA.cells
      have kf1 := kaf 1
      refine wpAnyH_ready (rs := [7]) (by kernel_rfl) (by simp) ?_
      refine AllReadyH.cons rfl (fun K hK => ?_) AllReadyH.nil
      refine step_op rfl (wp_append_lies wAb (.tmp 26) (.tmp 28) 41 rfl p 9 i0 _ 1 16 Tryd.underlying41 hi7 hz0 hz1 hz2 rfl (by omega) (.slice sn k cn) k (strL (fun _ => zeroS) k) rfl hqA.now ⟨w1.heap.size, 0, none⟩ 1 1 [.string zeroS] rfl rfl (World.news_of_block hblA) (fun u hu => by rw [List.mem_singleton.1 hu]; rfl) (by omega) (by unfold maxLen; omega) (by omega) hZA _ rfl ?_)
      intro gb capb w6 hown hgrow hat hlt6
      have hnew := hqA.addN gb capb hgrow hown (hat.imp id (fun e => by omega))
      have hpn : some p ≠ (Value.slice sn k cn).ownBlock := fun e => hqA.pn p ((blk_own p).1 e.symm) rfl
      have k6 := (hgrow.cell_far ⟨p, 1, none⟩ kaq hpn).trans ka1
      have f6 := (hgrow.frozen_far ⟨p, 1, none⟩ kaq hpn).trans kf1
      have HQb := hide hnew.1
      have HBb := hide (hBA.trans (hnew.2 hZA))
      have HZb : p ≤ (w6.setCell ⟨p, 1, none⟩ (.slice (some ⟨gb, 0, none⟩) (k + 1) capb)).heap.size := Nat.le_trans hZA (hnew.2 hZA).size
      refine hK.out _ _ trivial (fun hHeld => ?_)
      clear hK K hnew hown hgrow hat
      simp only [List.getElem_toArray, List.getElem_cons_succ, List.getElem_cons_zero, Act.put, List.setIfInBounds_toArray, List.set_cons_zero, List.set_cons_succ]
      refine wpAnyH_ready (rs := [8]) (by kernel_rfl) (by simp) ?_
      refine AllReadyH.cons rfl (fun K hK => ?_) AllReadyH.nil
      go_simp
      refine hK.out _ _ trivial (fun hHeld => ?_)
      clear hK K
      refine wpAnyH_ready (rs := [9]) (by kernel_rfl) (by simp) ?_
      refine AllReadyH.cons rfl (fun K hK => ?_) AllReadyH.nil
      go_simp
      refine hK.out _ _ trivial (fun hHeld => ?_)
      clear hK K
      refine wpAnyH_ready (rs := [10]) (by kernel_rfl) (by simp) ?_
      refine AllReadyH.cons rfl (fun K hK => ?_) AllReadyH.nil
      go_simp
      refine hK.out _ _ trivial (fun hHeld => ?_)
      clear hK K
      refine wpAnyH_done (by kernel_rfl) ?_ _
      clear hHeld k6 f6 hblA hqA hBA hZA ka0 ka1 kaf kaq kf1 hpn hZ1 hb1
      generalize w6.setCell ⟨p, 1, none⟩ (.slice (some ⟨gb, 0, none⟩) (k + 1) capb) = w7b at *
      clear k0 k1 kf kq HQa HBa HZa
      go_wp2
      go_roundw
      case rel => exact ⟨k + 1, by go_num, by omega, ⟨_, _, _, _, unhide HQb⟩, HBb, HZb⟩
      case measure => simp [intOf]; omega
    · obtain rfl : k = n := by omega
      have dk : decide ((k : Int) < (k : Int)) = false := by simp
      go_wp2
      go_ret
      have hl : ∀ b, b ∈ (blkS sk).toList ++ ((blkS sn).toList ++ (blkS none).toList) → p ≤ b := fun b hb => by
        rcases List.mem_append.1 hb with hb | hb
        · exact (hq.kept.lt b ((blk_own b).2 hb)).1
        rcases List.mem_append.1 hb with hb | hb
        · exact (hq.now.lt b ((blk_own b).2 hb)).1
        · simp [blkS] at hb
      refine ⟨p, p :: ((blkS sk).toList ++ ((blkS sn).toList ++ (blkS none).toList)), rfl, ⟨sk, ck, sn, cn, none, 0, rfl, ⟨hq.box, own_rebase hq.kept (Nat.zero_le _), own_rebase hq.now (Nat.zero_le _), World.ownsRow_nil _ _ _ _, fun k e => (by cases e), mp_nd (blkS_nd _) (blkS_nd _) (blkS_nd _) hq.pk hq.pn (fun k hk => (by simp [blkS] at hk)) hq.ap (fun k _ hm => (by simp [blkS] at hm)) (fun k _ hm => (by simp [blkS] at hm))⟩⟩, fun b hb => ?_, ?_⟩
      · rw [← unhide HPE]
        rcases List.mem_cons.1 hb with rfl | hb
        · exact Nat.le_refl _
        · exact hl b hb
      · rw [← unhide HPE]
        exact unhide HB
end Go.Proofs.YthkecbgifajmmaaDoor
