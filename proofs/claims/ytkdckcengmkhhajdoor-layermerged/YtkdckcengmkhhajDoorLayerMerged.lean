/- Layers merged at the top: the whole is the same: the law. -/
import Derived.Test.YtkdckcengmkhhajDoorMg10
import Derived.Test.YtkdckcengmkhhajDoorLyM3
import Derived.Test.YtkdckcengmkhhajDoorLyA
import Derived.Test.YtkdckcengmkhhajDoorLyT
import Derived.Test.YtkdckcengmkhhajDoorMg16
namespace Go.Proofs.YtkdckcengmkhhajDoor
open Go.RowKit

theorem run_field0m (w : World) (x y : Int) : (Instr.field 28 (.agg #[.int .i64 x, .int .i64 y]) 0).run Tryd.prog w = .ok (.int .i64 x) w := by
  simp [Instr.field, part, asAgg, run_underlying Tryd.underlying28]
/-- What all become is a layer that may be. -/
theorem chk_mrg {W H n : Nat} {L : Nat → Ly} {z : Int} (h : Chk (W : Int) (H : Int) (n + 1) L 0 z) (q : Nat → Px) : Chk (W : Int) (H : Int) 1 (fun _ => mrgL (L n).name W H (W * H) q) 0 z := by
  obtain ⟨⟨s1, s2, _⟩, e, hw⟩ := h.all
  obtain ⟨⟨h1, _⟩, _, _⟩ := wrN_zero (hw n (by omega))
  refine .inr (.inl ⟨⟨s1, s2, by omega⟩, rfl, e, fun j hj => wrN_fine ⟨h1, fun ⟨i, hi, _⟩ => by omega⟩ ?_ ?_⟩)
  · unfold Pl mrgL
    exact ⟨⟨by show (-10000 : Int) ≤ 0; omega, by show (0 : Int) ≤ 10000; omega⟩, ⟨by show (-10000 : Int) ≤ 0; omega, by show (0 : Int) ≤ 10000; omega⟩, ⟨by show (0 : Int) ≤ 255; omega, by show (255 : Int) ≤ 255; omega⟩, ⟨by show (0 : Int) ≤ 0; omega, by show (0 : Int) ≤ 5; omega⟩⟩
  · exact ⟨s1, s2, by show ((W * H : Nat) : Int) = (W : Int) * (H : Int); simp⟩
theorem fst_top {W H : Int} {n : Nat} {L : Nat → Ly} {z : Int} (h : Chk W H (n + 1) L 0 z) : Fst L (n + 1) (L n).name (n : Int) := by
  obtain ⟨⟨_, h2⟩, _, _⟩ := wrN_zero (h.all.2.2 n (by omega))
  exact .inr ⟨n, by omega, rfl, rfl, h2⟩
theorem seen_mrg (t : ByteArray) (W H : Nat) (L : Nat → Ly) (n i : Nat) (hi : i < W * H) : grid W (seenP (fun _ => mrgL t W H (W * H) (grid W (seenP L n))) 1) i = grid W (seenP L n) i := by
  have hW : 0 < W := by
    rcases Nat.eq_zero_or_pos W with h | h
    · subst h; simp at hi
    · exact h
  have hx : i % W < W := Nat.mod_lt _ hW
  have hy : i / W < H := Nat.div_lt_of_lt_mul hi
  show lay _ (i % W) (i / W) ⟨0, 0, 0, 0⟩ = seenP L n (i % W) (i / W)
  exact lay_whole _ W H (i % W) (i / W) (seenP L n) rfl rfl rfl rfl rfl rfl rfl (fun x y hx _ => grid_at W _ x y hx) (cln_seen L n _ _) hx hy

set_option maxHeartbeats 16000000 in
set_option maxRecDepth 100000 in
theorem layerMerged_any (W H : Int) (s : Option Addr) (n c : Nat) (L : Nat → Ly) (a : Nat → Option Addr) (cp : Nat → Nat) (w : World) (aS : Nat → Addr) (hS : Told w [1, 2, 4, 5] aS) (hL : IsLy w s n L a cp) (hZ : ∀ i, i < n → (L i).n ≤ 140737488355328) :
    Calls Tryd.prog 5 #[.agg #[.int .i64 W, .int .i64 H, .slice s n c]] w fun e w' => e = .returned (.bool true) ∧ Below w.heap.size w w' := by
  have hS : Er3 w aS := ⟨fun i hi => hS i (by simp; omega)⟩
  obtain ⟨cc, zz, hC⟩ := chk_ex W H n L
  have HSW := hide (fun wr (hb : Below w.heap.size w wr) => hS.below hb)
  have HLW := hide (fun wr (hb : Below w.heap.size w wr) => hL.below hb)
  have HT := hide (fun wr (hb : Below w.heap.size w wr) => tame_any W H s n c L a cp wr (hL.below hb) hZ)
  have HCk := hide (fun wr (hb : Below w.heap.size w wr) => checkOf_any W H s n c L a cp wr (hL.below hb) cc zz hC)
  have HDo := hide (fun wr (hb : Below w.heap.size w wr) (hn : n ≤ 12) hz => docOfR_any W H s n c L a cp wr (hL.below hb) hn hz)
  have HChk := hide hC
  have hfd := run_field0m
  have hHA0 := hide (al1 w (.cells #[.int .i64 W, .int .i64 H, .slice s n c] 24))
  obtain ⟨B, hB⟩ : ∃ B, B = w.heap.size := ⟨_, rfl⟩
  clear hS hL hZ hC
  go_enter Tryd.func5, Tryd.ntmps5
  go_wp2_with fail
  generalize w.alloc (.cells #[.int .i64 W, .int .i64 H, .slice s n c] 24) = w1 at *
  rw [← hB] at HSW HLW HT HCk HDo hHA0 ⊢
  obtain ⟨hs0, kB, hb0⟩ := unhide hHA0
  have HB := hide hb0
  have HBE := hide hB
  have hBs : B + 1 ≤ w1.heap.size := by omega
  clear hHA0 hb0 hs0 hB
  refine (still_any _ aS (unhide HSW _ (unhide HB))).mono ?_
  rintro e w2 ⟨rfl, hb2⟩
  have hsz := hb2.size
  have kB := blk_below kB hb2 (blk_lt kB)
  have HB := hide ((unhide HB).trans (hb2.mono (by omega)))
  have hBs : B + 1 ≤ w2.heap.size := by omega
  clear hb2 hsz
  have d0 : w2.cell? ⟨B, 0, none⟩ = some (.int .i64 W) := blk_cell kB 0
  have d1 : w2.cell? ⟨B, 1, none⟩ = some (.int .i64 H) := blk_cell kB 1
  have d2 : w2.cell? ⟨B, 2, none⟩ = some (.slice s n c) := blk_cell kB 2
  have hld : B < w2.heap.size := blk_lt kB
  go_wp2_with fail
  clear d0 d1 d2 hld
  refine (unhide HT _ (unhide HB)).mono ?_
  rintro e w3 ⟨⟨r, rfl, hr⟩, hb3⟩
  have hsz := hb3.size
  have kB := blk_below kB hb3 (blk_lt kB)
  have HB := hide ((unhide HB).trans (hb3.mono (by omega)))
  have hBs : B + 1 ≤ w3.heap.size := by omega
  clear hb3 hsz
  rcases r with _ | _
  · clear HT HCk HDo HLW HSW HChk kB
    go_wp2
    go_ret
    exact ⟨rfl, bel_at (unhide HBE) (unhide HB)⟩
  obtain ⟨hn12, hz4⟩ := hr rfl
  have HZ4 := hide hz4
  clear hr hz4 HT
  have d0 : w3.cell? ⟨B, 0, none⟩ = some (.int .i64 W) := blk_cell kB 0
  have d1 : w3.cell? ⟨B, 1, none⟩ = some (.int .i64 H) := blk_cell kB 1
  have d2 : w3.cell? ⟨B, 2, none⟩ = some (.slice s n c) := blk_cell kB 2
  have hld : B < w3.heap.size := blk_lt kB
  go_wp2_with fail
  clear d0 d1 d2 hld
  refine (unhide HCk _ (unhide HB)).mono ?_
  rintro e w4 ⟨rfl, hb4⟩
  have hsz := hb4.size
  have kB := blk_below kB hb4 (blk_lt kB)
  have HB := hide ((unhide HB).trans (hb4.mono (by omega)))
  have hBs : B + 1 ≤ w4.heap.size := by omega
  clear hb4 hsz
  by_cases h0 : cc = 0
  rotate_left
  · have hpos : decide ((cc : Int) > 0) = true := decide_eq_true (by omega)
    have hpos' : decide ((0 : Int) < (cc : Int)) = true := hpos
    have hposn : decide (0 < cc) = true := decide_eq_true (by omega)
    clear HCk HDo HLW HSW HChk kB
    go_wp2
    go_ret
    exact ⟨rfl, bel_at (unhide HBE) (unhide HB)⟩
  obtain rfl := h0
  obtain ⟨⟨hw, hh, _⟩, hR⟩ := (unhide HChk).fine
  clear HCk
  obtain ⟨W, rfl⟩ := Int.eq_ofNat_of_zero_le (show 0 ≤ W by omega)
  obtain ⟨H, rfl⟩ := Int.eq_ofNat_of_zero_le (show 0 ≤ H by omega)
  have d0 : w4.cell? ⟨B, 0, none⟩ = some (.int .i64 (W : Int)) := blk_cell kB 0
  have d1 : w4.cell? ⟨B, 1, none⟩ = some (.int .i64 (H : Int)) := blk_cell kB 1
  have d2 : w4.cell? ⟨B, 2, none⟩ = some (.slice s n c) := blk_cell kB 2
  have hld : B < w4.heap.size := blk_lt kB
  by_cases hn0 : n = 0
  · subst hn0
    clear HDo HLW HSW HChk kB
    go_wp2
    go_ret
    exact ⟨rfl, bel_at (unhide HBE) (unhide HB)⟩
  obtain ⟨m, rfl⟩ : ∃ m, n = m + 1 := ⟨n - 1, by omega⟩
  have g0 : (((m + 1 : Nat) : Int) == 0) = false := by simp; omega
  have HFl := hide (fun n2 (L2 : Nat → Ly) s2 c2 a2 p2 wr (hb : Below B w wr) (hc2 : Chk (W : Int) (H : Int) n2 L2 0 zz) (hl : IsLy wr s2 n2 L2 a2 p2) hc => flatten_ok W H s2 n2 c2 L2 a2 p2 wr aS (unhide HSW _ hb) hl zz hc2 hc)
  have HMg := hide (fun s2 c2 a2 p2 wr (hb : Below B w wr) (hl : IsLy wr s2 (m + 1) L a2 p2) hc => merge_ok W H s2 m c2 (L m).name L a2 p2 wr aS (unhide HSW _ hb) hl hc zz (unhide HChk) (chk_mrg (unhide HChk) _) (fst_top (unhide HChk)))
  have HC3 := hide (chk_mrg (unhide HChk) (grid W (seenP L (m + 1))))
  have HM : Hid (W * H ≤ 65536) := Nat.mul_le_mul (show W ≤ 256 by omega) (show H ≤ 256 by omega)
  clear hR hw hh
  go_wp2_with fail
  clear d0 d1 d2 hld
  refine (unhide HDo _ (unhide HB) hn12 (unhide HZ4)).mono ?_
  rintro e w5 ⟨s3, c3, a3, p3, rfl, ho3, hx3, hb5⟩
  have HL3 := hide (own_ly ho3 (by unfold maxLen; omega) (fun j hj => (hx3 j hj).is))
  have hc3 := own_cap ho3
  clear ho3 hx3
  have hsz := hb5.size
  have kB := blk_below kB hb5 (blk_lt kB)
  have HB := hide ((unhide HB).trans (hb5.mono (by omega)))
  have hBs : B + 1 ≤ w5.heap.size := by omega
  clear hb5 hsz
  go_wp2_with fail
  refine (unhide HFl (m + 1) L s3 c3 a3 p3 _ (unhide HB) (unhide HChk) (unhide HL3) hc3).mono ?_
  rintro e w6 ⟨ai1, ci1, rfl, hp1, hb6⟩
  have HP1 := hide hp1
  clear hp1 HL3
  have hsz := hb6.size
  have kB := blk_below kB hb6 (blk_lt kB)
  have HB := hide ((unhide HB).trans (hb6.mono (by omega)))
  have hBs : B + 1 ≤ w6.heap.size := by omega
  clear hb6 hsz
  have hHA := hide (al1 w6 (.cells #[.int .i64 (W : Int), .int .i64 (H : Int), .slice ai1 (W * H) ci1] 32))
  go_wp2_with fail
  generalize w6.alloc (.cells #[.int .i64 (W : Int), .int .i64 (H : Int), .slice ai1 (W * H) ci1] 32) = w7 at *
  obtain ⟨hsA, kP1, hbA⟩ := unhide hHA
  obtain ⟨P1, hP1⟩ : ∃ T, T = w6.heap.size := ⟨_, rfl⟩
  rw [← hP1] at kP1 ⊢
  have hgeP1 : B + 1 ≤ P1 := by omega
  clear hHA hP1 hsA
  have hsz := hbA.size
  have kB := blk_below kB hbA (blk_lt kB)
  have HP1 := hide ((unhide HP1).below hbA)
  have HB := hide ((unhide HB).trans (hbA.mono (by omega)))
  have hBs : B + 1 ≤ w7.heap.size := by omega
  clear hbA hsz
  obtain ⟨b, off, rfl, hmx, hlc⟩ := (unhide HLW _ (unhide HB)).row.resolve_left (by omega)
  have nm := (hlc m (by omega)).c0
  have hlb := (hlc m (by omega)).lt
  clear hlc
  have d0 : w7.cell? ⟨B, 0, none⟩ = some (.int .i64 (W : Int)) := blk_cell kB 0
  have d1 : w7.cell? ⟨B, 1, none⟩ = some (.int .i64 (H : Int)) := blk_cell kB 1
  have d2 : w7.cell? ⟨B, 2, none⟩ = some (.slice (some ⟨b, off, none⟩) (m + 1) c) := blk_cell kB 2
  have hld : B < w7.heap.size := blk_lt kB
  have hdr := (Below.refl w7.heap.size w7).drew
  have KS := hide (fun (w' : World) (h : Below w7.heap.size w7 w') => (⟨(h.cell (p := ⟨B, 0, none⟩) hld).trans d0, (h.cell (p := ⟨B, 1, none⟩) hld).trans d1, (h.cell (p := ⟨B, 2, none⟩) hld).trans d2, (h.cell (p := ⟨b, off + m * 9, none⟩) hlb).trans nm⟩ : w'.cell? ⟨B, 0, none⟩ = some (.int .i64 (W : Int)) ∧ w'.cell? ⟨B, 1, none⟩ = some (.int .i64 (H : Int)) ∧ w'.cell? ⟨B, 2, none⟩ = some (.slice (some ⟨b, off, none⟩) (m + 1) c) ∧ w'.cell? ⟨b, off + m * 9, none⟩ = some (.string (L m).name)))
  have hwm : IntKind.i64.wrap (((m + 1 : Nat) : Int) - 1) = (m : Int) := by rw [IntKind.wrap_i64]; omega
  refine wp_region_held_drew (S := fun w' => w'.cell? ⟨B, 0, none⟩ = some (.int .i64 (W : Int)) ∧ w'.cell? ⟨B, 1, none⟩ = some (.int .i64 (H : Int)) ∧ w'.cell? ⟨B, 2, none⟩ = some (.slice (some ⟨b, off, none⟩) (m + 1) c) ∧ w'.cell? ⟨b, off + m * 9, none⟩ = some (.string (L m).name)) (by kernel_rfl) ⟨d0, d1, d2, nm⟩ (fun hHeld => ?_)
  refine wpAnyH_take (i := 0) (v := .agg #[.int .i64 (W : Int), .int .i64 (H : Int), .slice (some ⟨b, off, none⟩) (m + 1) c]) rfl (by kernel_rfl) (by kernel_rfl) (by kernel_rfl) (fun _ _ _ h => h) (Or.inl ⟨by rfl, ?_⟩) hHeld ?_
  · intro w' hSw
    try dsimp only at hSw
    go_simp
  simp only [Act.put, List.setIfInBounds_toArray]
  refine wpAnyH_take (i := 2) (v := .pointer (some ⟨B, 2, none⟩)) rfl (by kernel_rfl) (by kernel_rfl) (by kernel_rfl) (fun _ _ _ h => h) (Or.inl ⟨by rfl, ?_⟩) hHeld ?_
  · intro w' hSw
    try dsimp only at hSw
    go_simp
  simp only [Act.put]
  refine wpAnyH_take (i := 3) (v := .slice (some ⟨b, off, none⟩) (m + 1) c) rfl (by kernel_rfl) (by kernel_rfl) (by kernel_rfl) (fun _ _ _ h => h) (Or.inl ⟨by rfl, ?_⟩) hHeld ?_
  · intro w' hSw
    try dsimp only at hSw
    go_simp
  simp only [Act.put]
  refine wpAnyH_take (i := 4) (v := .pointer (some ⟨B, 2, none⟩)) rfl (by kernel_rfl) (by kernel_rfl) (by kernel_rfl) (fun _ _ _ h => h) (Or.inl ⟨by rfl, ?_⟩) hHeld ?_
  · intro w' hSw
    try dsimp only at hSw
    go_simp
  simp only [Act.put]
  refine wpAnyH_take (i := 5) (v := .slice (some ⟨b, off, none⟩) (m + 1) c) rfl (by kernel_rfl) (by kernel_rfl) (by kernel_rfl) (fun _ _ _ h => h) (Or.inl ⟨by rfl, ?_⟩) hHeld ?_
  · intro w' hSw
    try dsimp only at hSw
    go_simp
  simp only [Act.put]
  refine wpAnyH_take (i := 6) (v := .int .i64 ((m + 1 : Nat) : Int)) rfl (by kernel_rfl) (by kernel_rfl) (by kernel_rfl) (fun _ _ _ h => h) (Or.inl ⟨by rfl, ?_⟩) hHeld ?_
  · intro w' hSw
    try dsimp only at hSw
    go_simp
  simp only [Act.put]
  refine wpAnyH_take (i := 7) (v := .int .i64 (m : Int)) rfl (by kernel_rfl) (by kernel_rfl) (by kernel_rfl) (fun _ _ _ h => h) (Or.inl ⟨by rfl, ?_⟩) hHeld ?_
  · intro w' hSw
    try dsimp only at hSw
    go_simp
    rw [IntKind.wrap_i64]; omega
  simp only [Act.put]
  refine wpAnyH_take (i := 8) (v := .pointer (some ⟨b, off + m * 9, none⟩)) rfl (by kernel_rfl) (by kernel_rfl) (by kernel_rfl) (fun _ _ _ h => h) (Or.inl ⟨by rfl, ?_⟩) hHeld ?_
  · intro w' hSw
    try dsimp only at hSw
    go_simp
    intro hq
    exact absurd hq (by omega)
  simp only [Act.put]
  refine wpAnyH_take (i := 9) (v := .pointer (some ⟨b, off + m * 9, none⟩)) rfl (by kernel_rfl) (by kernel_rfl) (by kernel_rfl) (fun _ _ _ h => h) (Or.inl ⟨by rfl, ?_⟩) hHeld ?_
  · intro w' hSw
    try dsimp only at hSw
    go_simp
  simp only [Act.put]
  refine wpAnyH_take (i := 10) (v := .string (L m).name) rfl (by kernel_rfl) (by kernel_rfl) (by kernel_rfl) (fun _ _ _ h => h) (Or.inl ⟨by rfl, ?_⟩) hHeld ?_
  · intro w' hSw
    try dsimp only at hSw
    go_simp
  simp only [Act.put]
  refine wpAnyH_ready (rs := [1, 15]) (by kernel_rfl) (by simp) ?_
  refine AllReadyH.cons rfl (fun K hK => ?_) (AllReadyH.cons rfl (fun K hK => ?_) AllReadyH.nil)
  · skip
    go_simp
    go_wp2_with (first | (go_at_call 11; refine (unhide HDo _ ((unhide HB).drew) hn12 (unhide HZ4)).mono ?_; rintro e wd ⟨sD, cD, aD, pD, rfl, hoD, hxD, hbD⟩; have hqD := hdr.trans (hbD.mono hdr.size)))
    have HLD := hide (own_ly hoD (by unfold maxLen; omega) (fun j hj => (hxD j hj).is))
    have hcD := own_cap hoD
    clear hoD hxD
    refine hK.out _ _ (unhide KS _ hqD) (fun hHeld => ?_)
    clear hK K
    try simp only [Act.put, List.setIfInBounds_toArray, List.set_cons_zero, List.set_cons_succ]
    refine wpAnyH_ready (rs := [11, 15]) (by kernel_rfl) (by simp) ?_
    refine AllReadyH.cons rfl (fun K hK => ?_) (AllReadyH.cons rfl (fun K hK => ?_) AllReadyH.nil)
    · skip
      go_simp
      go_wp2_with (first | (go_at_call 21; refine (unhide HMg sD cD aD pD _ ((unhide HB).trans (hqD.mono (by omega))) (unhide HLD) hcD).mono ?_; rintro e wm ⟨g4, c4, a4, p4, rfl, hl4, hc4, hbM⟩; have hqM := hqD.trans (hbM.mono hqD.size)))
      refine hK.out _ _ (unhide KS _ hqM) (fun hHeld => ?_)
      clear hK K
      try simp only [Act.put, List.setIfInBounds_toArray, List.set_cons_zero, List.set_cons_succ]
      refine wpAnyH_take (i := 12) (v := .tuple #[.agg #[.int .i64 (W : Int), .int .i64 (H : Int), .slice (some ⟨g4, 0, none⟩) 1 c4], .nilIface]) rfl (by kernel_rfl) (by kernel_rfl) (by kernel_rfl) (fun _ _ _ h => h) (Or.inl ⟨by rfl, ?_⟩) hHeld ?_
      · intro w' hSw
        try dsimp only at hSw
        go_simp
      simp only [Act.put]
      refine wpAnyH_take (i := 13) (v := .agg #[.int .i64 (W : Int), .int .i64 (H : Int), .slice (some ⟨g4, 0, none⟩) 1 c4]) rfl (by kernel_rfl) (by kernel_rfl) (by kernel_rfl) (fun _ _ _ h => h) (Or.inl ⟨by rfl, ?_⟩) hHeld ?_
      · intro w' hSw
        try dsimp only at hSw
        go_simp
      simp only [Act.put]
      refine wpAnyH_take (i := 14) (v := .nilIface) rfl (by kernel_rfl) (by kernel_rfl) (by kernel_rfl) (fun _ _ _ h => h) (Or.inl ⟨by rfl, ?_⟩) hHeld ?_
      · intro w' hSw
        try dsimp only at hSw
        go_simp
      simp only [Act.put]
      refine wpAnyH_ready (rs := [15]) (by kernel_rfl) (by simp) ?_
      refine AllReadyH.cons rfl (fun K hK => ?_) AllReadyH.nil
      go_simp
      have hA1 := al1 wm (.cells #[.int .i64 0, .int .i64 0, .slice none 0 0] 39)
      have hq6 := hqM.trans (hA1.below.mono hqM.size)
      refine hK.out _ _ (unhide KS _ hq6) (fun hHeld => ?_)
      clear hK K
      try simp only [Act.put, List.setIfInBounds_toArray, List.set_cons_zero, List.set_cons_succ]
      refine wpAnyH_ready (rs := [16]) (by kernel_rfl) (by simp) ?_
      refine AllReadyH.cons rfl (fun K hK => ?_) AllReadyH.nil
      have hA2 := al1 wm (.cells #[.int .i64 (W : Int), .int .i64 (H : Int), .slice (some ⟨g4, 0, none⟩) 1 c4] 39)
      have kM := hA2.k0
      have hqS := hqM.trans (hA2.below.mono hqM.size)
      have hLS := hl4.below hA2.below
      have hlp := blk_lt hA2.k0
      clear hA2
      go_simp
      generalize wm.alloc (.cells #[.int .i64 (W : Int), .int .i64 (H : Int), .slice (some ⟨g4, 0, none⟩) 1 c4] 39) = wS at *
      clear hA1 hq6
      refine hK.out _ _ (unhide KS _ hqS) (fun hHeld => ?_)
      clear hK K
      try simp only [Act.put, List.setIfInBounds_toArray, List.set_cons_zero, List.set_cons_succ]
      have hszR := hqM.size
      clear hqM hbM hl4 hqD hbD HLD
      refine wpAnyH_take (i := 17) (v := .nilIface) rfl (by kernel_rfl) (by kernel_rfl) (by kernel_rfl) (fun _ _ _ h => h) (Or.inl ⟨by rfl, ?_⟩) hHeld ?_
      · intro w' hSw
        try dsimp only at hSw
        go_simp
      simp only [Act.put]
      refine wpAnyH_done (by kernel_rfl) ?_ _
      have HL4 := hide hLS
      clear hLS hHeld hdr KS HMg HDo HLW d0 d1 d2 nm hwm
      obtain ⟨Mb, hMb⟩ : ∃ T, T = wm.heap.size := ⟨_, rfl⟩
      rw [← hMb] at kM ⊢
      have hgeM : B + 1 ≤ Mb := by omega
      clear hMb
      have hsz := hqS.size
      have kB := blk_below kB hqS (blk_lt kB)
      have kP1 := blk_below kP1 hqS (blk_lt kP1)
      have HP1 := hide ((unhide HP1).below hqS)
      have HB := hide ((unhide HB).trans (hqS.mono (by omega)))
      have hBs : B + 1 ≤ wS.heap.size := by omega
      clear hqS hsz
      have e0 : wS.cell? ⟨Mb, 0, none⟩ = some (.int .i64 (W : Int)) := blk_cell kM 0
      have e1 : wS.cell? ⟨Mb, 1, none⟩ = some (.int .i64 (H : Int)) := blk_cell kM 1
      have e2 : wS.cell? ⟨Mb, 2, none⟩ = some (.slice (some ⟨g4, 0, none⟩) 1 c4) := blk_cell kM 2
      have hle : Mb < wS.heap.size := blk_lt kM
      go_wp2_with fail
      clear e0 e1 e2 hle
      refine (unhide HFl 1 (fun _ => (mrgL (L m).name W H (W * H) (grid W (seenP L (m + 1))))) (some ⟨g4, 0, none⟩) c4 a4 p4 _ (unhide HB) (unhide HC3) (unhide HL4) hc4).mono ?_
      rintro e w8 ⟨ai2, ci2, rfl, hp2, hb8⟩
      have HP2 := hide (hp2.congr (seen_mrg (L m).name W H L (m + 1)))
      clear hp2
      have hsz := hb8.size
      have kB := blk_below kB hb8 (blk_lt kB)
      have kP1 := blk_below kP1 hb8 (blk_lt kP1)
      have kM := blk_below kM hb8 (blk_lt kM)
      have HP1 := hide ((unhide HP1).below hb8)
      have HL4 := hide ((unhide HL4).below hb8)
      have HB := hide ((unhide HB).trans (hb8.mono (by omega)))
      have hBs : B + 1 ≤ w8.heap.size := by omega
      clear hb8 hsz
      clear HL4
      have x0 : w8.cell? ⟨P1, 0, none⟩ = some (.int .i64 (W : Int)) := blk_cell kP1 0
      have x1 : w8.cell? ⟨P1, 1, none⟩ = some (.int .i64 (H : Int)) := blk_cell kP1 1
      have x2 : w8.cell? ⟨P1, 2, none⟩ = some (.slice ai1 (W * H) ci1) := blk_cell kP1 2
      have hlx : P1 < w8.heap.size := blk_lt kP1
      have hHA := hide (al1 w8 (.cells #[.int .i64 (W : Int), .int .i64 (H : Int), .slice ai2 (W * H) ci2] 32))
      go_wp2_with fail
      clear x0 x1 x2 hlx
      generalize w8.alloc (.cells #[.int .i64 (W : Int), .int .i64 (H : Int), .slice ai2 (W * H) ci2] 32) = w9 at *
      obtain ⟨hsA, kP2, hbA⟩ := unhide hHA
      obtain ⟨P2, hP2⟩ : ∃ T, T = w8.heap.size := ⟨_, rfl⟩
      rw [← hP2] at kP2 ⊢
      have hgeP2 : B + 1 ≤ P2 := by omega
      clear hHA hP2 hsA
      have hsz := hbA.size
      have kB := blk_below kB hbA (blk_lt kB)
      have kP1 := blk_below kP1 hbA (blk_lt kP1)
      have kM := blk_below kM hbA (blk_lt kM)
      have HP1 := hide ((unhide HP1).below hbA)
      have HP2 := hide ((unhide HP2).below hbA)
      have HB := hide ((unhide HB).trans (hbA.mono (by omega)))
      have hBs : B + 1 ≤ w9.heap.size := by omega
      clear hbA hsz
      refine (samePicture_any (W : Int) (H : Int) ai1 ai2 (W * H) ci1 ci2 (grid W (seenP L (m + 1))) _ (unhide HP1) (unhide HP2) (by have := unhide HM; omega)).mono ?_
      rintro e w10 ⟨rfl, hb10⟩
      have hsz := hb10.size
      have kB := blk_below kB hb10 (blk_lt kB)
      have kP1 := blk_below kP1 hb10 (blk_lt kP1)
      have kM := blk_below kM hb10 (blk_lt kM)
      have kP2 := blk_below kP2 hb10 (blk_lt kP2)
      have HP1 := hide ((unhide HP1).below hb10)
      have HP2 := hide ((unhide HP2).below hb10)
      have HB := hide ((unhide HB).trans (hb10.mono (by omega)))
      have hBs : B + 1 ≤ w10.heap.size := by omega
      clear hb10 hsz
      clear HSW HChk HFl HC3 HP1 HP2 HZ4
      go_wp2
      go_ret
      exact ⟨rfl, bel_at (unhide HBE) (unhide HB)⟩
    · skip
      go_simp
      have hA1 := al1 wd (.cells #[.int .i64 0, .int .i64 0, .slice none 0 0] 39)
      have hq6 := hqD.trans (hA1.below.mono hqD.size)
      refine hK.out _ _ (unhide KS _ hq6) (fun hHeld => ?_)
      clear hK K
      try simp only [Act.put, List.setIfInBounds_toArray, List.set_cons_zero, List.set_cons_succ]
      refine wpAnyH_ready (rs := [11]) (by kernel_rfl) (by simp) ?_
      refine AllReadyH.cons rfl (fun K hK => ?_) AllReadyH.nil
      go_simp
      go_wp2_with (first | (go_at_call 21; refine (unhide HMg sD cD aD pD _ ((unhide HB).trans (hq6.mono (by omega))) ((unhide HLD).below hA1.below) hcD).mono ?_; rintro e wm ⟨g4, c4, a4, p4, rfl, hl4, hc4, hbM⟩; have hqM := hq6.trans (hbM.mono hq6.size)))
      refine hK.out _ _ (unhide KS _ hqM) (fun hHeld => ?_)
      clear hK K
      try simp only [Act.put, List.setIfInBounds_toArray, List.set_cons_zero, List.set_cons_succ]
      refine wpAnyH_take (i := 12) (v := .tuple #[.agg #[.int .i64 (W : Int), .int .i64 (H : Int), .slice (some ⟨g4, 0, none⟩) 1 c4], .nilIface]) rfl (by kernel_rfl) (by kernel_rfl) (by kernel_rfl) (fun _ _ _ h => h) (Or.inl ⟨by rfl, ?_⟩) hHeld ?_
      · intro w' hSw
        try dsimp only at hSw
        go_simp
      simp only [Act.put]
      refine wpAnyH_take (i := 13) (v := .agg #[.int .i64 (W : Int), .int .i64 (H : Int), .slice (some ⟨g4, 0, none⟩) 1 c4]) rfl (by kernel_rfl) (by kernel_rfl) (by kernel_rfl) (fun _ _ _ h => h) (Or.inl ⟨by rfl, ?_⟩) hHeld ?_
      · intro w' hSw
        try dsimp only at hSw
        go_simp
      simp only [Act.put]
      refine wpAnyH_take (i := 14) (v := .nilIface) rfl (by kernel_rfl) (by kernel_rfl) (by kernel_rfl) (fun _ _ _ h => h) (Or.inl ⟨by rfl, ?_⟩) hHeld ?_
      · intro w' hSw
        try dsimp only at hSw
        go_simp
      simp only [Act.put]
      refine wpAnyH_ready (rs := [16]) (by kernel_rfl) (by simp) ?_
      refine AllReadyH.cons rfl (fun K hK => ?_) AllReadyH.nil
      have k5 : wm.heap[wd.heap.size]? = some (.cells #[.int .i64 0, .int .i64 0, .slice none 0 0] 39) := blk_below hA1.k0 hbM (blk_lt hA1.k0)
      have hszD := hqD.size
      obtain ⟨⟨z0, z1, z2⟩, f0, f1, f2⟩ := three k5
      have hlp := blk_lt k5
      have kM := put3p_at k5 (.int .i64 (W : Int)) (.int .i64 (H : Int)) (.slice (some ⟨g4, 0, none⟩) 1 c4)
      have hqS := put3p_below hqM (show w7.heap.size ≤ wd.heap.size by omega) (.int .i64 (W : Int)) (.int .i64 (H : Int)) (.slice (some ⟨g4, 0, none⟩) 1 c4)
      have hLS := hl4.put3 k5 (.int .i64 (W : Int)) (.int .i64 (H : Int)) (.slice (some ⟨g4, 0, none⟩) 1 c4)
      unfold put3p at kM hqS hLS
      go_simp
      go_wp2_with fail
      generalize ((wm.setCell ⟨wd.heap.size, 0, none⟩ (.int .i64 (W : Int))).setCell ⟨wd.heap.size, 1, none⟩ (.int .i64 (H : Int))).setCell ⟨wd.heap.size, 2, none⟩ (.slice (some ⟨g4, 0, none⟩) 1 c4) = wS at *
      refine hK.out _ _ (unhide KS _ hqS) (fun hHeld => ?_)
      clear hK K
      try simp only [Act.put, List.setIfInBounds_toArray, List.set_cons_zero, List.set_cons_succ]
      clear hqM hbM hl4 hqD hbD HLD hA1 hq6 k5 z0 z1 z2 f0 f1 f2
      refine wpAnyH_take (i := 17) (v := .nilIface) rfl (by kernel_rfl) (by kernel_rfl) (by kernel_rfl) (fun _ _ _ h => h) (Or.inl ⟨by rfl, ?_⟩) hHeld ?_
      · intro w' hSw
        try dsimp only at hSw
        go_simp
      simp only [Act.put]
      refine wpAnyH_done (by kernel_rfl) ?_ _
      have HL4 := hide hLS
      clear hLS hHeld hdr KS HMg HDo HLW d0 d1 d2 nm hwm
      obtain ⟨Mb, hMb⟩ : ∃ T, T = wd.heap.size := ⟨_, rfl⟩
      rw [← hMb] at kM ⊢
      have hgeM : B + 1 ≤ Mb := by omega
      clear hMb
      have hsz := hqS.size
      have kB := blk_below kB hqS (blk_lt kB)
      have kP1 := blk_below kP1 hqS (blk_lt kP1)
      have HP1 := hide ((unhide HP1).below hqS)
      have HB := hide ((unhide HB).trans (hqS.mono (by omega)))
      have hBs : B + 1 ≤ wS.heap.size := by omega
      clear hqS hsz
      have e0 : wS.cell? ⟨Mb, 0, none⟩ = some (.int .i64 (W : Int)) := blk_cell kM 0
      have e1 : wS.cell? ⟨Mb, 1, none⟩ = some (.int .i64 (H : Int)) := blk_cell kM 1
      have e2 : wS.cell? ⟨Mb, 2, none⟩ = some (.slice (some ⟨g4, 0, none⟩) 1 c4) := blk_cell kM 2
      have hle : Mb < wS.heap.size := blk_lt kM
      go_wp2_with fail
      clear e0 e1 e2 hle
      refine (unhide HFl 1 (fun _ => (mrgL (L m).name W H (W * H) (grid W (seenP L (m + 1))))) (some ⟨g4, 0, none⟩) c4 a4 p4 _ (unhide HB) (unhide HC3) (unhide HL4) hc4).mono ?_
      rintro e w31 ⟨ai2, ci2, rfl, hp2, hb31⟩
      have HP2 := hide (hp2.congr (seen_mrg (L m).name W H L (m + 1)))
      clear hp2
      have hsz := hb31.size
      have kB := blk_below kB hb31 (blk_lt kB)
      have kP1 := blk_below kP1 hb31 (blk_lt kP1)
      have kM := blk_below kM hb31 (blk_lt kM)
      have HP1 := hide ((unhide HP1).below hb31)
      have HL4 := hide ((unhide HL4).below hb31)
      have HB := hide ((unhide HB).trans (hb31.mono (by omega)))
      have hBs : B + 1 ≤ w31.heap.size := by omega
      clear hb31 hsz
      clear HL4
      have x0 : w31.cell? ⟨P1, 0, none⟩ = some (.int .i64 (W : Int)) := blk_cell kP1 0
      have x1 : w31.cell? ⟨P1, 1, none⟩ = some (.int .i64 (H : Int)) := blk_cell kP1 1
      have x2 : w31.cell? ⟨P1, 2, none⟩ = some (.slice ai1 (W * H) ci1) := blk_cell kP1 2
      have hlx : P1 < w31.heap.size := blk_lt kP1
      have hHA := hide (al1 w31 (.cells #[.int .i64 (W : Int), .int .i64 (H : Int), .slice ai2 (W * H) ci2] 32))
      go_wp2_with fail
      clear x0 x1 x2 hlx
      generalize w31.alloc (.cells #[.int .i64 (W : Int), .int .i64 (H : Int), .slice ai2 (W * H) ci2] 32) = w32 at *
      obtain ⟨hsA, kP2, hbA⟩ := unhide hHA
      obtain ⟨P2, hP2⟩ : ∃ T, T = w31.heap.size := ⟨_, rfl⟩
      rw [← hP2] at kP2 ⊢
      have hgeP2 : B + 1 ≤ P2 := by omega
      clear hHA hP2 hsA
      have hsz := hbA.size
      have kB := blk_below kB hbA (blk_lt kB)
      have kP1 := blk_below kP1 hbA (blk_lt kP1)
      have kM := blk_below kM hbA (blk_lt kM)
      have HP1 := hide ((unhide HP1).below hbA)
      have HP2 := hide ((unhide HP2).below hbA)
      have HB := hide ((unhide HB).trans (hbA.mono (by omega)))
      have hBs : B + 1 ≤ w32.heap.size := by omega
      clear hbA hsz
      refine (samePicture_any (W : Int) (H : Int) ai1 ai2 (W * H) ci1 ci2 (grid W (seenP L (m + 1))) _ (unhide HP1) (unhide HP2) (by have := unhide HM; omega)).mono ?_
      rintro e w33 ⟨rfl, hb33⟩
      have hsz := hb33.size
      have kB := blk_below kB hb33 (blk_lt kB)
      have kP1 := blk_below kP1 hb33 (blk_lt kP1)
      have kM := blk_below kM hb33 (blk_lt kM)
      have kP2 := blk_below kP2 hb33 (blk_lt kP2)
      have HP1 := hide ((unhide HP1).below hb33)
      have HP2 := hide ((unhide HP2).below hb33)
      have HB := hide ((unhide HB).trans (hb33.mono (by omega)))
      have hBs : B + 1 ≤ w33.heap.size := by omega
      clear hb33 hsz
      clear HSW HChk HFl HC3 HP1 HP2 HZ4
      go_wp2
      go_ret
      exact ⟨rfl, bel_at (unhide HBE) (unhide HB)⟩
  · skip
    go_simp
    have hA1 := al1 w7.drew (.cells #[.int .i64 0, .int .i64 0, .slice none 0 0] 39)
    have hq6 := hdr.trans (hA1.below.mono hdr.size)
    refine hK.out _ _ (unhide KS _ hq6) (fun hHeld => ?_)
    clear hK K
    try simp only [Act.put, List.setIfInBounds_toArray, List.set_cons_zero, List.set_cons_succ]
    refine wpAnyH_ready (rs := [1]) (by kernel_rfl) (by simp) ?_
    refine AllReadyH.cons rfl (fun K hK => ?_) AllReadyH.nil
    go_simp
    go_wp2_with (first | (go_at_call 11; refine (unhide HDo _ ((unhide HB).trans (hq6.mono (by omega))) hn12 (unhide HZ4)).mono ?_; rintro e wd ⟨sD, cD, aD, pD, rfl, hoD, hxD, hbD⟩; have hqD := hq6.trans (hbD.mono hq6.size)))
    have HLD := hide (own_ly hoD (by unfold maxLen; omega) (fun j hj => (hxD j hj).is))
    have hcD := own_cap hoD
    clear hoD hxD
    refine hK.out _ _ (unhide KS _ hqD) (fun hHeld => ?_)
    clear hK K
    try simp only [Act.put, List.setIfInBounds_toArray, List.set_cons_zero, List.set_cons_succ]
    refine wpAnyH_ready (rs := [11]) (by kernel_rfl) (by simp) ?_
    refine AllReadyH.cons rfl (fun K hK => ?_) AllReadyH.nil
    go_simp
    go_wp2_with (first | (go_at_call 21; refine (unhide HMg sD cD aD pD _ ((unhide HB).trans (hqD.mono (by omega))) (unhide HLD) hcD).mono ?_; rintro e wm ⟨g4, c4, a4, p4, rfl, hl4, hc4, hbM⟩; have hqM := hqD.trans (hbM.mono hqD.size)))
    refine hK.out _ _ (unhide KS _ hqM) (fun hHeld => ?_)
    clear hK K
    try simp only [Act.put, List.setIfInBounds_toArray, List.set_cons_zero, List.set_cons_succ]
    refine wpAnyH_take (i := 12) (v := .tuple #[.agg #[.int .i64 (W : Int), .int .i64 (H : Int), .slice (some ⟨g4, 0, none⟩) 1 c4], .nilIface]) rfl (by kernel_rfl) (by kernel_rfl) (by kernel_rfl) (fun _ _ _ h => h) (Or.inl ⟨by rfl, ?_⟩) hHeld ?_
    · intro w' hSw
      try dsimp only at hSw
      go_simp
    simp only [Act.put]
    refine wpAnyH_take (i := 13) (v := .agg #[.int .i64 (W : Int), .int .i64 (H : Int), .slice (some ⟨g4, 0, none⟩) 1 c4]) rfl (by kernel_rfl) (by kernel_rfl) (by kernel_rfl) (fun _ _ _ h => h) (Or.inl ⟨by rfl, ?_⟩) hHeld ?_
    · intro w' hSw
      try dsimp only at hSw
      go_simp
    simp only [Act.put]
    refine wpAnyH_take (i := 14) (v := .nilIface) rfl (by kernel_rfl) (by kernel_rfl) (by kernel_rfl) (fun _ _ _ h => h) (Or.inl ⟨by rfl, ?_⟩) hHeld ?_
    · intro w' hSw
      try dsimp only at hSw
      go_simp
    simp only [Act.put]
    refine wpAnyH_ready (rs := [16]) (by kernel_rfl) (by simp) ?_
    refine AllReadyH.cons rfl (fun K hK => ?_) AllReadyH.nil
    have k5 : wm.heap[w7.heap.size]? = some (.cells #[.int .i64 0, .int .i64 0, .slice none 0 0] 39) := blk_below (blk_below hA1.k0 hbD (blk_lt hA1.k0)) hbM (blk_lt (blk_below hA1.k0 hbD (blk_lt hA1.k0)))
    obtain ⟨⟨z0, z1, z2⟩, f0, f1, f2⟩ := three k5
    have hlp := blk_lt k5
    have kM := put3p_at k5 (.int .i64 (W : Int)) (.int .i64 (H : Int)) (.slice (some ⟨g4, 0, none⟩) 1 c4)
    have hqS := put3p_below hqM (show w7.heap.size ≤ w7.heap.size by omega) (.int .i64 (W : Int)) (.int .i64 (H : Int)) (.slice (some ⟨g4, 0, none⟩) 1 c4)
    have hLS := hl4.put3 k5 (.int .i64 (W : Int)) (.int .i64 (H : Int)) (.slice (some ⟨g4, 0, none⟩) 1 c4)
    unfold put3p at kM hqS hLS
    go_simp
    go_wp2_with fail
    generalize ((wm.setCell ⟨w7.heap.size, 0, none⟩ (.int .i64 (W : Int))).setCell ⟨w7.heap.size, 1, none⟩ (.int .i64 (H : Int))).setCell ⟨w7.heap.size, 2, none⟩ (.slice (some ⟨g4, 0, none⟩) 1 c4) = wS at *
    refine hK.out _ _ (unhide KS _ hqS) (fun hHeld => ?_)
    clear hK K
    try simp only [Act.put, List.setIfInBounds_toArray, List.set_cons_zero, List.set_cons_succ]
    clear hqM hbM hl4 hqD hbD HLD hA1 hq6 k5 z0 z1 z2 f0 f1 f2
    refine wpAnyH_take (i := 17) (v := .nilIface) rfl (by kernel_rfl) (by kernel_rfl) (by kernel_rfl) (fun _ _ _ h => h) (Or.inl ⟨by rfl, ?_⟩) hHeld ?_
    · intro w' hSw
      try dsimp only at hSw
      go_simp
    simp only [Act.put]
    refine wpAnyH_done (by kernel_rfl) ?_ _
    have HL4 := hide hLS
    clear hLS hHeld hdr KS HMg HDo HLW d0 d1 d2 nm hwm
    obtain ⟨Mb, hMb⟩ : ∃ T, T = w7.heap.size := ⟨_, rfl⟩
    rw [← hMb] at kM ⊢
    have hgeM : B + 1 ≤ Mb := by omega
    clear hMb
    have hsz := hqS.size
    have kB := blk_below kB hqS (blk_lt kB)
    have kP1 := blk_below kP1 hqS (blk_lt kP1)
    have HP1 := hide ((unhide HP1).below hqS)
    have HB := hide ((unhide HB).trans (hqS.mono (by omega)))
    have hBs : B + 1 ≤ wS.heap.size := by omega
    clear hqS hsz
    have e0 : wS.cell? ⟨Mb, 0, none⟩ = some (.int .i64 (W : Int)) := blk_cell kM 0
    have e1 : wS.cell? ⟨Mb, 1, none⟩ = some (.int .i64 (H : Int)) := blk_cell kM 1
    have e2 : wS.cell? ⟨Mb, 2, none⟩ = some (.slice (some ⟨g4, 0, none⟩) 1 c4) := blk_cell kM 2
    have hle : Mb < wS.heap.size := blk_lt kM
    go_wp2_with fail
    clear e0 e1 e2 hle
    refine (unhide HFl 1 (fun _ => (mrgL (L m).name W H (W * H) (grid W (seenP L (m + 1))))) (some ⟨g4, 0, none⟩) c4 a4 p4 _ (unhide HB) (unhide HC3) (unhide HL4) hc4).mono ?_
    rintro e w74 ⟨ai2, ci2, rfl, hp2, hb74⟩
    have HP2 := hide (hp2.congr (seen_mrg (L m).name W H L (m + 1)))
    clear hp2
    have hsz := hb74.size
    have kB := blk_below kB hb74 (blk_lt kB)
    have kP1 := blk_below kP1 hb74 (blk_lt kP1)
    have kM := blk_below kM hb74 (blk_lt kM)
    have HP1 := hide ((unhide HP1).below hb74)
    have HL4 := hide ((unhide HL4).below hb74)
    have HB := hide ((unhide HB).trans (hb74.mono (by omega)))
    have hBs : B + 1 ≤ w74.heap.size := by omega
    clear hb74 hsz
    clear HL4
    have x0 : w74.cell? ⟨P1, 0, none⟩ = some (.int .i64 (W : Int)) := blk_cell kP1 0
    have x1 : w74.cell? ⟨P1, 1, none⟩ = some (.int .i64 (H : Int)) := blk_cell kP1 1
    have x2 : w74.cell? ⟨P1, 2, none⟩ = some (.slice ai1 (W * H) ci1) := blk_cell kP1 2
    have hlx : P1 < w74.heap.size := blk_lt kP1
    have hHA := hide (al1 w74 (.cells #[.int .i64 (W : Int), .int .i64 (H : Int), .slice ai2 (W * H) ci2] 32))
    go_wp2_with fail
    clear x0 x1 x2 hlx
    generalize w74.alloc (.cells #[.int .i64 (W : Int), .int .i64 (H : Int), .slice ai2 (W * H) ci2] 32) = w75 at *
    obtain ⟨hsA, kP2, hbA⟩ := unhide hHA
    obtain ⟨P2, hP2⟩ : ∃ T, T = w74.heap.size := ⟨_, rfl⟩
    rw [← hP2] at kP2 ⊢
    have hgeP2 : B + 1 ≤ P2 := by omega
    clear hHA hP2 hsA
    have hsz := hbA.size
    have kB := blk_below kB hbA (blk_lt kB)
    have kP1 := blk_below kP1 hbA (blk_lt kP1)
    have kM := blk_below kM hbA (blk_lt kM)
    have HP1 := hide ((unhide HP1).below hbA)
    have HP2 := hide ((unhide HP2).below hbA)
    have HB := hide ((unhide HB).trans (hbA.mono (by omega)))
    have hBs : B + 1 ≤ w75.heap.size := by omega
    clear hbA hsz
    refine (samePicture_any (W : Int) (H : Int) ai1 ai2 (W * H) ci1 ci2 (grid W (seenP L (m + 1))) _ (unhide HP1) (unhide HP2) (by have := unhide HM; omega)).mono ?_
    rintro e w76 ⟨rfl, hb76⟩
    have hsz := hb76.size
    have kB := blk_below kB hb76 (blk_lt kB)
    have kP1 := blk_below kP1 hb76 (blk_lt kP1)
    have kM := blk_below kM hb76 (blk_lt kM)
    have kP2 := blk_below kP2 hb76 (blk_lt kP2)
    have HP1 := hide ((unhide HP1).below hb76)
    have HP2 := hide ((unhide HP2).below hb76)
    have HB := hide ((unhide HB).trans (hb76.mono (by omega)))
    have hBs : B + 1 ≤ w76.heap.size := by omega
    clear hb76 hsz
    clear HSW HChk HFl HC3 HP1 HP2 HZ4
    go_wp2
    go_ret
    exact ⟨rfl, bel_at (unhide HBE) (unhide HB)⟩
end Go.Proofs.YtkdckcengmkhhajDoor
