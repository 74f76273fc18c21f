/- Grids: errors; a grid that is nil; tiles in which two are unlike: the program's. -/
import Derived.Test.YtcicbafdacfbpaiGreatDoorTj2
namespace Go.Proofs.YtcicbafdacfbpaiGreatDoor
open Go.RowKit

theorem of_shape (W H : Int) (a : Option Addr) (n c : Nat) (w : World) (tE : TypeId) (vE : Value) (hE : w.cell? ⟨0, 0, none⟩ = some (.iface tE vE)) (hR : ¬ RightP W H n) :
    Calls Tryz.prog 9 #[.agg #[.int .i64 W, .int .i64 H, .slice a n c]] w fun e w' => e = .returned (.tuple #[.pointer none, .iface tE vE]) ∧ Below w.heap.size w w' := by
  have HA := hide (al1 w (.cells #[.int .i64 W, .int .i64 H, .slice a n c] 24))
  have HR := hide (fun w => isRight_any W H a n c w)
  rw [decide_eq_false hR] at HR
  have hg := World.block_lt_of_cell? _ _ hE
  simp only at hg
  clear hR
  go_enter Tryz.func9, Tryz.ntmps9
  go_wp2_with fail
  generalize w.alloc (.cells #[.int .i64 W, .int .i64 H, .slice a n c] 24) = w1 at *
  refine (unhide HR w1).mono ?_
  rintro e w2 ⟨rfl, hb2⟩
  have hb12 := (unhide HA).below.trans (hb2.mono (by have := (unhide HA).size; omega))
  have hE2 := tcell hb12 hg hE
  have HB := hide (fun nn => belowD (n := nn) hb12)
  clear hb2 hb12 HA HR hE
  go_wp2
  go_quiet (fail)
  go_wp2
  go_ret2
  exact ⟨rfl, unhide HB _⟩

theorem picture_nil (w : World) :
    Calls Tryz.prog 20 #[.pointer none] w fun e w' => e = .returned (.agg #[.int .i64 0, .int .i64 0, .slice none 0 0]) ∧ Below w.heap.size w w' := by
  have HA := hide (al1 w (.cells #[.int .i64 0, .int .i64 0, .slice none 0 0] 24))
  have HN := hide isNone_nil
  go_enter Tryz.func20, Tryz.ntmps20
  go_wp2_with fail
  generalize w.alloc (.cells #[.int .i64 0, .int .i64 0, .slice none 0 0] 24) = w1 at *
  obtain ⟨B, hB⟩ : ∃ B, B = w.heap.size := ⟨_, rfl⟩
  rw [← hB] at HA ⊢
  obtain ⟨hs1, kz, hb1⟩ := unhide HA
  refine (unhide HN w1).mono ?_
  rintro e w2 ⟨rfl, hw⟩
  have hw := hw.symm
  subst hw
  have z0 : w1.cell? ⟨B, 0, none⟩ = some (.int .i64 0) := blk_cell kz 0
  have z1 : w1.cell? ⟨B, 1, none⟩ = some (.int .i64 0) := blk_cell kz 1
  have z2 : w1.cell? ⟨B, 2, none⟩ = some (.slice none 0 0) := blk_cell kz 2
  have f0 := blk_frozen kz 0
  have f1 := blk_frozen kz 1
  have f2 := blk_frozen kz 2
  have hzl := blk_lt kz
  have HB1 := hide hb1
  have HBE := hide hB
  clear kz hb1 hB HA HN
  go_wp2
  refine bodyPost_ret (v := .agg #[.int .i64 0, .int .i64 0, .slice none 0 0]) ?_ rfl ⟨rfl, ?_⟩
  · rw [results_cellP (p := 2) (ty := 24) (by kernel_rfl)]
    go_simp
  · rw [← unhide HBE]
    exact (((unhide HB1).setCell (p := ⟨B, 0, none⟩) (Nat.le_refl _) _).setCell (p := ⟨B, 1, none⟩) (Nat.le_refl _) _).setCell (p := ⟨B, 2, none⟩) (Nat.le_refl _) _

theorem at_nil (x y : Int) (w : World) (tE : TypeId) (vE : Value) (hE : w.cell? ⟨0, 0, none⟩ = some (.iface tE vE)) :
    Calls Tryz.prog 28 #[.pointer none, .int .i64 x, .int .i64 y] w fun e w' => e = .returned (.tuple #[.agg #[.int .u8 0, .int .u8 0, .int .u8 0, .int .u8 0], .iface tE vE]) ∧ Below w.heap.size w w' := by
  have HA := hide (al1 w (.cells #[.int .u8 0, .int .u8 0, .int .u8 0, .int .u8 0] 39))
  have HN := hide isNone_nil
  have hg := World.block_lt_of_cell? _ _ hE
  simp only at hg
  go_enter Tryz.func28, Tryz.ntmps28
  go_wp2_with fail
  generalize w.alloc (.cells #[.int .u8 0, .int .u8 0, .int .u8 0, .int .u8 0] 39) = w1 at *
  obtain ⟨B, hB⟩ : ∃ B, B = w.heap.size := ⟨_, rfl⟩
  rw [← hB] at HA hg ⊢
  obtain ⟨hs1, kz, hb1⟩ := unhide HA
  have hE1 := (hb1.cell (p := ⟨0, 0, none⟩) hg).trans hE
  refine (unhide HN w1).mono ?_
  rintro e w2 ⟨rfl, hw⟩
  have hw := hw.symm
  subst hw
  have z0 : w1.cell? ⟨B, 0, none⟩ = some (.int .u8 0) := blk_cell kz 0
  have z1 : w1.cell? ⟨B, 1, none⟩ = some (.int .u8 0) := blk_cell kz 1
  have z2 : w1.cell? ⟨B, 2, none⟩ = some (.int .u8 0) := blk_cell kz 2
  have z3 : w1.cell? ⟨B, 3, none⟩ = some (.int .u8 0) := blk_cell kz 3
  have f0 := blk_frozen kz 0
  have f1 := blk_frozen kz 1
  have f2 := blk_frozen kz 2
  have f3 := blk_frozen kz 3
  have hzl := blk_lt kz
  have hne : B ≠ 0 := by omega
  have HB1 := hide hb1
  have HBE := hide hB
  clear kz hb1 hB HA HN hE
  go_wp2
  go_region
  all_goals
    go_wp2
    refine bodyPost_ret (v := .tuple #[.agg #[.int .u8 0, .int .u8 0, .int .u8 0, .int .u8 0], .iface tE vE]) ?_ rfl ⟨rfl, ?_⟩
    · rw [results_cell_tmp (p := 6) (u := 7) (ty := 39) (by kernel_rfl)]
      go_simp
    · rw [← unhide HBE]
      exact ((((unhide HB1).drew.setCell (p := ⟨B, 0, none⟩) (Nat.le_refl _) _).setCell (p := ⟨B, 1, none⟩) (Nat.le_refl _) _).setCell (p := ⟨B, 2, none⟩) (Nat.le_refl _) _).setCell (p := ⟨B, 3, none⟩) (Nat.le_refl _) _

theorem tfill_nil (X Y RW RH : Int) (q : Px) (w : World) (tE : TypeId) (vE : Value) (hE : w.cell? ⟨0, 0, none⟩ = some (.iface tE vE)) :
    Calls Tryz.prog 17 #[.pointer none, .agg #[.int .i64 X, .int .i64 Y, .int .i64 RW, .int .i64 RH], q.val] w fun e w' => e = .returned (.tuple #[.pointer none, .iface tE vE]) ∧ Below w.heap.size w w' := by
  have HA := hide (al2 w (.cells #[.int .i64 X, .int .i64 Y, .int .i64 RW, .int .i64 RH] 37) (.cells #[.int .u8 (q.r.toNat : Int), .int .u8 (q.g.toNat : Int), .int .u8 (q.b.toNat : Int), .int .u8 (q.a.toNat : Int)] 39))
  have HN := hide isNone_nil
  have hg := World.block_lt_of_cell? _ _ hE
  simp only at hg
  unfold Px.val
  go_enter Tryz.func17, Tryz.ntmps17
  go_wp2_with fail
  generalize ((w.alloc (.cells #[.int .i64 X, .int .i64 Y, .int .i64 RW, .int .i64 RH] 37)).alloc (.cells #[.int .u8 (q.r.toNat : Int), .int .u8 (q.g.toNat : Int), .int .u8 (q.b.toNat : Int), .int .u8 (q.a.toNat : Int)] 39)) = w1 at *
  have hb1 := (unhide HA).below
  have hE1 := (hb1.cell (p := ⟨0, 0, none⟩) hg).trans hE
  refine (unhide HN w1).mono ?_
  rintro e w2 ⟨rfl, hw⟩
  have hw := hw.symm
  subst hw
  have HB := hide (fun nn => belowD (n := nn) hb1)
  clear HA HN hE hb1
  go_wp2
  go_quiet (fail)
  go_wp2
  go_ret2
  exact ⟨rfl, unhide HB _⟩

theorem tstamp_nil (W H : Int) (a : Option Addr) (n c : Nat) (X Y Z : Int) (w : World) (tE : TypeId) (vE : Value) (hE : w.cell? ⟨0, 0, none⟩ = some (.iface tE vE)) :
    Calls Tryz.prog 11 #[.pointer none, .agg #[.int .i64 W, .int .i64 H, .slice a n c], .int .i64 X, .int .i64 Y, .int .i64 Z] w fun e w' => e = .returned (.tuple #[.pointer none, .iface tE vE]) ∧ Below w.heap.size w w' := by
  have HA := hide (al4 w (.cells #[.int .i64 W, .int .i64 H, .slice a n c] 24) (.cells #[.int .i64 X] 3) (.cells #[.int .i64 Y] 3) (.cells #[.int .i64 Z] 3))
  have HN := hide isNone_nil
  have hg := World.block_lt_of_cell? _ _ hE
  simp only at hg
  go_enter Tryz.func11, Tryz.ntmps11
  go_wp2_with fail
  generalize ((((w.alloc (.cells #[.int .i64 W, .int .i64 H, .slice a n c] 24)).alloc (.cells #[.int .i64 X] 3)).alloc (.cells #[.int .i64 Y] 3)).alloc (.cells #[.int .i64 Z] 3)) = w1 at *
  have hb1 := (unhide HA).below
  have hE1 := (hb1.cell (p := ⟨0, 0, none⟩) hg).trans hE
  refine (unhide HN w1).mono ?_
  rintro e w2 ⟨rfl, hw⟩
  have hw := hw.symm
  subst hw
  have HB := hide (fun nn => belowD (n := nn) hb1)
  clear HA HN hE hb1
  go_wp2
  go_quiet (fail)
  go_wp2
  go_ret2
  exact ⟨rfl, unhide HB _⟩

theorem pack_nil (w : World) :
    Calls Tryz.prog 24 #[.pointer none] w fun e w' => e = .returned (.string ⟨#[]⟩) ∧ w' = w := by
  have HN := hide isNone_nil
  go_enter Tryz.func24, Tryz.ntmps24
  go_wp2_with fail
  refine (unhide HN w).mono ?_
  rintro e w2 ⟨rfl, hw⟩
  have hw := hw.symm
  subst hw
  go_wp2
  go_ret
  exact ⟨rfl, rfl⟩

theorem changed_nil (g W H : Nat) (m : Nat → Nat) (q : Nat → Nat → Px) (w : World) (hG : GridAt w g W H m q) (h0 : 0 < tn W H) (tE : TypeId) (vE : Value) (hE : w.cell? ⟨0, 0, none⟩ = some (.iface tE vE)) :
    Calls Tryz.prog 21 #[.pointer (some ⟨g, 0, none⟩), .pointer none] w fun e w' => e = .returned (.tuple #[.slice none 0 0, .iface tE vE]) ∧ Below w.heap.size w w' := by
  have HA := hide (al2 w (.cells #[.pointer (some ⟨g, 0, none⟩)] 28) (.cells #[.pointer none] 28))
  have hg := World.block_lt_of_cell? _ _ hE
  simp only at hg
  have HN1 := hide (fun wx (h : GridAt wx g W H m q) => isNone_some g W H m q wx h h0)
  have HN2 := hide isNone_nil
  have HG := hide (fun nn => (hG.below (unhide HA).below).below (belowD (n := nn) (Below.refl _ _)))
  clear hG
  go_enter Tryz.func21, Tryz.ntmps21
  go_wp2
  generalize (w.alloc (.cells #[.pointer (some ⟨g, 0, none⟩)] 28)).alloc (.cells #[.pointer none] 28) = w1 at *
  obtain ⟨B, hB⟩ : ∃ B, B = w.heap.size := ⟨_, rfl⟩
  rw [← hB] at HA hg ⊢
  obtain ⟨hs1, k0, k1, hb1⟩ := unhide HA
  have c0 : w1.cell? ⟨B, 0, none⟩ = some (.pointer (some ⟨g, 0, none⟩)) := blk_cell k0 0
  have c1 : w1.cell? ⟨B + 1, 0, none⟩ = some (.pointer none) := blk_cell k1 0
  have hl0 := blk_lt k0
  have hl1 := blk_lt k1
  have hE1 := (hb1.cell (p := ⟨0, 0, none⟩) hg).trans hE
  have HB := hide (fun n1 n2 => belowD (n := n2) (belowD (n := n1) hb1))
  have HBE := hide hB
  clear HA k0 k1 hb1 hE hB
  go_quiet (first | (go_at_call_of 35 g; exact Calls.quiet_of_same (unhide HN1 _ (unhide HG _))) | (go_at_call 35; exact Calls.quiet_of_same (unhide HN2 _)))
  go_wp2
  go_quiet (fail)
  go_wp2
  go_ret2
  rw [← unhide HBE]
  exact ⟨rfl, unhide HB _ _⟩

set_option maxHeartbeats 1000000 in
theorem changed_other (g h W H V U : Nat) (m m' : Nat → Nat) (q q' : Nat → Nat → Px) (w : World) (hG : GridAt w g W H m q) (hH : GridAt w h V U m' q') (h0 : 0 < tn W H) (h0' : 0 < tn V U) (hne : ¬ (W = V ∧ H = U)) (tE : TypeId) (vE : Value) (hE : w.cell? ⟨0, 0, none⟩ = some (.iface tE vE)) :
    Calls Tryz.prog 21 #[.pointer (some ⟨g, 0, none⟩), .pointer (some ⟨h, 0, none⟩)] w fun e w' => e = .returned (.tuple #[.slice none 0 0, .iface tE vE]) ∧ Below w.heap.size w w' := by
  have HA := hide (al2 w (.cells #[.pointer (some ⟨g, 0, none⟩)] 28) (.cells #[.pointer (some ⟨h, 0, none⟩)] 28))
  have hg := World.block_lt_of_cell? _ _ hE
  simp only at hg
  have HN : Hid (∀ wx x, x = g ∨ x = h → Below w.heap.size w wx → Calls Tryz.prog 35 #[.pointer (some ⟨x, 0, none⟩)] wx fun e w' => e = .returned (.bool false) ∧ w' = wx) := fun wx x hx hb => by
    rcases hx with rfl | rfl
    · exact isNone_some _ W H m q wx (hG.below hb) h0
    · exact isNone_some _ V U m' q' wx (hH.below hb) h0'
  obtain ⟨t, c, h1, _⟩ := hG
  obtain ⟨s, d, i1, _⟩ := hH
  have hdW : ¬ ((W : Int) = (V : Int) ∧ (H : Int) = (U : Int)) := fun e => hne (by omega)
  go_enter Tryz.func21, Tryz.ntmps21
  go_wp2
  generalize (w.alloc (.cells #[.pointer (some ⟨g, 0, none⟩)] 28)).alloc (.cells #[.pointer (some ⟨h, 0, none⟩)] 28) = w1 at *
  obtain ⟨B, hB⟩ : ∃ B, B = w.heap.size := ⟨_, rfl⟩
  rw [← hB] at HA HN hg ⊢
  obtain ⟨hs1, k0, k1, hb1⟩ := unhide HA
  have c0 : w1.cell? ⟨B, 0, none⟩ = some (.pointer (some ⟨g, 0, none⟩)) := blk_cell k0 0
  have c1 : w1.cell? ⟨B + 1, 0, none⟩ = some (.pointer (some ⟨h, 0, none⟩)) := blk_cell k1 0
  have hl0 := blk_lt k0
  have hl1 := blk_lt k1
  have hgl : g < B := by have := blk_lt h1; omega
  have hhl : h < B := by have := blk_lt i1; omega
  have h1' := blk_below h1 hb1 hgl
  have i1' := blk_below i1 hb1 hhl
  have g0 : w1.cell? ⟨g, 0, none⟩ = some (.int .i64 (W : Int)) := blk_cell h1' 0
  have g1 : w1.cell? ⟨g, 1, none⟩ = some (.int .i64 (H : Int)) := blk_cell h1' 1
  have e0 : w1.cell? ⟨h, 0, none⟩ = some (.int .i64 (V : Int)) := blk_cell i1' 0
  have e1 : w1.cell? ⟨h, 1, none⟩ = some (.int .i64 (U : Int)) := blk_cell i1' 1
  have hE1 := (hb1.cell (p := ⟨0, 0, none⟩) hg).trans hE
  have HB := hide (fun n1 n2 => belowD (n := n2) (belowD (n := n1) hb1))
  have HB1 := hide (fun n1 => belowD (n := n1) hb1)
  have HBE := hide hB
  clear HA k0 k1 hb1 hE hB h1 i1 h1' i1' hne
  by_cases hw : (W : Int) = (V : Int)
  · have hh : ¬ (H : Int) = (U : Int) := fun e => hdW ⟨hw, e⟩
    have hhd := decide_eq_false hh
    have hwd := decide_eq_true hw
    clear hdW
    go_quiet (first | (go_at_call 35; exact Calls.quiet_of_same (unhide HN _ _ (by first | exact .inl rfl | exact .inr rfl) (unhide HB1 _))))
    go_wp2
    go_quiet (fail)
    go_wp2
    go_ret2
    rw [← unhide HBE]
    exact ⟨rfl, unhide HB _ _⟩
  · have hwd := decide_eq_false hw
    clear hdW
    go_quiet (first | (go_at_call 35; exact Calls.quiet_of_same (unhide HN _ _ (by first | exact .inl rfl | exact .inr rfl) (unhide HB1 _))))
    go_wp2
    go_quiet (fail)
    go_wp2
    go_ret2
    rw [← unhide HBE]
    exact ⟨rfl, unhide HB _ _⟩
end Go.Proofs.YtcicbafdacfbpaiGreatDoor
