/- Tiles in which two grids are unlike: the program's. Grids: errors; a grid that is nil; tiles in which two are unlike: the program's. Tiles in which two grids of one size are unlike: the program's. -/
import Derived.Test.YtcicbafdacfbpaiDoorTj0
namespace Go.Proofs.YtcicbafdacfbpaiDoor
open Go.RowKit

/-- The first n pixels of two rows are alike. -/
def Eqv (p q : Nat → Px) (n : Nat) : Prop := ∀ j, j < n → p j = q j
instance (p q : Nat → Px) (n : Nat) : Decidable (Eqv p q n) := inferInstanceAs (Decidable (∀ j, j < n → p j = q j))
/-- Two rows are the same. -/
def SameR (n : Nat) (p : Nat → Px) (m : Nat) (q : Nat → Px) : Prop := n = m ∧ Eqv p q n
instance (n : Nat) (p : Nat → Px) (m : Nat) (q : Nat → Px) : Decidable (SameR n p m q) := inferInstanceAs (Decidable (_ ∧ _))


end Go.Proofs.YtcicbafdacfbpaiDoor
namespace Go.Proofs.YtcicbafdacfbpaiDoor
open Go.RowKit

theorem of_shape (W H : Int) (a : Option Addr) (n c : Nat) (w : World) (tE : TypeId) (vE : Value) (hE : w.cell? ⟨0, 0, none⟩ = some (.iface tE vE)) (hR : ¬ RightP W H n) :
    Calls Tryd.prog 16 #[.agg #[.int .i64 W, .int .i64 H, .slice a n c]] w fun e w' => e = .returned (.tuple #[.pointer none, .iface tE vE]) ∧ Below w.heap.size w w' := by
  have HA := hide (al1 w (.cells #[.int .i64 W, .int .i64 H, .slice a n c] 24))
  have HR := hide (fun w => isRight_any W H a n c w)
  rw [decide_eq_false hR] at HR
  have hg := World.block_lt_of_cell? _ _ hE
  simp only at hg
  clear hR
  go_enter Tryd.func16, Tryd.ntmps16
  go_wp2_with fail
  generalize w.alloc (.cells #[.int .i64 W, .int .i64 H, .slice a n c] 24) = w1 at *
  refine (unhide HR w1).mono ?_
  rintro e w2 ⟨rfl, hb2⟩
  have hb12 := (unhide HA).below.trans (hb2.mono (by have := (unhide HA).size; omega))
  have hE2 := tcell hb12 hg hE
  have HB := hide (fun nn => belowD (n := nn) hb12)
  clear hb2 hb12 HA HR hE
  go_wp2
  go_quiet (fail)
  go_wp2
  go_ret2
  exact ⟨rfl, unhide HB _⟩

theorem picture_nil (w : World) :
    Calls Tryd.prog 18 #[.pointer none] w fun e w' => e = .returned (.agg #[.int .i64 0, .int .i64 0, .slice none 0 0]) ∧ Below w.heap.size w w' := by
  have HA := hide (al1 w (.cells #[.int .i64 0, .int .i64 0, .slice none 0 0] 24))
  have HN := hide isNone_nil
  go_enter Tryd.func18, Tryd.ntmps18
  go_wp2_with fail
  generalize w.alloc (.cells #[.int .i64 0, .int .i64 0, .slice none 0 0] 24) = w1 at *
  obtain ⟨B, hB⟩ : ∃ B, B = w.heap.size := ⟨_, rfl⟩
  rw [← hB] at HA ⊢
  obtain ⟨hs1, kz, hb1⟩ := unhide HA
  refine (unhide HN w1).mono ?_
  rintro e w2 ⟨rfl, hw⟩
  have hw := hw.symm
  subst hw
  have z0 : w1.cell? ⟨B, 0, none⟩ = some (.int .i64 0) := blk_cell kz 0
  have z1 : w1.cell? ⟨B, 1, none⟩ = some (.int .i64 0) := blk_cell kz 1
  have z2 : w1.cell? ⟨B, 2, none⟩ = some (.slice none 0 0) := blk_cell kz 2
  have f0 := blk_frozen kz 0
  have f1 := blk_frozen kz 1
  have f2 := blk_frozen kz 2
  have hzl := blk_lt kz
  have HB1 := hide hb1
  have HBE := hide hB
  clear kz hb1 hB HA HN
  go_wp2
  refine bodyPost_ret (v := .agg #[.int .i64 0, .int .i64 0, .slice none 0 0]) ?_ rfl ⟨rfl, ?_⟩
  · rw [results_cellP (p := 2) (ty := 24) (by kernel_rfl)]
    go_simp
  · rw [← unhide HBE]
    exact (((unhide HB1).setCell (p := ⟨B, 0, none⟩) (Nat.le_refl _) _).setCell (p := ⟨B, 1, none⟩) (Nat.le_refl _) _).setCell (p := ⟨B, 2, none⟩) (Nat.le_refl _) _

theorem at_nil (x y : Int) (w : World) (tE : TypeId) (vE : Value) (hE : w.cell? ⟨0, 0, none⟩ = some (.iface tE vE)) :
    Calls Tryd.prog 22 #[.pointer none, .int .i64 x, .int .i64 y] w fun e w' => e = .returned (.tuple #[.agg #[.int .u8 0, .int .u8 0, .int .u8 0, .int .u8 0], .iface tE vE]) ∧ Below w.heap.size w w' := by
  have HA := hide (al1 w (.cells #[.int .u8 0, .int .u8 0, .int .u8 0, .int .u8 0] 26))
  have HN := hide isNone_nil
  have hg := World.block_lt_of_cell? _ _ hE
  simp only at hg
  go_enter Tryd.func22, Tryd.ntmps22
  go_wp2_with fail
  generalize w.alloc (.cells #[.int .u8 0, .int .u8 0, .int .u8 0, .int .u8 0] 26) = w1 at *
  obtain ⟨B, hB⟩ : ∃ B, B = w.heap.size := ⟨_, rfl⟩
  rw [← hB] at HA hg ⊢
  obtain ⟨hs1, kz, hb1⟩ := unhide HA
  have hE1 := (hb1.cell (p := ⟨0, 0, none⟩) hg).trans hE
  refine (unhide HN w1).mono ?_
  rintro e w2 ⟨rfl, hw⟩
  have hw := hw.symm
  subst hw
  have z0 : w1.cell? ⟨B, 0, none⟩ = some (.int .u8 0) := blk_cell kz 0
  have z1 : w1.cell? ⟨B, 1, none⟩ = some (.int .u8 0) := blk_cell kz 1
  have z2 : w1.cell? ⟨B, 2, none⟩ = some (.int .u8 0) := blk_cell kz 2
  have z3 : w1.cell? ⟨B, 3, none⟩ = some (.int .u8 0) := blk_cell kz 3
  have f0 := blk_frozen kz 0
  have f1 := blk_frozen kz 1
  have f2 := blk_frozen kz 2
  have f3 := blk_frozen kz 3
  have hzl := blk_lt kz
  have hne : B ≠ 0 := by omega
  have HB1 := hide hb1
  have HBE := hide hB
  clear kz hb1 hB HA HN hE
  go_wp2
  go_region
  all_goals
    go_wp2
    refine bodyPost_ret (v := .tuple #[.agg #[.int .u8 0, .int .u8 0, .int .u8 0, .int .u8 0], .iface tE vE]) ?_ rfl ⟨rfl, ?_⟩
    · rw [results_cell_tmp (p := 6) (u := 7) (ty := 26) (by kernel_rfl)]
      go_simp
    · rw [← unhide HBE]
      exact ((((unhide HB1).drew.setCell (p := ⟨B, 0, none⟩) (Nat.le_refl _) _).setCell (p := ⟨B, 1, none⟩) (Nat.le_refl _) _).setCell (p := ⟨B, 2, none⟩) (Nat.le_refl _) _).setCell (p := ⟨B, 3, none⟩) (Nat.le_refl _) _





end Go.Proofs.YtcicbafdacfbpaiDoor
namespace Go.Proofs.YtcicbafdacfbpaiDoor
open Go.RowKit

/-- Numbers in a row. -/
def IsNT (w : World) (a : Option Addr) (l : List Nat) : Prop := l = [] ∨ ∃ b, a = some ⟨b, 0, none⟩ ∧ ∀ i, i < l.length → w.cell? ⟨b, i, none⟩ = some (.int .i64 (l.getD i 0 : Int))
theorem own_nt {w : World} {B cap : Nat} {a : Option Addr} {l : List Nat} (h : w.ownsRow B 3 1 (.slice a l.length cap) l.length (nV l)) : IsNT w a l := by
  by_cases h0 : l.length = 0
  · exact .inl (List.length_eq_zero_iff.1 h0)
  · rcases h.2 with ⟨_, q⟩ | ⟨g, cap', cur, hv, _⟩
    · exact absurd q h0
    · injection hv with hv _ _
      subst hv
      refine .inr ⟨g, rfl, fun i hi => ?_⟩
      rw [h.cellAt i (by omega)]
      exact nV_at l i hi
theorem IsNT.below {w w' : World} {a : Option Addr} {l : List Nat} (h : IsNT w a l) (hb : Below w.heap.size w w') : IsNT w' a l := by
  rcases h with h | ⟨b, ha, h⟩
  · exact .inl h
  · exact .inr ⟨b, ha, fun i hi => (hb.cell (p := ⟨b, i, none⟩) (World.block_lt_of_cell? _ _ (h i hi))).trans (h i hi)⟩

theorem own_shapeT {w : World} {base size n : Nat} {e : TypeId} {v : Value} {xs : List Value} (h : w.ownsRow base e size v n xs) : ∃ a c, v = .slice a n c := by
  rcases h.2 with ⟨rfl, rfl⟩ | ⟨g, c, cur, rfl, _⟩
  · exact ⟨none, 0, rfl⟩
  · exact ⟨_, c, rfl⟩
/-- Are the i-th tiles unlike? -/
def unlT (m m' : Nat → Nat) (q q' : Nat → Nat → Px) (i : Nat) : Bool := decide (¬ SameR (m i) (q i) (m' i) (q' i))
theorem take_snocT (l : List Nat) (i : Nat) (h : i < l.length) : l.take (i + 1) = l.take i ++ [l.getD i 0] := by
  rw [List.take_add_one]
  simp [List.getElem?_eq_getElem h]

end Go.Proofs.YtcicbafdacfbpaiDoor
