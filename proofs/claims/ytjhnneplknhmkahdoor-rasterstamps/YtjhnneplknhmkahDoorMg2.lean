/- Which pictures are right: the program's. Four cells of a call's own, read and written. -/
import Derived.Test.YtjhnneplknhmkahDoorPx1
import Derived.Test.YtjhnneplknhmkahDoorBase
import Derived.Deep.RegionHeld
import Derived.Deep.QuietTactic
namespace Go.Proofs.YtjhnneplknhmkahDoor
open Go.RowKit

theorem isSide_any (z : Int) (w : World) :
    Calls Tryd.prog 72 #[.int .i64 z] w fun e w' => e = .returned (.bool (decide (1 ≤ z ∧ z ≤ 256))) ∧ w' = w := by
  by_cases h1 : 1 ≤ z
  · have d1 : decide (z ≥ 1) = true := decide_eq_true h1
    have d1' : decide (1 ≤ z) = true := d1
    by_cases h2 : z ≤ 256
    · have d2 : decide (z ≤ 256) = true := decide_eq_true h2
      rw [decide_eq_true (⟨h1, h2⟩ : 1 ≤ z ∧ z ≤ 256)]
      clear h1 h2
      go_enter Tryd.func72, Tryd.ntmps72
      go_wp2
      go_ret
      exact ⟨rfl, rfl⟩
    · have d2 : decide (z ≤ 256) = false := decide_eq_false h2
      rw [decide_eq_false (fun q : 1 ≤ z ∧ z ≤ 256 => h2 q.2)]
      clear h1 h2
      go_enter Tryd.func72, Tryd.ntmps72
      go_wp2
      go_ret
      exact ⟨rfl, rfl⟩
  · have d1 : decide (z ≥ 1) = false := decide_eq_false h1
    have d1' : decide (1 ≤ z) = false := d1
    rw [decide_eq_false (fun q : 1 ≤ z ∧ z ≤ 256 => h1 q.1)]
    clear h1
    go_enter Tryd.func72, Tryd.ntmps72
    go_wp2
    go_ret
    exact ⟨rfl, rfl⟩

theorem isRight_any (W H : Int) (a : Option Addr) (n c : Nat) (w : World) :
    Calls Tryd.prog 43 #[.agg #[.int .i64 W, .int .i64 H, .slice a n c]] w fun e w' => e = .returned (.bool (decide (RightP W H n))) ∧ Below w.heap.size w w' := by
  have hb : Below w.heap.size w (w.alloc (.cells #[.int .i64 W, .int .i64 H, .slice a n c] 26)) := (Below.refl _ _).alloc (Nat.le_refl _) _
  have HS := hide isSide_any
  by_cases h1 : 1 ≤ W ∧ W ≤ 256
  · by_cases h2 : 1 ≤ H ∧ H ≤ 256
    · have hz : 0 ≤ W * H ∧ W * H ≤ 65536 := by
        have q1 := Int.mul_nonneg (show 0 ≤ W by omega) (show 0 ≤ H by omega)
        have q2 : W * H ≤ 256 * 256 := Int.mul_le_mul h1.2 h2.2 (by omega) (by omega)
        omega
      obtain ⟨m, hm⟩ : ∃ m, m = W * H := ⟨_, rfl⟩
      have hm' : W * H = m := hm.symm
      have hR : decide (RightP W H n) = decide ((n : Int) = m) := by
        unfold RightP
        rw [hm]
        congr 1
        simp [h1, h2]
      rw [hR]
      rw [← hm] at hz
      have e1 := fun w => isSide_any W w
      have e2 := fun w => isSide_any H w
      rw [decide_eq_true h1] at e1
      rw [decide_eq_true h2] at e2
      have E1 := hide e1
      have E2 := hide e2
      have hbq : ((n : Int) == m) = decide ((n : Int) = m) := by
        by_cases q : (n : Int) = m
        · rw [decide_eq_true q]; simpa using q
        · rw [decide_eq_false q]; simpa using q
      clear hm hR e1 e2 HS h1 h2
      go_enter Tryd.func43, Tryd.ntmps43
      go_wp2_with fail
      refine (unhide E1 _).mono ?_; rintro e w1 ⟨rfl, rfl⟩
      go_wp2_with fail
      refine (unhide E2 _).mono ?_; rintro e w1 ⟨rfl, rfl⟩
      go_wp2
      go_ret
      exact ⟨by first | rfl | rw [hbq], hb⟩
    · have e1 := fun w => isSide_any W w
      have e2 := fun w => isSide_any H w
      rw [decide_eq_true h1] at e1
      rw [decide_eq_false h2] at e2
      have E1 := hide e1
      have E2 := hide e2
      rw [decide_eq_false (fun q : RightP W H n => h2 q.2.1)]
      clear e1 e2 HS h1 h2
      go_enter Tryd.func43, Tryd.ntmps43
      go_wp2_with fail
      refine (unhide E1 _).mono ?_; rintro e w1 ⟨rfl, rfl⟩
      go_wp2_with fail
      refine (unhide E2 _).mono ?_; rintro e w1 ⟨rfl, rfl⟩
      go_wp2
      go_ret
      exact ⟨rfl, hb⟩
  · have e1 := fun w => isSide_any W w
    rw [decide_eq_false h1] at e1
    have E1 := hide e1
    rw [decide_eq_false (fun q : RightP W H n => h1 q.1)]
    clear e1 HS h1
    go_enter Tryd.func43, Tryd.ntmps43
    go_wp2_with fail
    refine (unhide E1 _).mono ?_; rintro e w1 ⟨rfl, rfl⟩
    go_wp2
    go_ret
    exact ⟨rfl, hb⟩
end Go.Proofs.YtjhnneplknhmkahDoor
namespace Go.Proofs.YtjhnneplknhmkahDoor
open Go.RowKit

/-- A pixel's cells, as numbers. -/
structure Q4 (w : World) (k : Nat) (r g b a : Nat) : Prop where
  r : w.cell? ⟨k, 0, none⟩ = some (.int .u8 (r : Int))
  g : w.cell? ⟨k, 1, none⟩ = some (.int .u8 (g : Int))
  b : w.cell? ⟨k, 2, none⟩ = some (.int .u8 (b : Int))
  a : w.cell? ⟨k, 3, none⟩ = some (.int .u8 (a : Int))
theorem Q4.lt {w : World} {k r g b a : Nat} (h : Q4 w k r g b a) : k < w.heap.size := World.block_lt_of_cell? _ _ h.r
theorem Q4.below {w w' : World} {k r g b a B : Nat} (h : Q4 w k r g b a) (hb : Below B w w') (hB : k < B) : Q4 w' k r g b a :=
  ⟨(hb.cell (p := ⟨k, 0, none⟩) hB).trans h.r, (hb.cell (p := ⟨k, 1, none⟩) hB).trans h.g, (hb.cell (p := ⟨k, 2, none⟩) hB).trans h.b, (hb.cell (p := ⟨k, 3, none⟩) hB).trans h.a⟩
theorem Q4.alloc {w : World} {k r g b a : Nat} (h : Q4 w k r g b a) (o : Obj) : Q4 (w.alloc o) k r g b a := h.below ((Below.refl _ _).alloc (Nat.le_refl _) _) h.lt
def q4Obj (r g b a : Nat) : Obj := .cells #[.int .u8 (r : Int), .int .u8 (g : Int), .int .u8 (b : Int), .int .u8 (a : Int)] 23
theorem q4_new (w : World) (r g b a : Nat) : Q4 (w.alloc (q4Obj r g b a)) w.heap.size r g b a := by
  unfold q4Obj
  exact ⟨by simp, by simp, by simp, by simp⟩
/-- They may be written. -/
structure F4 (w : World) (k : Nat) : Prop where
  f0 : w.frozen? ⟨k, 0, none⟩ = false
  f1 : w.frozen? ⟨k, 1, none⟩ = false
  f2 : w.frozen? ⟨k, 2, none⟩ = false
  f3 : w.frozen? ⟨k, 3, none⟩ = false
theorem F4.below {w w' : World} {k B : Nat} (h : F4 w k) (hb : Below B w w') (hB : k < B) : F4 w' k :=
  ⟨(hb.frozen (p := ⟨k, 0, none⟩) hB).trans h.f0, (hb.frozen (p := ⟨k, 1, none⟩) hB).trans h.f1, (hb.frozen (p := ⟨k, 2, none⟩) hB).trans h.f2, (hb.frozen (p := ⟨k, 3, none⟩) hB).trans h.f3⟩
theorem q4_new_f (w : World) (r g b a : Nat) : F4 (w.alloc (q4Obj r g b a)) w.heap.size := by
  unfold q4Obj
  exact ⟨by simp, by simp, by simp, by simp⟩
theorem belowD {B n : Nat} {a w : World} (h : Below B a w) : Below B a (w.drewN n) := h.trans ⟨rfl, rfl, rfl, Nat.le_refl _, fun _ _ => rfl⟩
theorem far4 (w : World) (k b o : Nat) (v1 v2 v3 v4 : Value) (h : k ≠ b) : ((((w.setCell ⟨k, 0, none⟩ v1).setCell ⟨k, 1, none⟩ v2).setCell ⟨k, 2, none⟩ v3).setCell ⟨k, 3, none⟩ v4).cell? ⟨b, o, none⟩ = w.cell? ⟨b, o, none⟩ := by
  rw [World.cell?_setCell_far _ _ _ _ h, World.cell?_setCell_far _ _ _ _ h, World.cell?_setCell_far _ _ _ _ h, World.cell?_setCell_far _ _ _ _ h]

/-- Four numbers' cells. -/
structure I4 (w : World) (k : Nat) (a b c d : Nat) : Prop where
  a : w.cell? ⟨k, 0, none⟩ = some (.int .i64 (a : Int))
  b : w.cell? ⟨k, 1, none⟩ = some (.int .i64 (b : Int))
  c : w.cell? ⟨k, 2, none⟩ = some (.int .i64 (c : Int))
  d : w.cell? ⟨k, 3, none⟩ = some (.int .i64 (d : Int))
theorem I4.lt {w : World} {k a b c d : Nat} (h : I4 w k a b c d) : k < w.heap.size := World.block_lt_of_cell? _ _ h.a
theorem I4.below {w w' : World} {k a b c d B : Nat} (h : I4 w k a b c d) (hb : Below B w w') (hB : k < B) : I4 w' k a b c d :=
  ⟨(hb.cell (p := ⟨k, 0, none⟩) hB).trans h.a, (hb.cell (p := ⟨k, 1, none⟩) hB).trans h.b, (hb.cell (p := ⟨k, 2, none⟩) hB).trans h.c, (hb.cell (p := ⟨k, 3, none⟩) hB).trans h.d⟩
theorem i4_laid (w : World) (t : TypeId) (a b c d : Nat) : I4 (w.alloc (.cells #[.int .i64 (a : Int), .int .i64 (b : Int), .int .i64 (c : Int), .int .i64 (d : Int)] t)) w.heap.size a b c d ∧ F4 (w.alloc (.cells #[.int .i64 (a : Int), .int .i64 (b : Int), .int .i64 (c : Int), .int .i64 (d : Int)] t)) w.heap.size ∧ Below w.heap.size w (w.alloc (.cells #[.int .i64 (a : Int), .int .i64 (b : Int), .int .i64 (c : Int), .int .i64 (d : Int)] t)) ∧ w.heap.size < (w.alloc (.cells #[.int .i64 (a : Int), .int .i64 (b : Int), .int .i64 (c : Int), .int .i64 (d : Int)] t)).heap.size :=
  ⟨⟨by simp, by simp, by simp, by simp⟩, ⟨by simp, by simp, by simp, by simp⟩, (Below.refl _ _).alloc (Nat.le_refl _) _, by simp⟩
end Go.Proofs.YtjhnneplknhmkahDoor
