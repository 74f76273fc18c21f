/- Pictures: parts, places that are near, pixels painted: the program's. -/
import Derived.Test.YtjhnneplknhmkahDoorMg3
namespace Go.Proofs.YtjhnneplknhmkahDoor
open Go.RowKit



set_option maxHeartbeats 2000000 in
theorem covers_any (X Y W H x y : Int) (w : World) (hX : -10000 ≤ X ∧ X ≤ 10000) (hY : -10000 ≤ Y ∧ Y ≤ 10000) (hW : 0 ≤ W ∧ W ≤ 10000) (hH : 0 ≤ H ∧ H ≤ 10000) :
    Calls Tryd.prog 50 #[.agg #[.int .i64 X, .int .i64 Y, .int .i64 W, .int .i64 H], .int .i64 x, .int .i64 y] w fun e w' => e = .returned (.bool (decide (X ≤ x ∧ x < X + W ∧ Y ≤ y ∧ y < Y + H))) ∧ Below w.heap.size w w' := by
  have hb : Below w.heap.size w (w.alloc (.cells #[.int .i64 X, .int .i64 Y, .int .i64 W, .int .i64 H] 43)) := (Below.refl _ _).alloc (Nat.le_refl _) _
  have HB := hide hb
  obtain ⟨r, hr⟩ : ∃ r, r = decide (X ≤ x ∧ x < X + W ∧ Y ≤ y ∧ y < Y + H) := ⟨_, rfl⟩
  have w1 : IntKind.i64.wrap (X + W) = X + W := by rw [IntKind.wrap_i64]; omega
  have w2 : IntKind.i64.wrap (Y + H) = Y + H := by rw [IntKind.wrap_i64]; omega
  have d : (decide (x ≥ X) = false ∧ r = false) ∨ (decide (x ≥ X) = true ∧ decide (x < X + W) = false ∧ r = false) ∨ (decide (x ≥ X) = true ∧ decide (x < X + W) = true ∧ decide (y ≥ Y) = false ∧ r = false) ∨ (decide (x ≥ X) = true ∧ decide (x < X + W) = true ∧ decide (y ≥ Y) = true ∧ decide (y < Y + H) = r) := by
    subst hr
    simp only [decide_eq_true_eq, decide_eq_false_iff_not, decide_eq_decide]
    omega
  rw [← hr]
  clear hr hb
  rcases d with ⟨d1, rfl⟩ | ⟨d1, d2, rfl⟩ | ⟨d1, d2, d3, rfl⟩ | ⟨d1, d2, d3, d4⟩
  all_goals
    go_enter Tryd.func50, Tryd.ntmps50
    go_wp2
    go_ret
    exact ⟨rfl, unhide HB⟩

set_option maxHeartbeats 4000000 in
theorem isWithin_any (X Y W H : Int) (PW PH : Nat) (a : Option Addr) (n c : Nat) (w : World) (hW : PW ≤ 256) (hH : PH ≤ 256) :
    Calls Tryd.prog 51 #[.agg #[.int .i64 X, .int .i64 Y, .int .i64 W, .int .i64 H], .agg #[.int .i64 (PW : Int), .int .i64 (PH : Int), .slice a n c]] w fun e w' => e = .returned (.bool (decide ((0 ≤ X ∧ X < PW ∧ 0 ≤ Y ∧ Y < PH) ∧ 1 ≤ W ∧ 1 ≤ H ∧ W ≤ PW - X ∧ H ≤ PH - Y))) ∧ Below w.heap.size w w' := by
  have hbt := hide (below_two w)
  have HH := hide (fun w => holds_any PW PH X Y a n c w)
  by_cases hin : 0 ≤ X ∧ X < PW ∧ 0 ≤ Y ∧ Y < PH
  · rw [decide_eq_true hin] at HH
    have w1 : IntKind.i64.wrap ((PW : Int) - X) = PW - X := by rw [IntKind.wrap_i64]; omega
    have w2 : IntKind.i64.wrap ((PH : Int) - Y) = PH - Y := by rw [IntKind.wrap_i64]; omega
    obtain ⟨r, hr⟩ : ∃ r, r = decide ((0 ≤ X ∧ X < PW ∧ 0 ≤ Y ∧ Y < PH) ∧ 1 ≤ W ∧ 1 ≤ H ∧ W ≤ PW - X ∧ H ≤ PH - Y) := ⟨_, rfl⟩
    have d : (decide (W ≥ 1) = false ∧ r = false) ∨ (decide (W ≥ 1) = true ∧ decide (H ≥ 1) = false ∧ r = false) ∨ (decide (W ≥ 1) = true ∧ decide (H ≥ 1) = true ∧ decide (W ≤ PW - X) = false ∧ r = false) ∨ (decide (W ≥ 1) = true ∧ decide (H ≥ 1) = true ∧ decide (W ≤ PW - X) = true ∧ decide (H ≤ PH - Y) = r) := by
      subst hr
      simp only [decide_eq_true_eq, decide_eq_false_iff_not, decide_eq_decide]
      omega
    rw [← hr]
    clear hr hin
    rcases d with ⟨d1, rfl⟩ | ⟨d1, d2, rfl⟩ | ⟨d1, d2, d3, rfl⟩ | ⟨d1, d2, d3, d4⟩
    all_goals
      go_enter Tryd.func51, Tryd.ntmps51
      go_wp2_with fail
      refine (unhide HH _).mono ?_
      have hbq := unhide hbt (.cells #[.int .i64 X, .int .i64 Y, .int .i64 W, .int .i64 H] 43) (.cells #[.int .i64 (PW : Int), .int .i64 (PH : Int), .slice a n c] 26)
      have x0 : ((w.alloc (.cells #[.int .i64 X, .int .i64 Y, .int .i64 W, .int .i64 H] 43)).alloc (.cells #[.int .i64 (PW : Int), .int .i64 (PH : Int), .slice a n c] 26)).cell? ⟨w.heap.size, 0, none⟩ = some (.int .i64 X) := (World.cell?_alloc_lt _ _ ⟨w.heap.size, 0, none⟩ (by simp)).trans (by simp)
      have x1 : ((w.alloc (.cells #[.int .i64 X, .int .i64 Y, .int .i64 W, .int .i64 H] 43)).alloc (.cells #[.int .i64 (PW : Int), .int .i64 (PH : Int), .slice a n c] 26)).cell? ⟨w.heap.size, 1, none⟩ = some (.int .i64 Y) := (World.cell?_alloc_lt _ _ ⟨w.heap.size, 1, none⟩ (by simp)).trans (by simp)
      have x2 : ((w.alloc (.cells #[.int .i64 X, .int .i64 Y, .int .i64 W, .int .i64 H] 43)).alloc (.cells #[.int .i64 (PW : Int), .int .i64 (PH : Int), .slice a n c] 26)).cell? ⟨w.heap.size, 2, none⟩ = some (.int .i64 W) := (World.cell?_alloc_lt _ _ ⟨w.heap.size, 2, none⟩ (by simp)).trans (by simp)
      have x3 : ((w.alloc (.cells #[.int .i64 X, .int .i64 Y, .int .i64 W, .int .i64 H] 43)).alloc (.cells #[.int .i64 (PW : Int), .int .i64 (PH : Int), .slice a n c] 26)).cell? ⟨w.heap.size, 3, none⟩ = some (.int .i64 H) := (World.cell?_alloc_lt _ _ ⟨w.heap.size, 3, none⟩ (by simp)).trans (by simp)
      have es : (w.alloc (.cells #[.int .i64 X, .int .i64 Y, .int .i64 W, .int .i64 H] 43)).heap.size = w.heap.size + 1 := by simp
      have y0 : ((w.alloc (.cells #[.int .i64 X, .int .i64 Y, .int .i64 W, .int .i64 H] 43)).alloc (.cells #[.int .i64 (PW : Int), .int .i64 (PH : Int), .slice a n c] 26)).cell? ⟨w.heap.size + 1, 0, none⟩ = some (.int .i64 (PW : Int)) := by rw [← es, World.cell?_alloc_mark]; rfl
      have y1 : ((w.alloc (.cells #[.int .i64 X, .int .i64 Y, .int .i64 W, .int .i64 H] 43)).alloc (.cells #[.int .i64 (PW : Int), .int .i64 (PH : Int), .slice a n c] 26)).cell? ⟨w.heap.size + 1, 1, none⟩ = some (.int .i64 (PH : Int)) := by rw [← es, World.cell?_alloc_mark]; rfl
      have ez : ((w.alloc (.cells #[.int .i64 X, .int .i64 Y, .int .i64 W, .int .i64 H] 43)).alloc (.cells #[.int .i64 (PW : Int), .int .i64 (PH : Int), .slice a n c] 26)).heap.size = w.heap.size + 2 := by simp
      generalize (w.alloc (.cells #[.int .i64 X, .int .i64 Y, .int .i64 W, .int .i64 H] 43)).alloc (.cells #[.int .i64 (PW : Int), .int .i64 (PH : Int), .slice a n c] 26) = wq at *
      rintro e w1 ⟨rfl, hb1⟩
      have x0' := (hb1.cell (p := ⟨w.heap.size, 0, none⟩) (by simp; omega)).trans x0
      have x1' := (hb1.cell (p := ⟨w.heap.size, 1, none⟩) (by simp; omega)).trans x1
      have x2' := (hb1.cell (p := ⟨w.heap.size, 2, none⟩) (by simp; omega)).trans x2
      have x3' := (hb1.cell (p := ⟨w.heap.size, 3, none⟩) (by simp; omega)).trans x3
      have y0' := (hb1.cell (p := ⟨w.heap.size + 1, 0, none⟩) (by simp; omega)).trans y0
      have y1' := (hb1.cell (p := ⟨w.heap.size + 1, 1, none⟩) (by simp; omega)).trans y1
      have HBF := hide (hbq.trans (hb1.mono (by omega)))
      clear hb1 hbq x0 x1 x2 x3 y0 y1 es ez HH hbt
      go_wp2
      go_ret
      exact ⟨rfl, unhide HBF⟩
  · rw [decide_eq_false hin] at HH
    rw [decide_eq_false (fun q : (0 ≤ X ∧ X < PW ∧ 0 ≤ Y ∧ Y < PH) ∧ 1 ≤ W ∧ 1 ≤ H ∧ W ≤ PW - X ∧ H ≤ PH - Y => hin q.1)]
    clear hin
    go_enter Tryd.func51, Tryd.ntmps51
    go_wp2_with fail
    refine (unhide HH _).mono ?_
    rintro e w1 ⟨rfl, hb1⟩
    have HBF := hide ((unhide hbt _ _).trans (hb1.mono (by simp; omega)))
    clear hb1
    go_wp2
    go_ret
    exact ⟨rfl, unhide HBF⟩
end Go.Proofs.YtjhnneplknhmkahDoor
