/- Walks of the program's look at tokens. -/
import Derived.Test.YtlnglpphlcebdadDoorTk
import Derived.WalkLawsBesides
import Derived.WalkSpells
import Derived.Handy
import Derived.Below
import Derived.Deep.LoopGhost
import Derived.BigRegion
namespace Go.Proofs.YtlnglpphlcebdadDoor
open Go.RowKit

/-- A byte, or a match. -/
def Shp (b : Nat) (l d : Int) : Prop := if l = 0 then d = 0 else b = 0 ∧ (3 ≤ l ∧ l ≤ 258) ∧ 1 ≤ d ∧ d ≤ 32768
theorem shaped_is (t : Tks) (i : Nat) : t.shaped i ↔ Shp (t.b i) (t.l i) (t.d i) := Iff.rfl
instance (b : Nat) (l d : Int) : Decidable (Shp b l d) := by unfold Shp; infer_instance

theorem ret_bool {a b : Bool} (h : a = b) : Ending.returned (.bool a) = .returned (.bool b) := by rw [h]

set_option maxHeartbeats 2000000 in
theorem shaped_any (b : Nat) (l d : Int) (w : World) :
    Calls Tryd.prog 49 #[.agg #[.int .u8 (b : Int), .int .i64 l, .int .i64 d]] w fun e w' => e = .returned (.bool (decide (Shp b l d))) ∧ Below w.heap.size w w' := by
  have hb : Below w.heap.size w (w.alloc (.cells #[.int .u8 (b : Int), .int .i64 l, .int .i64 d] 36)) := (Below.refl _ _).alloc (Nat.le_refl _) _
  have HB := hide hb
  clear hb
  by_cases h0 : l = 0
  · subst h0
    by_cases h1 : d = 0
    · subst h1
      have HX : Hid (decide (Shp b 0 0) = true) := by show _ = _; simp [Shp]
      go_enter Tryd.func49, Tryd.ntmps49
      go_wp2
      go_ret
      exact ⟨ret_bool (unhide HX).symm, unhide HB⟩
    · have g1 : (d == 0) = false := by simpa using h1
      have HX : Hid (decide (Shp b 0 d) = false) := by show _ = _; simp [Shp, h1]
      go_enter Tryd.func49, Tryd.ntmps49
      go_wp2
      go_ret
      exact ⟨ret_bool (unhide HX).symm, unhide HB⟩
  · have g0 : (l == 0) = false := by simpa using h0
    by_cases hb0 : b = 0
    · subst hb0
      by_cases h1 : 3 ≤ l
      · have e1 : decide (3 ≤ l) = true := by simpa using h1
        have e1' : decide (l ≥ 3) = true := e1
        by_cases h2 : l ≤ 258
        · have e2 : decide (l ≤ 258) = true := by simpa using h2
          by_cases h3 : 1 ≤ d
          · have e3 : decide (1 ≤ d) = true := by simpa using h3
            have e3' : decide (d ≥ 1) = true := e3
            by_cases h4 : d ≤ 32768
            · have e4 : decide (d ≤ 32768) = true := by simpa using h4
              have HX : Hid (decide (Shp 0 l d) = true) := by show _ = _; simp [Shp, h0]; omega
              clear h0 h1 h2 h3 h4
              go_enter Tryd.func49, Tryd.ntmps49
              go_wp2
              go_ret
              exact ⟨ret_bool (unhide HX).symm, unhide HB⟩
            · have e4 : decide (d ≤ 32768) = false := by simpa using h4
              have HX : Hid (decide (Shp 0 l d) = false) := by show _ = _; simp [Shp, h0]; omega
              clear h0 h1 h2 h3 h4
              go_enter Tryd.func49, Tryd.ntmps49
              go_wp2
              go_ret
              exact ⟨ret_bool (unhide HX).symm, unhide HB⟩
          · have e3 : decide (1 ≤ d) = false := by simpa using h3
            have e3' : decide (d ≥ 1) = false := e3
            have HX : Hid (decide (Shp 0 l d) = false) := by show _ = _; simp [Shp, h0]; omega
            clear h0 h1 h2 h3
            go_enter Tryd.func49, Tryd.ntmps49
            go_wp2
            go_ret
            exact ⟨ret_bool (unhide HX).symm, unhide HB⟩
        · have e2 : decide (l ≤ 258) = false := by simpa using h2
          have HX : Hid (decide (Shp 0 l d) = false) := by show _ = _; simp [Shp, h0]; omega
          clear h0 h1 h2
          go_enter Tryd.func49, Tryd.ntmps49
          go_wp2
          go_ret
          exact ⟨ret_bool (unhide HX).symm, unhide HB⟩
      · have e1 : decide (3 ≤ l) = false := by simpa using h1
        have e1' : decide (l ≥ 3) = false := e1
        have HX : Hid (decide (Shp 0 l d) = false) := by show _ = _; simp [Shp, h0]; omega
        clear h0 h1
        go_enter Tryd.func49, Tryd.ntmps49
        go_wp2
        go_ret
        exact ⟨ret_bool (unhide HX).symm, unhide HB⟩
    · have g1 : ((b : Int) == 0) = false := by simp; omega
      have HX : Hid (decide (Shp b l d) = false) := by show _ = _; simp [Shp, h0, hb0]
      clear h0 hb0
      go_enter Tryd.func49, Tryd.ntmps49
      go_wp2
      go_ret
      exact ⟨ret_bool (unhide HX).symm, unhide HB⟩

theorem bytesOf_any (b : Nat) (l d : Int) (w : World) (n : Int) (hn : n = if l = 0 then 1 else l) (hl : 0 ≤ l) :
    Calls Tryd.prog 20 #[.agg #[.int .u8 (b : Int), .int .i64 l, .int .i64 d]] w fun e w' => e = .returned (.int .i64 n) ∧ Below w.heap.size w w' := by
  have hb : Below w.heap.size w (w.alloc (.cells #[.int .u8 (b : Int), .int .i64 l, .int .i64 d] 36)) := (Below.refl _ _).alloc (Nat.le_refl _) _
  have HB := hide hb
  clear hb
  by_cases h0 : l = 0
  · subst h0
    rw [if_pos rfl] at hn
    subst hn
    go_enter Tryd.func20, Tryd.ntmps20
    go_wp2
    go_ret
    exact ⟨rfl, unhide HB⟩
  · rw [if_neg h0] at hn
    subst hn
    have hn1 : 1 ≤ n := by omega
    clear h0
    go_enter Tryd.func20, Tryd.ntmps20
    go_wp2
    all_goals (
      go_ret
      exact ⟨ret_int (by omega), unhide HB⟩)
end Go.Proofs.YtlnglpphlcebdadDoor
