/- What a layer shows at a place: the program's. -/
import Derived.Test.YtkdckcengmkhhajDoorLy5
import Derived.Test.YtkdckcengmkhhajDoorMg6
namespace Go.Proofs.YtkdckcengmkhhajDoor
open Go.RowKit

/-- Inside a layer's picture. -/
def InL (l : Ly) (x y : Nat) : Prop := (l.x ≤ (x : Int) ∧ (x : Int) < l.x + l.wd) ∧ (l.y ≤ (y : Int) ∧ (y : Int) < l.y + l.hg)
instance (l : Ly) (x y : Nat) : Decidable (InL l x y) := by unfold InL; infer_instance
/-- What a layer shows. -/
def shP (l : Ly) (x y : Nat) : Px := if l.hid = false ∧ InL l x y then fadeP (l.q (((y : Int) - l.y).toNat * l.wd.toNat + ((x : Int) - l.x).toNat)) l.op.toNat else ⟨0, 0, 0, 0⟩
/-- A layer that is right. -/
structure LyR (l : Ly) : Prop where
  pl : Pl l
  rt : RightP l.wd l.hg l.n

set_option maxHeartbeats 2000000 in
theorem shown_no (l : Ly) (ad : Option Addr) (cp : Nat) (x y : Nat) (w : World) (hR : LyR l) (hx : x ≤ 256) (hy : y ≤ 256) (h : ¬ (l.hid = false ∧ InL l x y)) :
    Calls Tryd.prog 56 #[l.val ad cp, .int .i64 (x : Int), .int .i64 (y : Int)] w fun e w' => e = .returned (.agg #[.int .u8 0, .int .u8 0, .int .u8 0, .int .u8 0]) ∧ Below w.heap.size w w' := by
  obtain ⟨⟨px, py, po, pm⟩, r1, r2, r3⟩ := hR
  unfold InL at h
  obtain ⟨nm, X, Y, hi, op, mo, wd, hg, m, q⟩ := l
  simp only at *
  have d : hi = true ∨ (hi = false ∧ decide ((x : Int) - X < 0) = true) ∨ (hi = false ∧ decide ((x : Int) - X < 0) = false ∧ decide ((x : Int) - X ≥ wd) = true ∧ decide (wd ≤ (x : Int) - X) = true) ∨ (hi = false ∧ decide ((x : Int) - X < 0) = false ∧ decide ((x : Int) - X ≥ wd) = false ∧ decide (wd ≤ (x : Int) - X) = false ∧ decide ((y : Int) - Y < 0) = true) ∨ (hi = false ∧ decide ((x : Int) - X < 0) = false ∧ decide ((x : Int) - X ≥ wd) = false ∧ decide (wd ≤ (x : Int) - X) = false ∧ decide ((y : Int) - Y < 0) = false ∧ decide ((y : Int) - Y ≥ hg) = true ∧ decide (hg ≤ (y : Int) - Y) = true) := by
    rcases hi with _ | _
    · simp only [true_and] at h
      by_cases a1 : (x : Int) - X < 0
      · exact .inr (.inl ⟨rfl, decide_eq_true a1⟩)
      by_cases a2 : wd ≤ (x : Int) - X
      · exact .inr (.inr (.inl ⟨rfl, decide_eq_false a1, decide_eq_true a2, decide_eq_true a2⟩))
      by_cases a3 : (y : Int) - Y < 0
      · exact .inr (.inr (.inr (.inl ⟨rfl, decide_eq_false a1, decide_eq_false a2, decide_eq_false a2, decide_eq_true a3⟩)))
      have a4 : hg ≤ (y : Int) - Y := by
        rcases Int.lt_or_le ((y : Int) - Y) hg with q | q
        · exact absurd ⟨⟨by omega, by omega⟩, by omega, by omega⟩ h
        · exact q
      exact .inr (.inr (.inr (.inr ⟨rfl, decide_eq_false a1, decide_eq_false a2, decide_eq_false a2, decide_eq_false a3, decide_eq_true a4, decide_eq_true a4⟩)))
    · exact .inl rfl
  have w1 : IntKind.i64.wrap ((x : Int) - X) = (x : Int) - X := by rw [IntKind.wrap_i64]; omega
  have w2 : IntKind.i64.wrap ((y : Int) - Y) = (y : Int) - Y := by rw [IntKind.wrap_i64]; omega
  have hHA := hide (al2 w (.cells #[.string nm, .int .i64 X, .int .i64 Y, .bool hi, .int .i64 op, .int .i64 mo, .int .i64 wd, .int .i64 hg, .slice ad m cp] 54) (.cells #[.int .u8 0, .int .u8 0, .int .u8 0, .int .u8 0] 42))
  obtain ⟨B, hB⟩ : ∃ B, B = w.heap.size := ⟨_, rfl⟩
  clear h px py po pm r1 r2 r3
  obtain ⟨dx, hdx⟩ : ∃ dx, (x : Int) - X = dx := ⟨_, rfl⟩
  obtain ⟨dy, hdy⟩ : ∃ dy, (y : Int) - Y = dy := ⟨_, rfl⟩
  rw [hdx, hdy] at d
  rw [hdx] at w1
  rw [hdy] at w2
  unfold Ly.val
  simp only
  go_enter Tryd.func56, Tryd.ntmps56
  go_wp2_with fail
  generalize (w.alloc (.cells #[.string nm, .int .i64 X, .int .i64 Y, .bool hi, .int .i64 op, .int .i64 mo, .int .i64 wd, .int .i64 hg, .slice ad m cp] 54)).alloc (.cells #[.int .u8 0, .int .u8 0, .int .u8 0, .int .u8 0] 42) = w0 at *
  rw [← hB] at hHA ⊢
  have HBE := hide hB
  obtain ⟨hs, k0, k1, hb⟩ := unhide hHA
  obtain ⟨⟨c0, c1, c2, c3, c4⟩, c5, c6, c7, c8⟩ := nine k0
  have hl : B < w0.heap.size := by omega
  clear hHA hB
  go_region_held (fun w' => w'.cell? ⟨B, 1, none⟩ = some (.int .i64 X) ∧ w'.cell? ⟨B, 2, none⟩ = some (.int .i64 Y)) (exact ⟨c1, c2⟩) (fail)
  have k0 : w0.drew.heap[B]? = _ := k0
  have k1 : w0.drew.heap[B + 1]? = _ := k1
  have HB := hide hb.drew
  have hl : B + 1 < w0.drew.heap.size := by show _ < w0.heap.size; omega
  generalize w0.drew = w3 at *
  clear hb hs c0 c1 c2 c3 c4 c5 c6 c7 c8 hdx hdy w1 w2 hx hy
  obtain ⟨⟨c0, c1, c2, c3, c4⟩, c5, c6, c7, c8⟩ := nine k0
  have z0 : w3.cell? ⟨B + 1, 0, none⟩ = some (.int .u8 0) := by rw [blk_cell k1]; rfl
  have z1 : w3.cell? ⟨B + 1, 1, none⟩ = some (.int .u8 0) := by rw [blk_cell k1]; rfl
  have z2 : w3.cell? ⟨B + 1, 2, none⟩ = some (.int .u8 0) := by rw [blk_cell k1]; rfl
  have z3 : w3.cell? ⟨B + 1, 3, none⟩ = some (.int .u8 0) := by rw [blk_cell k1]; rfl
  have f0 := blk_frozen k1 0
  have f1 := blk_frozen k1 1
  have f2 := blk_frozen k1 2
  have f3 := blk_frozen k1 3
  rcases d with d | ⟨d, d1⟩ | ⟨d, d1, d2, d2'⟩ | ⟨d, d1, d2, d2', d3⟩ | ⟨d, d1, d2, d2', d3, d4, d4'⟩
  all_goals
    subst d
    go_wp2
    refine bodyPost_ret (v := .agg #[.int .u8 0, .int .u8 0, .int .u8 0, .int .u8 0]) ?_ rfl ⟨rfl, ?_⟩
    · rw [results_c (p := 6) (ty := 42) (by kernel_rfl)]
      go_simp
    · rw [← unhide HBE]
      exact ((((unhide HB).setCell (p := ⟨B + 1, 0, none⟩) (by show B ≤ B + 1; omega) _).setCell (p := ⟨B + 1, 1, none⟩) (by show B ≤ B + 1; omega) _).setCell (p := ⟨B + 1, 2, none⟩) (by show B ≤ B + 1; omega) _).setCell (p := ⟨B + 1, 3, none⟩) (by show B ≤ B + 1; omega) _

theorem setc {w : World} {k j : Nat} {cs : Array Value} {t : TypeId} (h : w.heap[k]? = some (.cells cs t)) (u : Value) : (w.setCell ⟨k, j, none⟩ u).heap[k]? = some (.cells (cs.setIfInBounds j u) t) := by
  simp [World.setCell, Array.getElem?_modify, h]

end Go.Proofs.YtkdckcengmkhhajDoor
