/- Walks of what blocks are made of: the fixed lengths, the order of lengths. -/
import Derived.Test.YtbbcfghlhgaofadDoorMg10
import Derived.Test.YtbbcfghlhgaofadDoorMg14
import Derived.Test.YtbbcfghlhgaofadDoorNf3
import Derived.Laws.ResultCell
import Derived.Deep.WholeRow
import Derived.Great.Walk
namespace Go.Proofs.YtbbcfghlhgaofadDoor
open Go.RowKit Pm Cn Nf

def zl (l : Nat → Nat) (i : Nat) : Int := (l i : Int)
theorem nat_zl (l : Nat → Nat) : nat (zl l) = l := by funext i; simp [nat, zl]

/-- An array of numbers at block B. -/
def AR (w : World) (B n : Nat) (z : Nat → Nat) : Prop := ∀ i, i < n → w.cell? ⟨B, i, none⟩ = some (.int .i64 (z i : Nat)) ∧ w.frozen? ⟨B, i, none⟩ = false
theorem AR.below {w w' : World} {B n : Nat} {z : Nat → Nat} (h : AR w B n z) (hb : Below w.heap.size w w') : AR w' B n z := fun i hi => by
  obtain ⟨h1, h2⟩ := h i hi
  have hl := World.block_lt_of_cell? _ _ h1
  exact ⟨(hb.cell hl).trans h1, (hb.frozen hl).trans h2⟩
theorem AR.but {w w' : World} {B n : Nat} {z : Nat → Nat} {S : Nat → Prop} (h : AR w B n z) (hb : But S w w') (hs : ¬ S B) : AR w' B n z := fun i hi => by
  obtain ⟨h1, h2⟩ := h i hi
  have hl := World.block_lt_of_cell? _ _ h1
  exact ⟨(hb.cell hl hs).trans h1, (hb.frozen hl hs).trans h2⟩
theorem AR.set {w : World} {B n : Nat} {z : Nat → Nat} (h : AR w B n z) (j x : Nat) (hj : j < n) : AR (w.setCell ⟨B, j, none⟩ (.int .i64 (x : Nat))) B n (fun i => if i = j then x else z i) := fun i hi => by
  obtain ⟨h1, h2⟩ := h i hi
  refine ⟨?_, by rw [World.frozen?_setCell]; exact h2⟩
  by_cases e : i = j
  · subst e
    simp only [if_true]
    exact World.cell?_setCell_same _ _ _ h1
  · simp only [if_neg e]
    rw [World.cell?_setCell_other _ _ _ _ (by intro q; injection q with _ q; omega)]
    exact h1
theorem AR.congr {w : World} {B n : Nat} {z y : Nat → Nat} (h : AR w B n z) (e : ∀ i, i < n → z i = y i) : AR w B n y := fun i hi => by rw [← e i hi]; exact h i hi
theorem AR.ints {w : World} {B n : Nat} {z : Nat → Nat} (h : AR w B n z) (hn : n ≤ 1000) (hz : ∀ i, i < n → z i ≤ 15) : IsInts w (some ⟨B, 0, none⟩) n (zl z) :=
  .inr ⟨B, 0, rfl, by unfold maxLen; omega, fun i hi => ⟨by rw [Nat.zero_add]; exact (h i hi).1, by have := hz i hi; unfold zl; omega⟩⟩
theorem AR.new (w : World) (cs : Array Value) (n : Nat) (ty : TypeId) (h : cs = Array.replicate n (.int .i64 0)) : AR (w.alloc (.cells cs ty)) w.heap.size n (fun _ => 0) := fun i hi => by
  subst h
  refine ⟨?_, by simp⟩
  simp [hi]

theorem mk_ints (n : Nat) (hn : n ≤ 1000) (w : World) : (Instr.makeSlice 51 (.int .i64 (n : Int)) (.int .i64 (n : Int))).run Tryd.prog w = .ok (.slice (some ⟨w.heap.size, 0, none⟩) n n) (w.alloc (.cells (madeCells #[.int .i64 0] n) 3)) :=
  run_make_row' (P := Tryd.prog) 51 3 (.int .i64 0) 8 Tryd.underlying51 info_i64 rfl .i64 .i64 n (by omega) (by omega) w
theorem AR.made (w : World) (n : Nat) (hn : n ≤ 1000) : AR (w.alloc (.cells (madeCells #[.int .i64 0] n) 3)) w.heap.size n (fun _ => 0) := fun i hi => by
  have h := made_own w n (by omega)
  exact ⟨by rw [h.cellAt i (by omega), intVals_at _ _ _ hi]; rfl, h.frozenAt i⟩

theorem fixedLength_any (c : Nat) (w : World) (hc : c < 288) :
    Calls Tryd.prog 81 #[.int .i64 (c : Int)] w fun e w' => e = .returned (.int .i64 (fixL c : Nat)) ∧ w' = w := by
  unfold fixL
  by_cases h1 : c < 144
  · have d1 : decide ((c : Int) ≤ 143) = true := by simp; omega
    rw [if_pos h1]
    go_enter Tryd.func81, Tryd.ntmps81
    go_wp2
    go_ret
    exact ⟨rfl, rfl⟩
  have d1 : decide ((c : Int) ≤ 143) = false := by simp; omega
  by_cases h2 : c < 256
  · have d2 : decide ((c : Int) ≤ 255) = true := by simp; omega
    rw [if_neg h1, if_pos h2]
    go_enter Tryd.func81, Tryd.ntmps81
    go_wp2
    go_ret
    exact ⟨rfl, rfl⟩
  have d2 : decide ((c : Int) ≤ 255) = false := by simp; omega
  by_cases h3 : c < 280
  · have d3 : decide ((c : Int) ≤ 279) = true := by simp; omega
    rw [if_neg h1, if_neg h2, if_pos h3]
    go_enter Tryd.func81, Tryd.ntmps81
    go_wp2
    go_ret
    exact ⟨rfl, rfl⟩
  · have d3 : decide ((c : Int) ≤ 279) = false := by simp; omega
    rw [if_neg h1, if_neg h2, if_neg h3]
    go_enter Tryd.func81, Tryd.ntmps81
    go_wp2
    go_ret
    exact ⟨rfl, rfl⟩


set_option maxHeartbeats 1000000 in
theorem fixedSymbols_any (w : World) :
    Calls Tryd.prog 69 #[] w fun e w' => ∃ g, e = .returned (.slice (some ⟨g, 0, none⟩) 288 288) ∧ AR w' g 288 fixL ∧ w.heap.size ≤ g ∧ Below w.heap.size w w' := by
  have hmk : ∀ w, (Instr.makeSlice 51 (.int .i64 288) (.int .i64 288)).run Tryd.prog w = .ok (.slice (some ⟨w.heap.size, 0, none⟩) 288 288) (w.alloc (.cells (madeCells #[.int .i64 0] 288) 3)) := fun w => mk_ints 288 (by omega) w
  have HA0 := hide (AR.made w 288 (by omega))
  have hb0 : Below w.heap.size w (w.alloc (.cells (madeCells #[.int .i64 0] 288) 3)) := (Below.refl _ _).alloc (Nat.le_refl _) _
  go_enter Tryd.func69, Tryd.ntmps69
  go_wp2
  clear hmk
  generalize w.alloc (.cells (madeCells #[.int .i64 0] 288) 3) = w0 at *
  go_loopw [6] (fun i wr => ∃ j : Nat, j ≤ 288 ∧ i = .int .i64 j ∧ Hid (AR wr w.heap.size 288 (fun y => if y < j then fixL y else 0)) ∧ Below w.heap.size w wr) (fun i _ => 288 - (intOf i).toNat)
  case atStart => exact ⟨0, by omega, rfl, (unhide HA0).congr (fun i _ => by simp), hb0⟩
  case round =>
    clear HA0 hb0
    obtain ⟨j, hj, rfl, HA, hb⟩ := hrel
    by_cases hlt : j < 288
    · have g1 : decide ((j : Int) < 288) = true := by simp; omega
      have hji : (j : Int) < 288 := by omega
      obtain ⟨cj, fj⟩ := unhide HA j hlt
      have HF := hide (fixedLength_any j wr hlt)
      have HS : Hid (AR (wr.setCell ⟨w.heap.size, j, none⟩ (.int .i64 (fixL j : Nat))) w.heap.size 288 (fun y => if y < j + 1 then fixL y else 0)) := ((unhide HA).set j (fixL j) hlt).congr (fun i _ => by
        by_cases e : i = j
        · subst e; rw [if_pos rfl, if_pos (by omega)]
        · rw [if_neg e]
          by_cases e2 : i < j
          · rw [if_pos e2, if_pos (by omega)]
          · rw [if_neg e2, if_neg (by omega)])
      have hbn : Below w.heap.size w (wr.setCell ⟨w.heap.size, j, none⟩ (.int .i64 (fixL j : Nat))) := hb.setCell (p := ⟨w.heap.size, j, none⟩) (Nat.le_refl _) _
      generalize fixL j = fj at *
      go_wp2_with fail
      refine (unhide HF).mono ?_; rintro e w2 ⟨rfl, hw2⟩
      replace hw2 := hw2.symm
      subst hw2
      go_wp2
      go_roundw
      case rel => exact ⟨j + 1, by omega, by go_num, HS, hbn⟩
      case measure => simp [intOf]; omega
    · have : j = 288 := by omega
      subst this
      have HA2 : Hid (AR wr w.heap.size 288 fixL) := (unhide HA).congr (fun i hi => by rw [if_pos hi])
      go_wp2
      go_ret
      exact ⟨w.heap.size, rfl, unhide HA2, Nat.le_refl _, hb⟩

set_option maxHeartbeats 1000000 in
theorem fixedDistances_any (w : World) :
    Calls Tryd.prog 70 #[] w fun e w' => ∃ g, e = .returned (.slice (some ⟨g, 0, none⟩) 32 32) ∧ AR w' g 32 fixD ∧ w.heap.size ≤ g ∧ Below w.heap.size w w' := by
  have hmk : ∀ w, (Instr.makeSlice 51 (.int .i64 32) (.int .i64 32)).run Tryd.prog w = .ok (.slice (some ⟨w.heap.size, 0, none⟩) 32 32) (w.alloc (.cells (madeCells #[.int .i64 0] 32) 3)) := fun w => mk_ints 32 (by omega) w
  have HA0 := hide (AR.made w 32 (by omega))
  have hb0 : Below w.heap.size w (w.alloc (.cells (madeCells #[.int .i64 0] 32) 3)) := (Below.refl _ _).alloc (Nat.le_refl _) _
  go_enter Tryd.func70, Tryd.ntmps70
  go_wp2
  clear hmk
  generalize w.alloc (.cells (madeCells #[.int .i64 0] 32) 3) = w0 at *
  go_loopw [6] (fun i wr => ∃ j : Nat, j ≤ 32 ∧ i = .int .i64 j ∧ Hid (AR wr w.heap.size 32 (fun y => if y < j then 5 else 0)) ∧ Below w.heap.size w wr) (fun i _ => 32 - (intOf i).toNat)
  case atStart => exact ⟨0, by omega, rfl, (unhide HA0).congr (fun i _ => by simp), hb0⟩
  case round =>
    clear HA0 hb0
    obtain ⟨j, hj, rfl, HA, hb⟩ := hrel
    by_cases hlt : j < 32
    · have g1 : decide ((j : Int) < 32) = true := by simp; omega
      have hji : (j : Int) < 32 := by omega
      obtain ⟨cj, fj⟩ := unhide HA j hlt
      have HS : Hid (AR (wr.setCell ⟨w.heap.size, j, none⟩ (.int .i64 5)) w.heap.size 32 (fun y => if y < j + 1 then 5 else 0)) := ((unhide HA).set j 5 hlt).congr (fun i _ => by
        by_cases e : i = j
        · subst e; rw [if_pos rfl, if_pos (by omega)]
        · rw [if_neg e]
          by_cases e2 : i < j
          · rw [if_pos e2, if_pos (by omega)]
          · rw [if_neg e2, if_neg (by omega)])
      have hbn : Below w.heap.size w (wr.setCell ⟨w.heap.size, j, none⟩ (.int .i64 5)) := hb.setCell (p := ⟨w.heap.size, j, none⟩) (Nat.le_refl _) _
      go_wp2
      go_roundw
      case rel => exact ⟨j + 1, by omega, by go_num, HS, hbn⟩
      case measure => simp [intOf]; omega
    · have : j = 32 := by omega
      subst this
      have HA2 : Hid (AR wr w.heap.size 32 fixD) := (unhide HA).congr (fun i hi => by rw [if_pos hi]; rfl)
      go_wp2
      go_ret
      exact ⟨w.heap.size, rfl, unhide HA2, Nat.le_refl _, hb⟩

theorem results_cellB {fn : Func} {p : Tmp} {ty : TypeId} (h : fn.results = #[.cell p ty]) (tmps : Array Value) (P : Program) (w : World) :
    (results fn tmps).run P w = ((asAddr (tmps.getD p undef)).run P w).andThen fun a w₁ => (loadVar ty a).run P w₁ := by
  simp only [results, h]
  simp [Sem.run_bind, Result.andThen]

/-- The order of lengths, as values. -/
def orderV : Array Value := #[.int .i64 16, .int .i64 17, .int .i64 18, .int .i64 0, .int .i64 8, .int .i64 7, .int .i64 9, .int .i64 6, .int .i64 10, .int .i64 5, .int .i64 11, .int .i64 4, .int .i64 12, .int .i64 3, .int .i64 13, .int .i64 2, .int .i64 14, .int .i64 1, .int .i64 15]
theorem AR.order (w : World) (ty : TypeId) : AR (w.alloc (.cells orderV ty)) w.heap.size 19 (fun i => order.getD i 0) := fun i hi => by
  refine ⟨?_, by simp⟩
  rcases (show i = 0 ∨ i = 1 ∨ i = 2 ∨ i = 3 ∨ i = 4 ∨ i = 5 ∨ i = 6 ∨ i = 7 ∨ i = 8 ∨ i = 9 ∨ i = 10 ∨ i = 11 ∨ i = 12 ∨ i = 13 ∨ i = 14 ∨ i = 15 ∨ i = 16 ∨ i = 17 ∨ i = 18 by omega) with rfl | rfl | rfl | rfl | rfl | rfl | rfl | rfl | rfl | rfl | rfl | rfl | rfl | rfl | rfl | rfl | rfl | rfl | rfl <;> (simp [orderV]; rfl)

theorem store_order (w : World) : (storeCells ⟨w.heap.size, 0, none⟩ orderV.toList 0).run Tryd.prog (w.alloc (.cells #[.int .i64 0, .int .i64 0, .int .i64 0, .int .i64 0, .int .i64 0, .int .i64 0, .int .i64 0, .int .i64 0, .int .i64 0, .int .i64 0, .int .i64 0, .int .i64 0, .int .i64 0, .int .i64 0, .int .i64 0, .int .i64 0, .int .i64 0, .int .i64 0, .int .i64 0] 152)) = .ok () (w.alloc (.cells orderV 152)) :=
  run_storeCells_new w 152 #[.int .i64 0, .int .i64 0, .int .i64 0, .int .i64 0, .int .i64 0, .int .i64 0, .int .i64 0, .int .i64 0, .int .i64 0, .int .i64 0, .int .i64 0, .int .i64 0, .int .i64 0, .int .i64 0, .int .i64 0, .int .i64 0, .int .i64 0, .int .i64 0, .int .i64 0] orderV (by kernel_rfl) rfl (by kernel_rfl)
theorem load_order (w : World) : (loadVar 152 ⟨w.heap.size, 0, none⟩).run Tryd.prog (w.alloc (.cells orderV 152)) = .ok (.agg orderV) (w.alloc (.cells orderV 152)) :=
  run_loadVar_new w 152 orderV 19 3 Tryd.underlying152 (by kernel_rfl)

set_option maxRecDepth 10000 in
theorem ofLengths_any (w : World) :
    Calls Tryd.prog 82 #[] w fun e w' => e = .returned (.agg orderV) ∧ Below w.heap.size w w' := by
  have HB : Hid (Below w.heap.size w (w.alloc (.cells orderV 152))) := (Below.refl _ _).alloc (Nat.le_refl _) _
  have hld := load_order w
  go_enter Tryd.func82, Tryd.ntmps82
  go_wp2_with (refine Great.wpList_readTo rfl (some 1) rfl (.agg orderV) (by kernel_rfl) ?_)
  rw [store_order w]
  go_wp2
  refine bodyPost_ret (v := .agg orderV) ?_ rfl ⟨rfl, unhide HB⟩
  rw [results_cellB (p := 0) (ty := 152) (by kernel_rfl)]
  simp only [asAddr, Array.getD_eq_getD_getElem?, List.getElem?_toArray, List.getElem?_cons_zero, Option.getD_some, Sem.run_pure, Result.andThen_ok]
  exact hld
end Go.Proofs.YtbbcfghlhgaofadDoor
