/- Walk of the document's reading of a packed text: the texts of the fixed distances; how a reading begins. -/
import Derived.Test.YtfeljhikeddodadGreatDoorRf9
import Derived.Test.YtfeljhikeddodadGreatDoorMh25
import Derived.Test.YtfeljhikeddodadGreatDoorIn13
namespace Go.Proofs.YtfeljhikeddodadGreatDoor
open Go.RowKit Pm Cn Cd Nf

/-- Texts in a row. -/
def SR (w : World) (g n : Nat) (z : Nat → ByteArray) : Prop := ∀ i, i < n → w.cell? ⟨g, i, none⟩ = some (.string (z i)) ∧ w.frozen? ⟨g, i, none⟩ = false
theorem SR.below {w w' : World} {g n : Nat} {z : Nat → ByteArray} (h : SR w g n z) (hb : Below w.heap.size w w') : SR w' g n z := fun i hi => by
  obtain ⟨h1, h2⟩ := h i hi
  have hl := World.block_lt_of_cell? _ _ h1
  exact ⟨(hb.cell hl).trans h1, (hb.frozen hl).trans h2⟩
theorem SR.set {w : World} {g n : Nat} {z : Nat → ByteArray} (h : SR w g n z) (j : Nat) (x : ByteArray) (hj : j < n) : SR (w.setCell ⟨g, j, none⟩ (.string x)) g n (fun i => if i = j then x else z i) := fun i hi => by
  obtain ⟨h1, h2⟩ := h i hi
  refine ⟨?_, by rw [World.frozen?_setCell]; exact h2⟩
  by_cases e : i = j
  · subst e
    dsimp only
    rw [if_pos rfl]
    exact World.cell?_setCell_same _ _ _ h1
  · dsimp only
    rw [if_neg e, World.cell?_setCell_other _ _ _ _ (by intro q; injection q with _ q; omega)]; exact h1
theorem SR.congr {w : World} {g n : Nat} {z y : Nat → ByteArray} (h : SR w g n z) (e : ∀ i, i < n → z i = y i) : SR w g n y := fun i hi => by rw [← e i hi]; exact h i hi
theorem SR.made (w : World) (n : Nat) (hn : n ≤ 1000) : SR (w.alloc (.cells (madeCells #[.string ⟨#[]⟩] n) 9)) w.heap.size n (fun _ => ⟨#[]⟩) := fun i hi => by
  have h : (w.alloc (.cells (madeCells #[.string ⟨#[]⟩] n) 9)).ownsRow w.heap.size 9 1 (.slice (some ⟨w.heap.size, 0, none⟩) n n) n (strVals (fun _ => ⟨#[]⟩) n) := by
    rw [strVals_none]
    have := World.ownsRow_lit (base := w.heap.size) (e := 9) (size := 1) w (madeCells #[.string ⟨#[]⟩] n) n (Nat.le_refl _) (by unfold maxLen; omega) (by rw [size_madeCells, Nat.mul_one])
    rw [toList_madeCells_one] at this
    exact this
  exact ⟨by rw [h.cellAt i (by omega), strVals_at _ _ _ hi], h.frozenAt i⟩
theorem mk_strs (n : Nat) (hn : n ≤ 1000) (w : World) : (Instr.makeSlice 58 (.int .i64 (n : Int)) (.int .i64 (n : Int))).run Tryz.prog w = .ok (.slice (some ⟨w.heap.size, 0, none⟩) n n) (w.alloc (.cells (madeCells #[.string ⟨#[]⟩] n) 9)) :=
  run_make_row' (P := Tryz.prog) 58 9 (.string ⟨#[]⟩) 16 Tryz.underlying58 info_str rfl .i64 .i64 n (by omega) (by omega) w
/-- The words of the fixed distances. -/
theorem five_words {w : World} {R g : Nat} (h : SR w g 32 (fun i => bt 5 (Bt.rev i 5))) (h1 : g ≠ R) (h2 : g ≠ rowA w R 2) (h3 : g ≠ rowA w R 11) : Wz w R g 32 fixD :=
  ⟨fun i hi => by
    rw [(h i hi).1]
    unfold word
    rw [code_fixD i hi]
    rfl, fun i _ => by unfold fixD; omega, by omega, by rw [all_fixD]; omega, h1, h2, h3, World.block_lt_of_cell? _ _ (h 0 (by omega)).1⟩
/-- How a reading begins. -/
def rd0 (s : ByteArray) (most : Nat) : Obj := .cells #[.string (bt (8 * s.size) (tv s)), .int .i64 0, .slice none 0 0, .int .i64 (most : Int), .int .i64 0, .slice none 0 0, .slice none 0 0, .slice none 0 0, .slice none 0 0, .int .i64 0, .int .i64 0, .slice none 0 0] 77
theorem rd0_at (s : ByteArray) (most : Nat) (w : World) (hm : most ≤ 300000) (hs : s.size ≤ 20000) : Rg (w.alloc (rd0 s most)) w.heap.size s 0 [] most ⟨0, slc none 0 0, slc none 0 0, [], slc none 0 0, slc none 0 0, 0, 0⟩ := by
  have c : ∀ j, (w.alloc (rd0 s most)).cell? ⟨w.heap.size, j, none⟩ = (#[.string (bt (8 * s.size) (tv s)), .int .i64 0, .slice none 0 0, .int .i64 (most : Int), .int .i64 0, .slice none 0 0, .slice none 0 0, .slice none 0 0, .slice none 0 0, .int .i64 0, .int .i64 0, .slice none 0 0] : Array Value)[j]? := fun j => by
    unfold rd0
    rw [World.cell?_alloc_mark]
  refine ⟨by rw [c]; rfl, by rw [c]; rfl, ⟨_, by rw [c]; rfl, World.ownsRow_nil _ _ _ _⟩, by rw [c]; rfl, by rw [c]; rfl, by rw [c]; rfl, by rw [c]; rfl, by rw [c]; rfl, by rw [c]; rfl, by rw [c]; rfl, by rw [c]; rfl, ⟨_, by rw [c]; rfl, World.ownsRow_nil _ _ _ _⟩, fun j => by simp [rd0], ?_, by simp, by omega, by omega, hs⟩
  intro _
  unfold rowA
  rw [c]
  rfl
/-- What else is told: slices and counts. -/
structure Tv where
  s3 : Slc
  s4 : Slc
  s5 : Slc
  s6 : Slc
  s9 : Slc
  i7 : Int
  i8 : Int
/-- What is told of a packed text, but for what else is counted. -/
def told (txt : ByteArray) (used er : Int) (v : Tv) : Value := .agg #[.string txt, .int .i64 used, .int .i64 er, v.s3.1, v.s4.1, v.s5.1, v.s6.1, .int .i64 v.i7, .int .i64 v.i8, v.s9.1]
/-- The cells of the answer. -/
def TC (w : World) (T : Nat) : Prop := w.cell? ⟨T, 0, none⟩ = some (.string ⟨#[]⟩) ∧ (∀ j, j = 1 ∨ j = 2 ∨ j = 7 ∨ j = 8 → w.cell? ⟨T, j, none⟩ = some (.int .i64 0)) ∧ (∀ j, j = 3 ∨ j = 4 ∨ j = 5 ∨ j = 6 ∨ j = 9 → w.cell? ⟨T, j, none⟩ = some (.slice none 0 0)) ∧ ∀ j, w.frozen? ⟨T, j, none⟩ = false
theorem TC.below {w w' : World} {T B : Nat} (h : TC w T) (hb : Below B w w') (hT : T < B) : TC w' T :=
  ⟨(hb.cell (p := ⟨T, 0, none⟩) hT).trans h.1, fun j hj => (hb.cell (p := ⟨T, j, none⟩) hT).trans (h.2.1 j hj), fun j hj => (hb.cell (p := ⟨T, j, none⟩) hT).trans (h.2.2.1 j hj), fun j => (hb.frozen (p := ⟨T, j, none⟩) hT).trans (h.2.2.2 j)⟩
theorem TC.new (w : World) : TC (w.alloc (.cells #[.string ⟨#[]⟩, .int .i64 0, .int .i64 0, .slice none 0 0, .slice none 0 0, .slice none 0 0, .slice none 0 0, .int .i64 0, .int .i64 0, .slice none 0 0] 40)) w.heap.size := by
  refine ⟨by simp, ?_, ?_, fun j => by simp⟩
  · rintro j (rfl | rfl | rfl | rfl) <;> simp
  · rintro j (rfl | rfl | rfl | rfl | rfl) <;> simp
/-- A count of the reading is turned. -/
theorem Rg.count9 {w : World} {R : Nat} {s : ByteArray} {k : Nat} {out : List UInt8} {most : Nat} {x : Ex} (h : Rg w R s k out most x) (y : Int) : Rg (w.setCell ⟨R, 9, none⟩ (.int .i64 y)) R s k out most { x with n9 := y } ∧ Rw R w (w.setCell ⟨R, 9, none⟩ (.int .i64 y)) := by
  have hb : But (· = R) w (w.setCell ⟨R, 9, none⟩ (.int .i64 y)) := (But.refl (· = R) w).setCell (p := ⟨R, 9, none⟩) rfl _
  have hu := h.f9
  have hc : ∀ i, i ≠ 9 → (w.setCell ⟨R, 9, none⟩ (.int .i64 y)).cell? ⟨R, i, none⟩ = w.cell? ⟨R, i, none⟩ := fun i hi => by rw [cell_set _ _ _ _ _ _ hu, if_neg hi]
  exact h.turned (x' := { x with n9 := y }) hb (fun i _ hi => hc i (by omega)) ((hc 1 (by omega)).trans h.at_) ⟨(hc 5 (by omega)).trans h.f5, (hc 6 (by omega)).trans h.f6⟩ ((hc 7 (by omega)).trans h.uses7) ((hc 8 (by omega)).trans h.uses8) ⟨rfl, rfl⟩ ⟨by rw [cell_set _ _ _ _ _ _ hu, if_pos rfl], (hc 10 (by omega)).trans h.f10⟩ (fun i => frozen_set _ _ _ _) h.within
theorem Rg.count10 {w : World} {R : Nat} {s : ByteArray} {k : Nat} {out : List UInt8} {most : Nat} {x : Ex} (h : Rg w R s k out most x) (y : Int) : Rg (w.setCell ⟨R, 10, none⟩ (.int .i64 y)) R s k out most { x with n10 := y } ∧ Rw R w (w.setCell ⟨R, 10, none⟩ (.int .i64 y)) := by
  have hb : But (· = R) w (w.setCell ⟨R, 10, none⟩ (.int .i64 y)) := (But.refl (· = R) w).setCell (p := ⟨R, 10, none⟩) rfl _
  have hu := h.f10
  have hc : ∀ i, i ≠ 10 → (w.setCell ⟨R, 10, none⟩ (.int .i64 y)).cell? ⟨R, i, none⟩ = w.cell? ⟨R, i, none⟩ := fun i hi => by rw [cell_set _ _ _ _ _ _ hu, if_neg hi]
  exact h.turned (x' := { x with n10 := y }) hb (fun i _ hi => hc i (by omega)) ((hc 1 (by omega)).trans h.at_) ⟨(hc 5 (by omega)).trans h.f5, (hc 6 (by omega)).trans h.f6⟩ ((hc 7 (by omega)).trans h.uses7) ((hc 8 (by omega)).trans h.uses8) ⟨rfl, rfl⟩ ⟨(hc 9 (by omega)).trans h.f9, by rw [cell_set _ _ _ _ _ _ hu, if_pos rfl]⟩ (fun i => frozen_set _ _ _ _) h.within
theorem results_cellT {fn : Func} {p : Tmp} {ty : TypeId} (h : fn.results = #[.cell p ty]) (tmps : Array Value) (P : Program) (w : World) :
    (results fn tmps).run P w = ((asAddr (tmps.getD p undef)).run P w).andThen fun a w₁ => (loadVar ty a).run P w₁ := by
  simp only [results, h]
  simp [Sem.run_bind, Result.andThen]
end Go.Proofs.YtfeljhikeddodadGreatDoor
