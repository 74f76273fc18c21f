/- Chains of places in memory: made. -/
import Derived.Test.YtlnglpphlcebdadDoorMz1
import Derived.Test.YtlnglpphlcebdadDoorBu
import Derived.Deep.RegionWith
import Derived.Laws.OwnMore
import Derived.Deep.OwnRows
namespace Go.Proofs.YtlnglpphlcebdadDoor
open Go.RowKit Mm

/-- What stands at the j-th place of the row of places before, once a places are in. -/
def befN (s : ByteArray) (a j : Nat) : Nat := if j < a ∧ j + 3 ≤ s.size then prev (byt s) s.size (keyAt (byt s) j) j else 0
/-- The chains in memory, a places in. -/
structure CH (w : World) (c bm gb : Nat) (s : ByteArray) (win a : Nat) : Prop where
  c0 : w.cell? ⟨c, 0, none⟩ = some (.string s)
  c1 : w.cell? ⟨c, 1, none⟩ = some (.int .i64 (win : Int))
  c2 : w.cell? ⟨c, 2, none⟩ = some (.int .i64 3000)
  c3 : w.cell? ⟨c, 3, none⟩ = some (.map (some bm))
  c4 : w.cell? ⟨c, 4, none⟩ = some (.slice (some ⟨gb, 0, none⟩) s.size s.size)
  map : ∃ nn, nn ≤ a ∧ LM w bm nn (fun x y z => prev (byt s) s.size (x, y, z) a)
  row : ∀ j, j < s.size → w.cell? ⟨gb, j, none⟩ = some (.int .i64 (befN s a j : Int)) ∧ w.frozen? ⟨gb, j, none⟩ = false
  ne1 : c ≠ bm
  ne2 : c ≠ gb
  ne3 : bm ≠ gb
  lt : gb < w.heap.size

theorem info_i64 : (Tryd.prog.info? 3).map (fun i => (i.zero, i.size, i.bytes)) = some (some (.int .i64 0), 1, 8) := by kernel_rfl
theorem make_ints (n : Nat) (h : n ≤ 3000) (w : World) : (Instr.makeSlice 51 (.int .i64 (n : Int)) (.int .i64 (n : Int))).run Tryd.prog w = .ok (.slice (some ⟨w.heap.size, 0, none⟩) n n) (w.alloc (.cells (madeCells #[.int .i64 0] n) 3)) :=
  run_make_row' (P := Tryd.prog) 51 3 (.int .i64 0) 8 Tryd.underlying51 info_i64 rfl .i64 .i64 n (by omega) (by omega) w
theorem made_at (n j : Nat) (h : j < n) : (madeCells #[.int .i64 0] n)[j]? = some (.int .i64 0) := by
  have e := toList_madeCells_one (.int .i64 0) n
  have : (madeCells #[.int .i64 0] n).toList[j]? = some (.int .i64 0) := by rw [e, List.getElem?_replicate, if_pos h]
  simpa using this

theorem LM.blank {w : World} {bm : Nat} (h : w.heap[bm]? = some (.map #[] 0)) : LM w bm 0 (fun _ _ _ => 0) := by
  obtain ⟨D, ⟨es, clock, h1, h2, h3, h4⟩, h5⟩ := LM.made w
  have e : (w.alloc (.map #[] 0)).heap[w.heap.size]? = some (.map #[] 0) := heap_alloc_new w _
  rw [e] at h1
  injection h1 with h1
  injection h1 with e1 e2
  subst e1 e2
  exact ⟨D, ⟨_, _, h, h2, h3, h4⟩, h5⟩

theorem CH.made {w : World} {c bm gb : Nat} (s : ByteArray) (win : Nat) (h0 : w.heap[c]? = some (.cells #[.string s, .int .i64 (win : Int), .int .i64 3000, .map (some bm), .slice (some ⟨gb, 0, none⟩) s.size s.size] 72 (0, 0)))
    (h1 : w.heap[bm]? = some (.map #[] 0)) (h2 : w.heap[gb]? = some (.cells (madeCells #[.int .i64 0] s.size) 3 (0, 0))) (n1 : c ≠ bm) (n2 : c ≠ gb) (n3 : bm ≠ gb) : CH w c bm gb s win 0 := by
  have hlt : gb < w.heap.size := by
    rcases Nat.lt_or_ge gb w.heap.size with q | q
    · exact q
    · simp [Array.getElem?_eq_none q] at h2
  refine ⟨by simp [World.cell?, h0], by simp [World.cell?, h0], by simp [World.cell?, h0], by simp [World.cell?, h0], by simp [World.cell?, h0], ⟨0, Nat.le_refl _, LM.blank h1⟩, fun j hj => ⟨?_, ?_⟩, n1, n2, n3, hlt⟩
  · simp only [World.cell?, h2]
    show (madeCells #[.int .i64 0] s.size)[j]? = _
    rw [made_at _ _ hj]
    simp [befN]
  · simp [World.frozen?, h2]

theorem three_heap (w : World) (x y z : Obj) : (((w.alloc x).alloc y).alloc z).heap[w.heap.size]? = some x ∧ (((w.alloc x).alloc y).alloc z).heap[w.heap.size + 1]? = some y ∧ (((w.alloc x).alloc y).alloc z).heap[w.heap.size + 1 + 1]? = some z := by
  have s1 : (w.alloc x).heap.size = w.heap.size + 1 := by simp
  have s2 : ((w.alloc x).alloc y).heap.size = w.heap.size + 1 + 1 := by simp
  refine ⟨?_, ?_, ?_⟩
  · rw [Below.heap_alloc _ _ _ (by rw [s2]; omega), Below.heap_alloc _ _ _ (by rw [s1]; omega)]
    exact heap_alloc_new w x
  · rw [Below.heap_alloc _ _ _ (by rw [s2]; omega), ← s1]
    exact heap_alloc_new _ y
  · rw [← s2]
    exact heap_alloc_new _ z

set_option maxHeartbeats 4000000 in
set_option maxRecDepth 100000 in
theorem newChains_any (s : ByteArray) (win : Nat) (w : World) (hs : s.size ≤ 3000) :
    Calls Tryd.prog 18 #[.string s, .int .i64 (win : Int)] w fun e w' => ∃ c bm gb, e = .returned (.pointer (some ⟨c, 0, none⟩)) ∧ CH w' c bm gb s win 0 ∧ Below w.heap.size w w' ∧ w.heap.size ≤ c ∧ w.heap.size ≤ bm ∧ w.heap.size ≤ gb := by
  have HT := hide (fun w => triesOf_any s w hs)
  have hmk := make_ints s.size hs
  have hmm := @run_makeMap Tryd.prog
  go_enter Tryd.func18, Tryd.ntmps18
  go_wp2_with fail
  go_region_with (first | (go_at_call 33; refine (unhide HT _).mono ?_; rintro e w1 ⟨rfl, rfl⟩))
  all_goals
    go_wp2
    go_ret
    first
    | (obtain ⟨h1, h2, h3⟩ := three_heap w (.map #[] 0) (.cells (madeCells #[.int .i64 0] s.size) 3) (.cells #[.string s, .int .i64 (win : Int), .int .i64 3000, .map (some w.heap.size), .slice (some ⟨w.heap.size + 1, 0, none⟩) s.size s.size] 72)
       exact ⟨w.heap.size + 1 + 1, w.heap.size, w.heap.size + 1, rfl, CH.made s win h3 h1 h2 (by omega) (by omega) (by omega), (((Below.refl _ _).alloc (Nat.le_refl _) _).alloc (by simp) _).alloc (by simp; omega) _ |>.drew, by omega, by omega, by omega⟩)
    | (obtain ⟨h1, h2, h3⟩ := three_heap w (.cells (madeCells #[.int .i64 0] s.size) 3) (.map #[] 0) (.cells #[.string s, .int .i64 (win : Int), .int .i64 3000, .map (some (w.heap.size + 1)), .slice (some ⟨w.heap.size, 0, none⟩) s.size s.size] 72)
       exact ⟨w.heap.size + 1 + 1, w.heap.size + 1, w.heap.size, rfl, CH.made s win h3 h2 h1 (by omega) (by omega) (by omega), (((Below.refl _ _).alloc (Nat.le_refl _) _).alloc (by simp) _).alloc (by simp; omega) _ |>.drew, by omega, by omega, by omega⟩)
end Go.Proofs.YtlnglpphlcebdadDoor
