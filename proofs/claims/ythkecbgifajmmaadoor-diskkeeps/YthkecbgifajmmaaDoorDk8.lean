/- A disk: New. -/
import Derived.Test.YthkecbgifajmmaaDoorDk7
import Derived.Laws.MakeOwn
namespace Go.Proofs.YthkecbgifajmmaaDoor
open Go.RowKit

set_option maxHeartbeats 1000000 in
set_option maxRecDepth 100000 in
theorem dnew_no (s : Int) (w : World) (tE : TypeId) (vE : Value) (hm : s < 1 ∨ 4000 < s) (hE : w.cell? ⟨0, 0, none⟩ = some (.iface tE vE)) :
    Calls Tryd.prog 8 #[.int .i64 s] w fun e w' => e = .returned (.tuple #[.pointer none, .iface tE vE]) ∧ Below w.heap.size w w' := by
  have d : (decide (s < 1) = true ∧ True) ∨ (decide (s < 1) = false ∧ decide (s > 4000) = true ∧ decide (4000 < s) = true) := by
    by_cases h : s < 1
    · exact .inl ⟨decide_eq_true h, trivial⟩
    · exact .inr ⟨decide_eq_false h, decide_eq_true (by omega), decide_eq_true (by omega)⟩
  clear hm
  go_enter Tryd.func8, Tryd.ntmps8
  rcases d with ⟨d0, _⟩ | ⟨d0, d1, d2⟩
  all_goals
    go_wp2_with fail
    go_region
    go_wp2
    go_ret2
    exact ⟨rfl, belowDk (Below.refl _ _)⟩

/-- New sectors. -/
def secZ (n : Nat) : Array Value := madeCells zSec (n * 64)
theorem secZ_at (n j : Nat) (h : j < n * 64) : (secZ n)[j]? = some (.int .u8 0) := by
  have e : ∀ k, k < 64 → zSec[k]! = .int .u8 0 := fun k hk => by
    have hs := zSec_size
    rw [getElem!_pos zSec k (by omega)]
    simp only [zSec, List.getElem_toArray, List.getElem_replicate]
  simp only [secZ, madeCells]
  rw [Array.getElem?_map, Array.getElem?_range, if_pos h]
  simp only [Option.map_some, zSec_size]
  rw [e _ (Nat.mod_lt _ (by omega))]
theorem make_sec (n : Nat) (hn : n ≤ 4000) (w : World) : (Instr.makeSlice 53 (.int .i64 (n : Int)) (.int .i64 (n : Int))).run Tryd.prog w = .ok (.slice (some ⟨w.heap.size, 0, none⟩) n n) (w.alloc (.cells (secZ n) 67)) := by
  obtain ⟨i0, hi, hz0, hz1, hz2⟩ := info_parts sec_infoZ
  have h := run_make (P := Tryd.prog) w 53 67 i0 (.agg zSec) Tryd.underlying53 hi hz0 .i64 .i64 (n : Int) (n : Int) (by omega) (by omega) (by rw [hz2]; omega) (by omega)
  rw [h, hz1]
  simp only [Int.toNat_natCast]
  rfl
theorem zeroS_list : secL zeroS = List.replicate 64 (.int .u8 0) := by
  have e : zeroS.data.toList = List.replicate 64 0 := by kernel_rfl
  rw [secL, e, Lib.byteCells, List.map_replicate]
  rfl
theorem SecAt.new {w : World} {g n : Nat} (h : w.heap[g]? = some (.cells (secZ n) 67)) : SecAt w g n (fun _ => zeroS) := by
  refine ⟨fun i hi j v hv => ?_, fun i hi j hj => ⟨?_, blk_frozen h _⟩, blk_lt h⟩
  · rw [zeroS_list] at hv
    have hj : j < 64 := by have := (List.getElem?_eq_some_iff.1 hv).1; rwa [List.length_replicate] at this
    rw [List.getElem?_replicate, if_pos hj] at hv
    rw [blk_cell h, secZ_at n _ (by omega), hv]
  · rw [blk_cell h, secZ_at n _ (by omega)]
    rfl

set_option maxHeartbeats 1000000 in
set_option maxRecDepth 100000 in
theorem dnew_ok (n : Nat) (w : World) (h0 : 0 < n) (hn : n ≤ 4000) :
    Calls Tryd.prog 8 #[.int .i64 (n : Int)] w fun e w' => ∃ q fp, e = .returned (.tuple #[.pointer (some ⟨q, 0, none⟩), .nilIface]) ∧ DAt w' q n fp dk0 ∧ (∀ k, k ∈ fp → w.heap.size ≤ k) ∧ Below w.heap.size w w' := by
  have d0 : decide ((n : Int) < 1) = false := decide_eq_false (by omega)
  have d1 : decide ((n : Int) > 4000) = false := decide_eq_false (by omega)
  have d2 : decide ((4000 : Int) < (n : Int)) = false := decide_eq_false (by omega)
  have HM := make_sec n hn
  have hml : n ≤ maxLen := by unfold maxLen; omega
  have HA2 := hide (al3 w (.cells (secZ n) 67) (.cells (secZ n) 67) (.cells #[.bool false, .int .i64 0, .slice (some ⟨w.heap.size + 1, 0, none⟩) n n, .slice (some ⟨w.heap.size, 0, none⟩) n n, .slice none 0 0] 58))
  have HA := hide (al3 w (.cells (secZ n) 67) (.cells (secZ n) 67) (.cells #[.bool false, .int .i64 0, .slice (some ⟨w.heap.size, 0, none⟩) n n, .slice (some ⟨w.heap.size + 1, 0, none⟩) n n, .slice none 0 0] 58))
  go_enter Tryd.func8, Tryd.ntmps8
  go_wp2_with fail
  go_region
  all_goals
    go_wp2
    go_ret2
    first
      | (have hA := unhide HA
         exact ⟨w.heap.size + 2, [w.heap.size + 2, w.heap.size, w.heap.size + 1], rfl, ⟨w.heap.size, n, w.heap.size + 1, n, none, 0, 0, rfl, ⟨hA.k2, SecAt.new hA.k0, SecAt.new hA.k1, World.ownsRow_nil _ _ _ _, Nat.le_refl _, Nat.le_refl _, hml, hml, fun k e => (by cases e), by simp [blkS]⟩⟩, fun k hk => (by simp at hk; omega), belowDk (n := 1) hA.below⟩)
      | (have hA := unhide HA2
         exact ⟨w.heap.size + 2, [w.heap.size + 2, w.heap.size + 1, w.heap.size], rfl, ⟨w.heap.size + 1, n, w.heap.size, n, none, 0, 0, rfl, ⟨hA.k2, SecAt.new hA.k1, SecAt.new hA.k0, World.ownsRow_nil _ _ _ _, Nat.le_refl _, Nat.le_refl _, hml, hml, fun k e => (by cases e), by simp [blkS]⟩⟩, fun k hk => (by simp at hk; omega), belowDk (n := 1) hA.below⟩)
end Go.Proofs.YthkecbgifajmmaaDoor
