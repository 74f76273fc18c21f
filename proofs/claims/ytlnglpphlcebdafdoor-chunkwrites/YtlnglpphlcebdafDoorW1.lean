/- Walks of the functions of package sum. -/
import Derived.Test.YtlnglpphlcebdafDoorChecked
import Derived.Test.YtlnglpphlcebdafDoorCrc
import Derived.Test.YtlnglpphlcebdafDoorBase
import Derived.WalkKit
import Derived.WalkLawsBesides
import Derived.WalkSpells
import Derived.Handy
import Derived.Laws.BitsAllLaws
import Derived.Laws.Shifts
import Derived.Deep.LoopGhost
import Derived.Deep.WholeRow
import Derived.Laws.ResultCell
namespace Go.Proofs.YtlnglpphlcebdafDoor
open Go.RowKit


theorem and_one (c : Nat) (h : c < 4294967296) : bits .and .u32 (c : Int) 1 = ((c % 2 : Nat) : Int) := by
  have := u32_and_nat c 1 h (by omega)
  rw [nat_mask1] at this
  exact this

theorem step_odd (c : Nat) (h : c < 4294967296) (h1 : c % 2 = 1) : bits .xor .u32 ((c : Int) / 2) 3988292384 = (Crc.step c : Nat) := by
  have := u32_xor_nat (c / 2) 3988292384 (by omega) (by omega)
  rw [show (((c / 2 : Nat) : Int)) = (c : Int) / 2 from by omega] at this
  unfold Crc.step
  rw [if_pos h1]
  exact this

theorem oneRight_any (c : Nat) (w : World) (h : c < 4294967296) :
    Calls Tryd.prog 78 #[.int .u32 (c : Int)] w fun e w' => e = .returned (.int .u32 (Crc.step c : Nat)) ∧ w' = w := by
  have ha := and_one c h
  by_cases h1 : c % 2 = 1
  · have hb : (bits .and .u32 (c : Int) 1 == 1) = true := by rw [ha, h1]; rfl
    have hs := hide (step_odd c h h1)
    clear ha
    go_enter Tryd.func78, Tryd.ntmps78
    go_wp2
    go_ret
    exact ⟨ret_int (unhide hs), rfl⟩
  · have hb : (bits .and .u32 (c : Int) 1 == 1) = false := by rw [ha, show c % 2 = 0 from by omega]; rfl
    clear ha
    go_enter Tryd.func78, Tryd.ntmps78
    go_wp2
    go_ret
    exact ⟨ret_int (by unfold Crc.step; rw [if_neg h1]; omega), rfl⟩

/-- The table of bytes' sums, its first k places filled. -/
def tab (k : Nat) : Array Value := ((List.range 256).map fun b => Value.int .u32 ((if b < k then Crc.steps 8 b else 0 : Nat) : Int)).toArray

theorem tab_size (k : Nat) : (tab k).size = 256 := by simp [tab]
theorem tab_one (k : Nat) : (tab k).all (·.oneCell') = true := by
  rw [Array.all_eq_true_iff_forall_mem]
  intro v hv
  simp [tab] at hv
  obtain ⟨a, _, rfl⟩ := hv
  rfl
theorem tab_at (k j : Nat) (hj : j < 256) : (tab k)[j]? = some (.int .u32 ((if j < k then Crc.steps 8 j else 0 : Nat) : Int)) := by
  simp [tab, List.getElem?_range hj]
theorem tab_set (k : Nat) (hk : k < 256) : (tab k).setIfInBounds k (.int .u32 (Crc.steps 8 k : Nat)) = tab (k + 1) := by
  apply Array.ext_getElem?
  intro j
  rw [Array.getElem?_setIfInBounds]
  by_cases hj : j < 256
  · rw [tab_at _ _ hj, tab_at _ _ hj, tab_size]
    by_cases e : k = j
    · subst e
      simp [hk]
    · rw [if_neg e]
      by_cases h : j < k
      · rw [if_pos h, if_pos (by omega)]
      · rw [if_neg h, if_neg (by omega)]
  · have h1 : (tab k)[j]? = none := Array.getElem?_eq_none (by rw [tab_size]; omega)
    have h2 : (tab (k + 1))[j]? = none := Array.getElem?_eq_none (by rw [tab_size]; omega)
    rw [h1, h2, tab_size]
    rw [if_neg (by omega)]

theorem zero29 (w : World) : (zeroValue 127).run Tryd.prog w = .ok (.agg (tab 0)) w := by kernel_rfl

theorem below_setRow (B : Nat) (w : World) (g : Nat) (c : Array Value) (h : B ≤ g) : Below B w (w.setRow g c) := by
  refine ⟨rfl, rfl, rfl, by simp [World.setRow], fun k hk => ?_⟩
  simp only [World.setRow, Array.getElem?_modify]
  rw [if_neg (by omega)]

theorem info29 (k : Nat) : (Tryd.prog.info? 127).map (·.size) = some (tab k).size := by
  rw [tab_size]
  kernel_rfl

set_option maxHeartbeats 400000 in
set_option maxRecDepth 100000 in
theorem byteSums_any (w : World) :
    Calls Tryd.prog 77 #[] w fun e w' => e = .returned (.agg (tab 256)) ∧ Below w.heap.size w w' := by
  have hz := zero29
  go_enter Tryd.func77, Tryd.ntmps77
  go_wp2
  clear hz
  go_loopw [4] (fun i wr => ∃ k : Nat, k ≤ 256 ∧ i = .int .i64 k ∧ wr = (w.alloc (.cells (tab 0) 127)).alloc (.cells (tab k) 127)) (fun i _ => 256 - (intOf i).toNat)
  case atStart => exact ⟨0, by omega, rfl, rfl⟩
  case round =>
    obtain ⟨k, hk, rfl, rfl⟩ := hrel
    by_cases hlt : k < 256
    · have hd : decide ((k : Int) < 256) = true := by simp; omega
      go_wp2
      go_loopw [3, 9] (fun c i wr => ∃ j : Nat, j ≤ 8 ∧ i = .int .i64 j ∧ c = .int .u32 (Crc.steps j k : Nat) ∧ wr = (w.alloc (.cells (tab 0) 127)).alloc (.cells (tab k) 127)) (fun _ i _ => 8 - (intOf i).toNat)
      case atStart => exact ⟨0, by omega, rfl, rfl, rfl⟩
      case round =>
        obtain ⟨j, hj, rfl, rfl, rfl⟩ := hrel
        by_cases hlt8 : j < 8
        · have hs := Crc.steps_lt j (c := k) (by omega)
          have he := hide (Crc.steps_succ' j k)
          go_wp2_with (go_at_call 78; refine (oneRight_any _ _ hs).mono ?_; rintro e w' ⟨rfl, rfl⟩)
          go_roundw
          case rel => exact ⟨j + 1, by omega, by go_num, by rw [unhide he], trivial⟩
          case measure => simp [intOf]; omega
        · have : j = 8 := by omega
          subst this
          have ht := tab_at k k (by omega)
          go_wp2
          go_roundw
          case rel => exact ⟨k + 1, by omega, by go_num, by rw [tab_set k hlt]⟩
          case measure => simp [intOf]; omega
    · have : k = 256 := by omega
      subst this
      have hg : ((w.alloc (.cells (tab 0) 127)).alloc (.cells (tab 256) 127)).heap[w.heap.size + 1]? = some (.cells (tab 256) 127 (0, 0)) := by
        have := heap_alloc_last (w.alloc (.cells (tab 0) 127)) (.cells (tab 256) 127)
        simpa using this
      have hg0 : ((w.alloc (.cells (tab 0) 127)).alloc (.cells (tab 256) 127)).heap[w.heap.size]? = some (.cells (tab 0) 127 (0, 0)) := by
        rw [Below.heap_alloc _ _ _ (by simp), heap_alloc_last]
      go_wp2_with (first | refine wpList_load_row rfl 127 _ rfl (w.heap.size + 1) rfl 127 (tab 256) (0, 0) _ hg Tryd.underlying127 rfl (info29 _) ?_ | refine wpList_store_row rfl 127 _ _ rfl w.heap.size (tab 256) rfl rfl 127 (tab 0) hg0 (info29 _) (by rw [tab_size, tab_size]) (tab_one _) ?_)
      refine bodyPost_ret (v := .agg (tab 256)) (results_cell_row (P := Tryd.prog) (fn := Tryd.f77) (p := 0) (ty := 127) (by kernel_rfl) _ _ w.heap.size 127 (tab 256) (0, 0) _ rfl ?_ Tryd.underlying127 rfl (info29 _)) rfl ⟨rfl, ?_⟩
      · simp only [World.setRow, Array.getElem?_modify, hg0]
        simp
      · exact ((((Below.refl _ _).alloc (Nat.le_refl _) (.cells (tab 0) 127)).alloc (by simp) (.cells (tab 256) 127))).trans (below_setRow _ _ _ _ (Nat.le_refl _))
end Go.Proofs.YtlnglpphlcebdafDoor
