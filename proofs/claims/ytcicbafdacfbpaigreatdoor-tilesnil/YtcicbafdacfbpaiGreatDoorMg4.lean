/- Which pictures are right: the program's. What a walk is told of a slice of numbers that came in. -/
import Derived.Test.YtcicbafdacfbpaiGreatDoorPx1
import Derived.Test.YtcicbafdacfbpaiGreatDoorChecked
import Derived.WalkKit
import Derived.ProofKit
import Derived.OpenShut
import Derived.ChangeArms
import Derived.Deep.Slices
namespace Go.Proofs.YtcicbafdacfbpaiGreatDoor
open Go.RowKit

theorem isSide_any (z : Int) (w : World) :
    Calls Tryz.prog 62 #[.int .i64 z] w fun e w' => e = .returned (.bool (decide (1 ≤ z ∧ z ≤ 256))) ∧ w' = w := by
  by_cases h1 : 1 ≤ z
  · have d1 : decide (z ≥ 1) = true := decide_eq_true h1
    have d1' : decide (1 ≤ z) = true := d1
    by_cases h2 : z ≤ 256
    · have d2 : decide (z ≤ 256) = true := decide_eq_true h2
      rw [decide_eq_true (⟨h1, h2⟩ : 1 ≤ z ∧ z ≤ 256)]
      clear h1 h2
      go_enter Tryz.func62, Tryz.ntmps62
      go_wp2
      go_ret
      exact ⟨rfl, rfl⟩
    · have d2 : decide (z ≤ 256) = false := decide_eq_false h2
      rw [decide_eq_false (fun q : 1 ≤ z ∧ z ≤ 256 => h2 q.2)]
      clear h1 h2
      go_enter Tryz.func62, Tryz.ntmps62
      go_wp2
      go_ret
      exact ⟨rfl, rfl⟩
  · have d1 : decide (z ≥ 1) = false := decide_eq_false h1
    have d1' : decide (1 ≤ z) = false := d1
    rw [decide_eq_false (fun q : 1 ≤ z ∧ z ≤ 256 => h1 q.1)]
    clear h1
    go_enter Tryz.func62, Tryz.ntmps62
    go_wp2
    go_ret
    exact ⟨rfl, rfl⟩

theorem isRight_any (W H : Int) (a : Option Addr) (n c : Nat) (w : World) :
    Calls Tryz.prog 31 #[.agg #[.int .i64 W, .int .i64 H, .slice a n c]] w fun e w' => e = .returned (.bool (decide (RightP W H n))) ∧ Below w.heap.size w w' := by
  have hb : Below w.heap.size w (w.alloc (.cells #[.int .i64 W, .int .i64 H, .slice a n c] 24)) := (Below.refl _ _).alloc (Nat.le_refl _) _
  have HS := hide isSide_any
  by_cases h1 : 1 ≤ W ∧ W ≤ 256
  · by_cases h2 : 1 ≤ H ∧ H ≤ 256
    · have hz : 0 ≤ W * H ∧ W * H ≤ 65536 := by
        have q1 := Int.mul_nonneg (show 0 ≤ W by omega) (show 0 ≤ H by omega)
        have q2 : W * H ≤ 256 * 256 := Int.mul_le_mul h1.2 h2.2 (by omega) (by omega)
        omega
      obtain ⟨m, hm⟩ : ∃ m, m = W * H := ⟨_, rfl⟩
      have hm' : W * H = m := hm.symm
      have hR : decide (RightP W H n) = decide ((n : Int) = m) := by
        unfold RightP
        rw [hm]
        congr 1
        simp [h1, h2]
      rw [hR]
      rw [← hm] at hz
      have e1 := fun w => isSide_any W w
      have e2 := fun w => isSide_any H w
      rw [decide_eq_true h1] at e1
      rw [decide_eq_true h2] at e2
      have E1 := hide e1
      have E2 := hide e2
      have hbq : ((n : Int) == m) = decide ((n : Int) = m) := by
        by_cases q : (n : Int) = m
        · rw [decide_eq_true q]; simpa using q
        · rw [decide_eq_false q]; simpa using q
      clear hm hR e1 e2 HS h1 h2
      go_enter Tryz.func31, Tryz.ntmps31
      go_wp2_with fail
      refine (unhide E1 _).mono ?_; rintro e w1 ⟨rfl, rfl⟩
      go_wp2_with fail
      refine (unhide E2 _).mono ?_; rintro e w1 ⟨rfl, rfl⟩
      go_wp2
      go_ret
      exact ⟨by first | rfl | rw [hbq], hb⟩
    · have e1 := fun w => isSide_any W w
      have e2 := fun w => isSide_any H w
      rw [decide_eq_true h1] at e1
      rw [decide_eq_false h2] at e2
      have E1 := hide e1
      have E2 := hide e2
      rw [decide_eq_false (fun q : RightP W H n => h2 q.2.1)]
      clear e1 e2 HS h1 h2
      go_enter Tryz.func31, Tryz.ntmps31
      go_wp2_with fail
      refine (unhide E1 _).mono ?_; rintro e w1 ⟨rfl, rfl⟩
      go_wp2_with fail
      refine (unhide E2 _).mono ?_; rintro e w1 ⟨rfl, rfl⟩
      go_wp2
      go_ret
      exact ⟨rfl, hb⟩
  · have e1 := fun w => isSide_any W w
    rw [decide_eq_false h1] at e1
    have E1 := hide e1
    rw [decide_eq_false (fun q : RightP W H n => h1 q.1)]
    clear e1 HS h1
    go_enter Tryz.func31, Tryz.ntmps31
    go_wp2_with fail
    refine (unhide E1 _).mono ?_; rintro e w1 ⟨rfl, rfl⟩
    go_wp2
    go_ret
    exact ⟨rfl, hb⟩
end Go.Proofs.YtcicbafdacfbpaiGreatDoor
namespace Go.Proofs.YtcicbafdacfbpaiGreatDoor
open Go.ChangeShapes Go.WideShapes Go.RowKit Go.Deep

/-- It is empty; or it leads to a row of numbers. -/
def IsInts (w : World) (a : Option Addr) (len : Nat) (z : Nat → Int) : Prop :=
  len = 0 ∨ ∃ b off, a = some ⟨b, off, none⟩ ∧ len ≤ maxLen ∧ ∀ i, i < len →
    w.cell? ⟨b, off + i, none⟩ = some (.int .i64 (z i)) ∧ -9223372036854775808 ≤ z i ∧ z i ≤ 9223372036854775807

theorem IsInts.below {w w' : World} {a : Option Addr} {len : Nat} {z : Nat → Int} (h : IsInts w a len z) (hb : Below w.heap.size w w') : IsInts w' a len z := by
  rcases h with h | ⟨b, off, ha, hl, h⟩
  · exact .inl h
  · refine .inr ⟨b, off, ha, hl, fun i hi => ⟨?_, (h i hi).2⟩⟩
    have h1 := (h i hi).1
    rw [hb.cell (World.block_lt_of_cell? _ _ h1)]; exact h1

theorem ints_cells : Tryz.prog.cellsOf 3 = 1 := by kernel_rfl

theorem open_nums {H : Type} {enc : TypeId × Value → H} {w : World} {base : Nat} {spare : Nat → Bool} {held : Bool} {fuel : Nat} {a : Option Addr} {len cap : Nat} {x : DataW H × List MemPlace}
    (h : DataW.trod enc Tryz.prog w base spare held fuel 86 [.slice a len cap] = some x) : ∃ z : Nat → Int, IsInts w a len z := by
  rcases open_slice1 Tryz.underlying86 ints_cells h with ⟨hcs, _⟩ | ⟨x, l, c, m, n, V, D, Pl, hcs, _, hl, hm, hmm, _, hx⟩
  · simp at hcs
    exact ⟨fun _ => 0, .inl hcs.2.1⟩
  simp at hcs
  obtain ⟨rfl, rfl, rfl⟩ := hcs
  have hlm : len ≤ m := by rw [hmm]; split <;> omega
  by_cases h0 : len = 0
  · exact ⟨fun _ => 0, .inl h0⟩
  have each : ∀ i, i < len → ∃ q : Int, w.cell? (x.add i) = some (.int .i64 q) ∧ -9223372036854775808 ≤ q ∧ q ≤ 9223372036854775807 := by
    intro i hi
    obtain ⟨h1, h2⟩ := hx i (by omega)
    obtain ⟨n1, e1, _, wf1⟩ := DataW.trod_int Tryz.underlying3 h2
    simp at e1
    rw [e1] at h1
    have u1 := bounds_i64 wf1
    exact ⟨n1, h1, by omega, by omega⟩
  obtain ⟨q, hq⟩ := choose_lt each
  obtain ⟨b, off, spot⟩ := x
  have hspot : spot = none := by
    have := (hq 0 (by omega)).1
    simpa [Addr.add] using World.cell?_spot this
  subst hspot
  refine ⟨q, .inr ⟨b, off, rfl, by omega, fun i hi => ?_⟩⟩
  have hadd : ∀ j, (⟨b, off, none⟩ : Addr).add j = ⟨b, off + j, none⟩ := fun j => by unfold Addr.add; split <;> simp_all
  have := hq i hi
  rw [hadd] at this
  exact this

end Go.Proofs.YtcicbafdacfbpaiGreatDoor
