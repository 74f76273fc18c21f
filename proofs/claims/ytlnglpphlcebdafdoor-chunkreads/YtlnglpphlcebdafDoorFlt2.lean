/- layercakelaw2.faulted by its contracts. -/
import Derived.Test.YtlnglpphlcebdafDoorBase
import Derived.Test.YtlnglpphlcebdafDoorCodeS
namespace Go.Proofs.YtlnglpphlcebdafDoor
open Go.RowKit

/-- layercakelaw2.faulted, of a pointer to api.Fault. -/
theorem faulted2_at (q i c : Nat) (w : World) (a : Nat → Addr) (hS : Sent w a) (hi : c < 9) (h0 : w.cell? ⟨q, 0, none⟩ = some (.int .i64 (i : Int))) (h1 : w.cell? ⟨q, 1, none⟩ = some (sentV a c)) :
    Calls Tryd.prog 22 #[.iface 61 (.pointer (some ⟨q, 0, none⟩)), .agg #[.int .i64 ((c : Int) + 1), .int .i64 (i : Int)]] w fun e w' => e = .returned (.bool true) ∧ Below w.heap.size w w' := by
  have hb0 : Below w.heap.size w (w.alloc (.cells #[.int .i64 ((c : Int) + 1), .int .i64 (i : Int)] 35)) := (Below.refl _ _).alloc (Nat.le_refl _) _
  have hq : q < w.heap.size := World.block_lt_of_cell? _ _ h0
  have HC := hide (code_fault q 0 (i : Int) c (w.alloc (.cells #[.int .i64 ((c : Int) + 1), .int .i64 (i : Int)] 35)) a (hS.below hb0) hi ((hb0.cell (p := ⟨q, 0, none⟩) hq).trans h0) ((hb0.cell (p := ⟨q, 0 + 1, none⟩) hq).trans h1))
  have f0 : (w.alloc (.cells #[.int .i64 ((c : Int) + 1), .int .i64 (i : Int)] 35)).cell? ⟨w.heap.size, 0, none⟩ = some (.int .i64 ((c : Int) + 1)) := by simp
  have f1 : (w.alloc (.cells #[.int .i64 ((c : Int) + 1), .int .i64 (i : Int)] 35)).cell? ⟨w.heap.size, 1, none⟩ = some (.int .i64 (i : Int)) := by simp
  have hz : w.heap.size < (w.alloc (.cells #[.int .i64 ((c : Int) + 1), .int .i64 (i : Int)] 35)).heap.size := by simp
  have c0 : (((c : Int) + 1) == 0) = false := by simp; omega
  clear hS h0 h1
  go_enter Tryd.func22, Tryd.ntmps22
  go_wp2_with fail
  refine (unhide HC).mono ?_
  generalize w.alloc (.cells #[.int .i64 ((c : Int) + 1), .int .i64 (i : Int)] 35) = w0 at *
  rintro e w1 ⟨rfl, hb1⟩
  have k0 := (hb1.cell (p := ⟨w.heap.size, 0, none⟩) hz).trans f0
  have k1 := (hb1.cell (p := ⟨w.heap.size, 1, none⟩) hz).trans f1
  have hbw : Below w.heap.size w w1 := hb0.trans (hb1.mono hb0.size)
  clear HC hb1 hb0 f0 f1 hz
  go_wp2
  go_ret
  exact ⟨rfl, hbw⟩

/-- .. of one of the errors, bare. -/
theorem faulted2_bare (c : Nat) (w : World) (a : Nat → Addr) (hS : Sent w a) (hi : c < 9) :
    Calls Tryd.prog 22 #[sentV a c, .agg #[.int .i64 ((c : Int) + 1), .int .i64 (-1)]] w fun e w' => e = .returned (.bool true) ∧ Below w.heap.size w w' := by
  have hb0 : Below w.heap.size w (w.alloc (.cells #[.int .i64 ((c : Int) + 1), .int .i64 (-1)] 35)) := (Below.refl _ _).alloc (Nat.le_refl _) _
  have HC := hide (code_sent c (w.alloc (.cells #[.int .i64 ((c : Int) + 1), .int .i64 (-1)] 35)) a (hS.below hb0) hi)
  have f0 : (w.alloc (.cells #[.int .i64 ((c : Int) + 1), .int .i64 (-1)] 35)).cell? ⟨w.heap.size, 0, none⟩ = some (.int .i64 ((c : Int) + 1)) := by simp
  have f1 : (w.alloc (.cells #[.int .i64 ((c : Int) + 1), .int .i64 (-1)] 35)).cell? ⟨w.heap.size, 1, none⟩ = some (.int .i64 (-1)) := by simp
  have hz : w.heap.size < (w.alloc (.cells #[.int .i64 ((c : Int) + 1), .int .i64 (-1)] 35)).heap.size := by simp
  have c0 : (((c : Int) + 1) == 0) = false := by simp; omega
  clear hS
  generalize sentV a c = v at *
  go_enter Tryd.func22, Tryd.ntmps22
  go_wp2_with fail
  refine (unhide HC).mono ?_
  generalize w.alloc (.cells #[.int .i64 ((c : Int) + 1), .int .i64 (-1)] 35) = w0 at *
  rintro e w1 ⟨rfl, hb1⟩
  have k0 := (hb1.cell (p := ⟨w.heap.size, 0, none⟩) hz).trans f0
  have k1 := (hb1.cell (p := ⟨w.heap.size, 1, none⟩) hz).trans f1
  have hbw : Below w.heap.size w w1 := hb0.trans (hb1.mono hb0.size)
  clear HC hb1 hb0 f0 f1 hz
  go_wp2
  go_ret
  exact ⟨rfl, hbw⟩
end Go.Proofs.YtlnglpphlcebdafDoor
