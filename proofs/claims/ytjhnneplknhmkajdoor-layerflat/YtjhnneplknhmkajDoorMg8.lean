/- Pictures: parts, places that are near, pixels painted: the program's. Pictures: pixels that are meant become one color: the program's. Pictures: the functions that tell a pixel of each place: the program's. Written by genrt.py. Pictures: what the functions of package raster refuse. Written by genrt5.py. Pictures: what the functions of package raster refuse as out of bounds. Written by genrt5.py. plain.Code of one of the errors. layercakelaw2.coded by its contracts. -/
import Derived.Test.YtjhnneplknhmkajDoorMg6
import Derived.Test.YtjhnneplknhmkajDoorMg2
import Derived.Test.YtjhnneplknhmkajDoorMg1
import Derived.Test.YtjhnneplknhmkajDoorCode
namespace Go.Proofs.YtjhnneplknhmkajDoor
open Go.RowKit




end Go.Proofs.YtjhnneplknhmkajDoor
namespace Go.Proofs.YtjhnneplknhmkajDoor
open Go.RowKit

def picO (W H : Int) (a : Option Addr) (n c : Nat) : Obj := .cells #[.int .i64 W, .int .i64 H, .slice a n c] 32
def pixO (p : Px) : Obj := .cells #[.int .u8 (p.r.toNat : Int), .int .u8 (p.g.toNat : Int), .int .u8 (p.b.toNat : Int), .int .u8 (p.a.toNat : Int)] 42


end Go.Proofs.YtjhnneplknhmkajDoor
namespace Go.Proofs.YtjhnneplknhmkajDoor
open Go.RowKit








end Go.Proofs.YtjhnneplknhmkajDoor
namespace Go.Proofs.YtjhnneplknhmkajDoor
open Go.RowKit

theorem far3 (w : World) (k b o : Nat) (v1 v2 v3 : Value) (h : k ≠ b) : (((w.setCell ⟨k, 0, none⟩ v1).setCell ⟨k, 1, none⟩ v2).setCell ⟨k, 2, none⟩ v3).cell? ⟨b, o, none⟩ = w.cell? ⟨b, o, none⟩ := by
  rw [World.cell?_setCell_far _ _ _ _ h, World.cell?_setCell_far _ _ _ _ h, World.cell?_setCell_far _ _ _ _ h]










end Go.Proofs.YtjhnneplknhmkajDoor
namespace Go.Proofs.YtjhnneplknhmkajDoor
open Go.RowKit

theorem rightN {W H n : Nat} (hW0 : 1 ≤ W) (hW : W ≤ 256) (hH0 : 1 ≤ H) (hH : H ≤ 256) (hn : n = W * H) : RightP (W : Int) (H : Int) n := ⟨by omega, by omega, by rw [hn]; simp⟩
/-- Near. -/
def Nr (z : Int) : Prop := -10000 ≤ z ∧ z ≤ 10000
instance (z : Int) : Decidable (Nr z) := by unfold Nr; infer_instance
theorem near4_any (z0 z1 z2 z3 : Int) (w : World) :
    Calls Tryd.prog 49 #[.slice (some ⟨w.heap.size, 0, none⟩) 4 4] (w.alloc (.cells #[.int .i64 z0, .int .i64 z1, .int .i64 z2, .int .i64 z3] 3)) fun e w' => e = .returned (.bool (decide (Nr z0 ∧ Nr z1 ∧ Nr z2 ∧ Nr z3))) ∧ w' = w.alloc (.cells #[.int .i64 z0, .int .i64 z1, .int .i64 z2, .int .i64 z3] 3) := by
  have k := heap_alloc_new w (.cells #[.int .i64 z0, .int .i64 z1, .int .i64 z2, .int .i64 z3] 3)
  have e4 : ∀ i, i < 4 → i = 0 ∨ i = 1 ∨ i = 2 ∨ i = 3 := fun i h => by omega
  refine areNear_any w.heap.size 4 4 (fun i => if i = 0 then z0 else if i = 1 then z1 else if i = 2 then z2 else z3) _ (by omega) (fun i hi => ?_) _ ?_
  · rcases e4 i hi with rfl | rfl | rfl | rfl <;> exact blk_cell k _
  · rw [decide_eq_true_eq]
    constructor
    · rintro ⟨h0, h1, h2, h3⟩ i hi
      rcases e4 i hi with rfl | rfl | rfl | rfl
      · exact h0
      · exact h1
      · exact h2
      · exact h3
    · intro h
      exact ⟨h 0 (by omega), h 1 (by omega), h 2 (by omega), h 3 (by omega)⟩
theorem near2_any (z0 z1 : Int) (w : World) :
    Calls Tryd.prog 49 #[.slice (some ⟨w.heap.size, 0, none⟩) 2 2] (w.alloc (.cells #[.int .i64 z0, .int .i64 z1] 3)) fun e w' => e = .returned (.bool (decide (Nr z0 ∧ Nr z1))) ∧ w' = w.alloc (.cells #[.int .i64 z0, .int .i64 z1] 3) := by
  have k := heap_alloc_new w (.cells #[.int .i64 z0, .int .i64 z1] 3)
  have e2 : ∀ i, i < 2 → i = 0 ∨ i = 1 := fun i h => by omega
  refine areNear_any w.heap.size 2 2 (fun i => if i = 0 then z0 else z1) _ (by omega) (fun i hi => ?_) _ ?_
  · rcases e2 i hi with rfl | rfl <;> exact blk_cell k _
  · rw [decide_eq_true_eq]
    constructor
    · rintro ⟨h0, h1⟩ i hi
      rcases e2 i hi with rfl | rfl
      · exact h0
      · exact h1
    · intro h
      exact ⟨h 0 (by omega), h 1 (by omega)⟩










end Go.Proofs.YtjhnneplknhmkajDoor
namespace Go.Proofs.YtjhnneplknhmkajDoor
open Go.RowKit

theorem code_sent (i : Nat) (w : World) (a : Nat → Addr) (hS : Sent w a) (hi : i < 9) :
    Calls Tryd.prog 32 #[sentV a i] w fun e w' => e = .returned (.tuple #[.int .i64 ((i : Int) + 1), .int .i64 (-1)]) ∧ Below w.heap.size w w' := by
  refine (code_bare (a i) i w a hS (by omega) (hS.row i hi) (fun k hk => ⟨fun h => ?_, fun h => by rw [h]⟩)).mono ?_
  · rcases Nat.decEq k i with h' | h'
    · exact absurd h (hS.apart i k hi hk (fun e => h' e.symm))
    · exact h'
  · rintro e w' ⟨rfl, hb⟩
    refine ⟨?_, hb⟩
    unfold codeOf
    rw [if_pos hi]
end Go.Proofs.YtjhnneplknhmkajDoor
namespace Go.Proofs.YtjhnneplknhmkajDoor
open Go.RowKit

end Go.Proofs.YtjhnneplknhmkajDoor
