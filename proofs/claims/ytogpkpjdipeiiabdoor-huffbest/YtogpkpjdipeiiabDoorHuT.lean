/- Walk of the closed fact of two words. -/
import Derived.Test.YtogpkpjdipeiiabDoorHuC
namespace Go.Proofs.YtogpkpjdipeiiabDoor
open Go.RowKit Pm Cn

theorem two_any (v1 v2 : Value) (w : World) (h1 : w.cell? ⟨0, 0, none⟩ = some v1) (h2 : w.cell? ⟨2, 0, none⟩ = some v2) :
    Calls Tryd.prog 22 #[] w fun e w' => e = .returned (.bool true) ∧ Below w.heap.size w w' := by
  have hb0 : Below w.heap.size w (w.alloc (.cells #[.int .i64 1, .int .i64 1] 3)) := (Below.refl _ _).alloc (Nat.le_refl _) _
  have hI : IsInts (w.alloc (.cells #[.int .i64 1, .int .i64 1] 3)) (some ⟨w.heap.size, 0, none⟩) 2 (fun _ => 1) :=
    .inr ⟨w.heap.size, 0, rfl, by unfold maxLen; omega, fun i hi => ⟨by
      rcases (show i = 0 ∨ i = 1 by omega) with rfl | rfl
      · simp
      · simp, by show (-9223372036854775808 : Int) ≤ 1; omega, by show (1 : Int) ≤ 9223372036854775807; omega⟩⟩
  have h1' := (hb0.cell (World.block_lt_of_cell? _ _ h1)).trans h1
  have h2' := (hb0.cell (World.block_lt_of_cell? _ _ h2)).trans h2
  have hnb : ¬ Bad (fun _ => (1 : Int)) 2 := by
    rintro (h | ⟨i, _, h⟩)
    · omega
    · simp only at h; omega
  have HC := hide (codes_right _ 2 2 (fun _ => 1) v1 v2 _ hI (by omega) h1' h2' hnb (.inr (.inr (by decide))))
  have e0 : code (nat fun _ => 1) 2 0 = 0 := by decide
  have e1 : code (nat fun _ => 1) 2 1 = 1 := by decide
  have hsz : (w.alloc (.cells #[.int .i64 1, .int .i64 1] 3)).heap.size = w.heap.size + 1 := by simp
  clear hI h1' h2' hnb h1 h2
  go_enter Tryd.func22, Tryd.ntmps22
  go_wp2_with fail
  refine (unhide HC).mono ?_; rintro e w2 ⟨g, rfl, hown, hb⟩
  have c0 := hown.cellAt 0 (by omega)
  have c1 := hown.cellAt 1 (by omega)
  rw [u32Vals_at _ _ _ (by omega), e0] at c0
  rw [u32Vals_at _ _ _ (by omega), e1] at c1
  have hb2 := hb0.trans (hb.mono (by rw [hsz]; omega))
  clear HC hown hb hb0 e0 e1 hsz
  go_wp2
  go_ret
  exact ⟨rfl, hb2⟩
end Go.Proofs.YtogpkpjdipeiiabDoor
