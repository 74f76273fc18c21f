/- Walks of the program's Inflate: what is thrown is caught. -/
import Derived.Test.YtbbcfghlhgaofadDoorIn10
import Derived.Defers
import Derived.Recover
import Derived.Laws.Pointers
namespace Go.Proofs.YtbbcfghlhgaofadDoor
open Go.RowKit Pm Cn Cd Nf

theorem bounded_any (s : ByteArray) (most : Int) (w : World) :
    Calls Tryd.prog 27 #[.string s, .int .i64 most] w fun e w' => e = .returned (.bool (decide (0 ≤ most ∧ most ≤ 300000 ∧ (s.size : Int) ≤ 300000))) ∧ w' = w := by
  by_cases h1 : 0 ≤ most
  · have d1 : decide (0 ≤ most) = true := by simpa using h1
    by_cases h2 : most ≤ 300000
    · have d2 : decide (most ≤ 300000) = true := by simpa using h2
      by_cases h3 : (s.size : Int) ≤ 300000
      · have d3 : decide ((s.size : Int) ≤ 300000) = true := by simpa using h3
        rw [decide_eq_true (⟨h1, h2, h3⟩ : 0 ≤ most ∧ most ≤ 300000 ∧ (s.size : Int) ≤ 300000)]
        go_enter Tryd.func27, Tryd.ntmps27
        go_wp2
        go_ret
        exact ⟨rfl, rfl⟩
      · have d3 : decide ((s.size : Int) ≤ 300000) = false := by simpa using h3
        rw [decide_eq_false (fun q : 0 ≤ most ∧ most ≤ 300000 ∧ (s.size : Int) ≤ 300000 => h3 q.2.2)]
        go_enter Tryd.func27, Tryd.ntmps27
        go_wp2
        go_ret
        exact ⟨rfl, rfl⟩
    · have d2 : decide (most ≤ 300000) = false := by simpa using h2
      rw [decide_eq_false (fun q : 0 ≤ most ∧ most ≤ 300000 ∧ (s.size : Int) ≤ 300000 => h2 q.2.1)]
      go_enter Tryd.func27, Tryd.ntmps27
      go_wp2
      go_ret
      exact ⟨rfl, rfl⟩
  · have d1 : decide (0 ≤ most) = false := by simpa using h1
    rw [decide_eq_false (fun q : 0 ≤ most ∧ most ≤ 300000 ∧ (s.size : Int) ≤ 300000 => h1 q.1)]
    go_enter Tryd.func27, Tryd.ntmps27
    go_wp2
    go_ret
    exact ⟨rfl, rfl⟩

theorem catch_idle (a b c : Addr) (w : World) :
    CallsD Tryd.prog 28 #[.pointer (some a), .pointer (some b), .pointer (some c)] .returning w fun e u' w' => e = .returned (.tuple #[]) ∧ u' = .returning ∧ w' = w := by
  refine callsD_of_wpS Tryd.func28 rfl fun c₀ cs hu => ?_
  apply wpS_seq
  apply wpS_region
  simp [wpOpsS, go_sem, recoverD, hu, Tryd.ntmps28, Exit.thenS]
  refine wpS_of_wp ?_
  go_wp2
  cases c₀
  simp_all [bodyPostS, results, Tryd.results28]

set_option maxHeartbeats 2000000 in
set_option maxRecDepth 100000 in
theorem catch_thrown (A B C : Nat) (t : TypeId) (x va vb vc : Value) (w : World) (hAB : A < B) (hBC : B < C) (ha : w.cell? ⟨A, 0, none⟩ = some va) (hb : w.cell? ⟨B, 0, none⟩ = some vb) (hc : w.cell? ⟨C, 0, none⟩ = some vc) (fa : w.frozen? ⟨A, 0, none⟩ = false) (fb : w.frozen? ⟨B, 0, none⟩ = false) (fc : w.frozen? ⟨C, 0, none⟩ = false) :
    CallsD Tryd.prog 28 #[.pointer (some ⟨A, 0, none⟩), .pointer (some ⟨B, 0, none⟩), .pointer (some ⟨C, 0, none⟩)] (.panicking (thrown t x)) w fun e u' w' => e = .returned (.tuple #[]) ∧ u' = .panicking [{ v := .iface 60 (.agg #[.iface t x]), recovered := true }] ∧ w'.cell? ⟨A, 0, none⟩ = some (.string ⟨#[]⟩) ∧ w'.cell? ⟨B, 0, none⟩ = some (.int .i64 0) ∧ w'.cell? ⟨C, 0, none⟩ = some (.iface t x) ∧ Below A w w' := by
  have hta : ∀ (v : Value) (w : World), (Instr.typeAssert (.iface 60 v) 20 60 true).run Tryd.prog w = .ok (.tuple #[v, .bool true]) w := fun _ _ => by kernel_rfl
  have nAB : ¬ A = B := by omega
  have nBC : ¬ B = C := by omega
  have nAC : ¬ A = C := by omega
  have nBA : ¬ B = A := by omega
  have nCB : ¬ C = B := by omega
  have nCA : ¬ C = A := by omega
  unfold thrown
  have hAl := World.block_lt_of_cell? _ _ ha
  have hBl := World.block_lt_of_cell? _ _ hb
  have hCl := World.block_lt_of_cell? _ _ hc
  simp only at hAl hBl hCl
  refine callsD_of_wpS Tryd.func28 rfl fun c₀ cs hu => ?_
  apply wpS_seq
  apply wpS_region
  simp [wpOpsS, go_sem, recoverD, hu, Tryd.ntmps28, Exit.thenS]
  rw [show (Array.replicate 11 (undef : Value)) = #[undef, undef, undef, undef, undef, undef, undef, undef, undef, undef, undef] from rfl]
  simp only [List.setIfInBounds_toArray, List.set_cons_zero, List.set_cons_succ, List.append_toArray, List.cons_append, List.nil_append]
  refine wpS_of_wp ?_
  go_wp2
  have hw0 : (w.alloc (.cells #[.iface t x] 60)).cell? ⟨w.heap.size, 0, none⟩ = some (.iface t x) := by simp
  have bz : Below w.heap.size w (w.alloc (.cells #[.iface t x] 60)) := (Below.refl _ _).alloc (Nat.le_refl _) _
  have ha0 := (bz.cell (p := ⟨A, 0, none⟩) hAl).trans ha
  have hb0 := (bz.cell (p := ⟨B, 0, none⟩) hBl).trans hb
  have hc0 := (bz.cell (p := ⟨C, 0, none⟩) hCl).trans hc
  have fa0 := (bz.frozen (p := ⟨A, 0, none⟩) hAl).trans fa
  have fb0 := (bz.frozen (p := ⟨B, 0, none⟩) hBl).trans fb
  have fc0 := (bz.frozen (p := ⟨C, 0, none⟩) hCl).trans fc
  have hzz : w.heap.size < (w.alloc (.cells #[.iface t x] 60)).heap.size := by simp
  obtain ⟨E, hE⟩ : ∃ E, E = w.heap.size := ⟨_, rfl⟩
  rw [← hE] at hw0 ⊢
  have nAE : ¬ A = E := by omega
  have nBE : ¬ B = E := by omega
  have nCE : ¬ C = E := by omega
  have nEA : ¬ E = A := by omega
  have nEB : ¬ E = B := by omega
  have nEC : ¬ E = C := by omega
  generalize w.alloc (.cells #[.iface t x] 60) = w0 at *
  have HF : Hid (∀ w2, w2 = ((w0.setCell ⟨A, 0, none⟩ (.string ⟨#[]⟩)).setCell ⟨B, 0, none⟩ (.int .i64 0)).setCell ⟨C, 0, none⟩ (.iface t x) → w2.cell? ⟨A, 0, none⟩ = some (.string ⟨#[]⟩) ∧ w2.cell? ⟨B, 0, none⟩ = some (.int .i64 0) ∧ w2.cell? ⟨C, 0, none⟩ = some (.iface t x) ∧ Below A w w2) := fun w2 e => by
    subst e
    have q : ∀ (X Y : Nat), X ≠ Y → (⟨X, 0, none⟩ : Addr) ≠ ⟨Y, 0, none⟩ := fun X Y h e => h (by injection e)
    refine ⟨?_, ?_, ?_, ?_⟩
    · rw [World.cell?_setCell_other _ _ _ _ (q C A (by omega)), World.cell?_setCell_other _ _ _ _ (q B A (by omega))]
      exact World.cell?_setCell_same _ _ _ ha0
    · rw [World.cell?_setCell_other _ _ _ _ (q C B (by omega))]
      exact World.cell?_setCell_same _ _ _ ((World.cell?_setCell_other _ _ _ _ (q A B (by omega))).trans hb0)
    · exact World.cell?_setCell_same _ _ _ ((World.cell?_setCell_other _ _ _ _ (q B C (by omega))).trans ((World.cell?_setCell_other _ _ _ _ (q A C (by omega))).trans hc0))
    · exact (((bz.mono (show A ≤ w.heap.size by omega)).setCell (p := ⟨A, 0, none⟩) (Nat.le_refl _) _).setCell (p := ⟨B, 0, none⟩) (Nat.le_of_lt hAB) _).setCell (p := ⟨C, 0, none⟩) (by show A ≤ C; omega) _
  clear ha hb hc fa fb fc hE bz hzz
  go_region
  obtain ⟨h1, h2, h3, h4⟩ := unhide HF _ rfl
  generalize ((w0.setCell ⟨A, 0, none⟩ (.string ⟨#[]⟩)).setCell ⟨B, 0, none⟩ (.int .i64 0)).setCell ⟨C, 0, none⟩ (.iface t x) = w2 at *
  have h1' : w2.drew.cell? ⟨A, 0, none⟩ = some (.string ⟨#[]⟩) := h1
  have h2' : w2.drew.cell? ⟨B, 0, none⟩ = some (.int .i64 0) := h2
  have h3' : w2.drew.cell? ⟨C, 0, none⟩ = some (.iface t x) := h3
  have h4' : Below A w w2.drew := h4.drew
  clear h1 h2 h3 h4 HF ha0 hb0 hc0 fa0 fb0 fc0 hw0
  generalize w2.drew = w3 at *
  go_wp2
  cases c₀
  simp_all [bodyPostS, results, Tryd.results28]
end Go.Proofs.YtbbcfghlhgaofadDoor
