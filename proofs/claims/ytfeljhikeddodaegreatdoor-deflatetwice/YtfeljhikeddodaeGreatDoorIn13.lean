/- Walk of the program's Inflate, whatever it is given. -/
import Derived.Test.YtfeljhikeddodaeGreatDoorIn12
import Derived.Test.YtfeljhikeddodaeGreatDoorMg29
namespace Go.Proofs.YtfeljhikeddodaeGreatDoor
open Go.RowKit Pm Cn Cd Nf

/-- What Inflate answers, whatever it is given. -/
noncomputable def inflS (s : ByteArray) (most : Int) : Option Res :=
  if 0 ≤ most ∧ most ≤ 300000 ∧ (s.size : Int) ≤ 300000 then infl (tv s) (8 * s.size) most.toNat else some (.err .bound)
section
variable {t : TypeId} {xT xB xS : Value}

set_option maxHeartbeats 4000000 in
set_option maxRecDepth 100000 in
theorem inflate_out (s : ByteArray) (most : Int) (w : World) (hG : Gl w t xT xB xS) (hm : ¬ (0 ≤ most ∧ most ≤ 300000 ∧ (s.size : Int) ≤ 300000)) (hn : 6 ≤ w.heap.size) :
    Calls Tryz.prog 9 #[.string s, .int .i64 most] w fun e w' => e = .returned (inflV t xT xB (.err .bound)) ∧ Below w.heap.size w w' := by
  have hmf : ∀ (fn : Fn) (first cap : Array Value) (w : World), (Instr.makeFunc fn first cap).run Tryz.prog w = .ok (.func fn first cap) w := fun _ _ _ _ => rfl
  have HB := hide (fun w' => bounded_any s most w')
  rw [decide_eq_false hm] at HB
  have bz0 : Below w.heap.size w (((w.alloc (.cells #[.string ⟨#[]⟩] 9)).alloc (.cells #[.int .i64 0] 3)).alloc (.cells #[.nilIface] 25)) := (((Below.refl _ _).alloc (Nat.le_refl _) _).alloc (by simp) _).alloc (by simp; omega) _
  have cA : (((w.alloc (.cells #[.string ⟨#[]⟩] 9)).alloc (.cells #[.int .i64 0] 3)).alloc (.cells #[.nilIface] 25)).cell? ⟨w.heap.size, 0, none⟩ = some (.string ⟨#[]⟩) := by simp [go_sem]
  have cB : (((w.alloc (.cells #[.string ⟨#[]⟩] 9)).alloc (.cells #[.int .i64 0] 3)).alloc (.cells #[.nilIface] 25)).cell? ⟨w.heap.size + 1, 0, none⟩ = some (.int .i64 0) := by simp [go_sem]
  have cC : (((w.alloc (.cells #[.string ⟨#[]⟩] 9)).alloc (.cells #[.int .i64 0] 3)).alloc (.cells #[.nilIface] 25)).cell? ⟨w.heap.size + 1 + 1, 0, none⟩ = some .nilIface := by simp [go_sem]
  have fA : (((w.alloc (.cells #[.string ⟨#[]⟩] 9)).alloc (.cells #[.int .i64 0] 3)).alloc (.cells #[.nilIface] 25)).frozen? ⟨w.heap.size, 0, none⟩ = false := by simp [go_sem]
  have fB : (((w.alloc (.cells #[.string ⟨#[]⟩] 9)).alloc (.cells #[.int .i64 0] 3)).alloc (.cells #[.nilIface] 25)).frozen? ⟨w.heap.size + 1, 0, none⟩ = false := by simp [go_sem]
  have fC : (((w.alloc (.cells #[.string ⟨#[]⟩] 9)).alloc (.cells #[.int .i64 0] 3)).alloc (.cells #[.nilIface] 25)).frozen? ⟨w.heap.size + 1 + 1, 0, none⟩ = false := by simp [go_sem]
  have hz0 : (((w.alloc (.cells #[.string ⟨#[]⟩] 9)).alloc (.cells #[.int .i64 0] 3)).alloc (.cells #[.nilIface] 25)).heap.size = w.heap.size + 3 := by simp
  have cE := (hG.below bz0 hn).bound
  clear hG
  go_enter_defers Tryz.func9, Tryz.ntmps9
  go_wp2_with fail
  refine (unhide HB _).mono ?_; rintro e w1 ⟨rfl, rfl⟩
  clear HB
  generalize ((w.alloc (.cells #[.string ⟨#[]⟩] 9)).alloc (.cells #[.int .i64 0] 3)).alloc (.cells #[.nilIface] 25) = w0 at *
  obtain ⟨A, hA⟩ : ∃ q, q = w.heap.size := ⟨_, rfl⟩
  rw [← hA] at bz0 cA cB cC fA fB fC hz0 hn ⊢
  have HA := hide hA
  clear hA
  have HFW : Hid (∀ w3, w3 = (((w0.setCell ⟨A, 0, none⟩ (.string ⟨#[]⟩)).setCell ⟨A + 1, 0, none⟩ (.int .i64 0)).setCell ⟨A + 1 + 1, 0, none⟩ (.iface t xB)).drew → w3.cell? ⟨A, 0, none⟩ = some (.string ⟨#[]⟩) ∧ w3.cell? ⟨A + 1, 0, none⟩ = some (.int .i64 0) ∧ w3.cell? ⟨A + 1 + 1, 0, none⟩ = some (.iface t xB) ∧ Below A w w3) := fun w3 e => by
    subst e
    have q : ∀ (X Y : Nat), X ≠ Y → (⟨X, 0, none⟩ : Addr) ≠ ⟨Y, 0, none⟩ := fun X Y h e => h (by injection e)
    refine ⟨?_, ?_, ?_, ?_⟩
    · show World.cell? (World.setCell (World.setCell (World.setCell _ _ _) _ _) _ _) _ = _
      rw [World.cell?_setCell_other _ _ _ _ (q (A + 1 + 1) A (by omega)), World.cell?_setCell_other _ _ _ _ (q (A + 1) A (by omega))]
      exact World.cell?_setCell_same _ _ _ cA
    · show World.cell? (World.setCell (World.setCell (World.setCell _ _ _) _ _) _ _) _ = _
      rw [World.cell?_setCell_other _ _ _ _ (q (A + 1 + 1) (A + 1) (by omega))]
      exact World.cell?_setCell_same _ _ _ ((World.cell?_setCell_other _ _ _ _ (q A (A + 1) (by omega))).trans cB)
    · exact World.cell?_setCell_same _ _ _ ((World.cell?_setCell_other _ _ _ _ (q (A + 1) (A + 1 + 1) (by omega))).trans ((World.cell?_setCell_other _ _ _ _ (q A (A + 1 + 1) (by omega))).trans cC))
    · exact (((bz0.setCell (p := ⟨A, 0, none⟩) (Nat.le_refl _) _).setCell (p := ⟨A + 1, 0, none⟩) (by show A ≤ A + 1; omega) _).setCell (p := ⟨A + 1 + 1, 0, none⟩) (by show A ≤ A + 1 + 1; omega) _).drew
  have nA0 : ¬ A = 0 := by omega
  have nA1 : ¬ A = A + 1 := by omega
  have nA2 : ¬ A = A + 1 + 1 := by omega
  have nA3 : ¬ A + 1 = A + 1 + 1 := by omega
  go_wp2
  go_region
  go_wp2
  obtain ⟨w3, hw3⟩ : ∃ w3, w3 = (((w0.setCell ⟨A, 0, none⟩ (.string ⟨#[]⟩)).setCell ⟨A + 1, 0, none⟩ (.int .i64 0)).setCell ⟨A + 1 + 1, 0, none⟩ (.iface t xB)).drew := ⟨_, rfl⟩
  rw [← hw3]
  obtain ⟨k1, k2, k3, bw3⟩ := unhide HFW w3 hw3
  have bw4 : Below w.heap.size w w3 := by rw [← unhide HA]; exact bw3
  simp [bodyPostD, Leaves, results, Tryz.results9, go_sem, k1, k2, k3]
  exact ⟨rfl, bw4⟩
theorem inflate_any (s : ByteArray) (most : Int) (w : World) (hG : Gl w t xT xB xS) (hn : 6 ≤ w.heap.size) :
    Calls Tryz.prog 9 #[.string s, .int .i64 most] w fun e w' => ∃ r, inflS s most = some r ∧ e = .returned (inflV t xT xB r) ∧ Below w.heap.size w w' := by
  by_cases hm : 0 ≤ most ∧ most ≤ 300000 ∧ (s.size : Int) ≤ 300000
  · obtain ⟨m, rfl⟩ := Int.eq_ofNat_of_zero_le hm.1
    unfold inflS
    rw [if_pos hm]
    exact inflate_in s m w hG (by omega) (by omega) hn
  · refine (inflate_out s most w hG hm hn).mono ?_
    rintro e w' ⟨rfl, hb⟩
    exact ⟨.err .bound, by unfold inflS; rw [if_neg hm], rfl, hb⟩
end

/-! ### The fixed block of a letter -/
/-- What fits is told by every bound that it fits, and by no lesser one. -/
theorem inflS_most {s : ByteArray} {most : Int} {k : Nat} {out : List UInt8} (h : inflS s most = some (.ok k out)) :
    (out.length : Int) ≤ most ∧ (k + 7) / 8 ≤ s.size ∧ inflS s out.length = some (.ok k out) ∧ (out ≠ [] → inflS s ((out.length : Int) - 1) = some (.err .bound)) := by
  unfold inflS at h ⊢
  by_cases hm : 0 ≤ most ∧ most ≤ 300000 ∧ (s.size : Int) ≤ 300000
  · rw [if_pos hm] at h
    obtain ⟨a1, a2, a3, a4⟩ := infl_most h
    refine ⟨by omega, by omega, ?_, fun hne => ?_⟩
    · rw [if_pos ⟨by omega, by omega, by omega⟩]; exact a3
    · have hp : 0 < out.length := List.length_pos_iff.2 hne
      rw [if_pos ⟨by omega, by omega, by omega⟩]
      exact a4 _ (by omega)
  · rw [if_neg hm] at h; injection h with h; cases h
end Go.Proofs.YtfeljhikeddodaeGreatDoor
