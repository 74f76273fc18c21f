/- Pixels over pixels: the program's rounding, and how two colors meet. -/
import Derived.Test.YtjhnneplknhmkahDoorOv0
import Derived.Test.YtjhnneplknhmkahDoorMg3
import Derived.Deep.QuietTactic
import Derived.BigQuiet
import Derived.Laws.EntriesVeiled
namespace Go.Proofs.YtjhnneplknhmkahDoor
open Go.RowKit

theorem quo_nat (n k q : Nat) (hq : q = (2 * n + k) / (2 * k)) : (2 * (n : Int) + (k : Int)) / (2 * (k : Int)) = (q : Int) ∧ (2 * (n : Int) + (k : Int)).tdiv (2 * (k : Int)) = (q : Int) := by
  have e : (2 * (n : Int) + (k : Int)) / (2 * (k : Int)) = (q : Int) := by
    rw [hq]
    have : (2 * (n : Int) + (k : Int)) / (2 * (k : Int)) = (((2 * n + k) / (2 * k) : Nat) : Int) := by
      rw [Int.natCast_ediv]; rfl
    exact this
  exact ⟨e, by rw [Int.tdiv_eq_ediv_of_nonneg (by omega)]; exact e⟩

set_option maxHeartbeats 1000000 in
theorem prounded_any (n k : Nat) (w : World) (hk : 0 < k) (hk2 : k ≤ 4294967296) (hn : n ≤ 255 * k) :
    Calls Tryd.prog 78 #[.int .i64 (n : Int), .int .i64 (k : Int)] w fun e w' => e = .returned (.int .u8 (Ov.rnd n k : Int)) ∧ w' = w := by
  have hr := Ov.rnd_le hn hk
  obtain ⟨q, hq⟩ : ∃ q, q = Ov.rnd n k := ⟨_, rfl⟩
  obtain ⟨e1, e2⟩ := quo_nat n k q hq
  rw [← hq] at hr ⊢
  clear hq
  have wq : IntKind.i64.wrap (q : Int) = (q : Int) := by rw [IntKind.wrap_i64]; omega
  have wu : IntKind.u8.wrap (q : Int) = (q : Int) := by rw [IntKind.wrap_u8]; omega
  have k0 : ((2 * (k : Int)) == 0) = false := beq_eq_false_iff_ne.2 (by omega)
  go_enter Tryd.func78, Tryd.ntmps78
  go_wp2
  go_ret
  exact ⟨rfl, rfl⟩

/-- The functions of the modes. -/
def mf (m : Nat) : Nat := if m = 0 then 88 else if m = 1 then 89 else if m = 2 then 90 else if m = 3 then 91 else if m = 4 then 92 else 93

set_option maxHeartbeats 1000000 in
theorem meet_any (m s d : Nat) (w : World) (hm : m ≤ 5) (hs : s ≤ 255) (hd : d ≤ 255) :
    Calls Tryd.prog (mf m) #[.int .i64 (s : Int), .int .i64 (d : Int)] w fun e w' => e = .returned (.int .i64 (Ov.mt m s d : Int)) ∧ w' = w := by
  have h2 := Ov.two_colors s d hs hd
  rcases (show m = 0 ∨ m = 1 ∨ m = 2 ∨ m = 3 ∨ m = 4 ∨ m = 5 by omega) with rfl | rfl | rfl | rfl | rfl | rfl
  · show Calls Tryd.prog 88 _ _ _
    go_enter Tryd.func88, Tryd.ntmps88
    go_wp2
    go_ret
    exact ⟨ret_int (by simp [Ov.mt]), rfl⟩
  · show Calls Tryd.prog 89 _ _ _
    obtain ⟨t, ht⟩ : ∃ t, t = s * d := ⟨_, rfl⟩
    have zt : (s : Int) * (d : Int) = (t : Int) := by rw [ht]; simp
    have e : Ov.mt 1 s d = t := by rw [ht]; rfl
    rw [← ht] at h2
    rw [e]
    clear e ht
    have wt : IntKind.i64.wrap (t : Int) = (t : Int) := by rw [IntKind.wrap_i64]; omega
    go_enter Tryd.func89, Tryd.ntmps89
    go_wp2
    go_ret
    exact ⟨rfl, rfl⟩
  · show Calls Tryd.prog 90 _ _ _
    obtain ⟨t, ht⟩ : ∃ t, t = s * d := ⟨_, rfl⟩
    have zt : (s : Int) * (d : Int) = (t : Int) := by rw [ht]; simp
    have e : (Ov.mt 2 s d : Int) = 255 * ((s : Int) + (d : Int)) - (t : Int) := by
      show ((255 * (s + d) - s * d : Nat) : Int) = _
      rw [← ht] at h2 ⊢
      omega
    rw [← ht] at h2
    rw [e]
    clear e ht
    have wt : IntKind.i64.wrap (t : Int) = (t : Int) := by rw [IntKind.wrap_i64]; omega
    go_enter Tryd.func90, Tryd.ntmps90
    go_wp2
    go_ret
    exact ⟨rfl, rfl⟩
  · show Calls Tryd.prog 91 _ _ _
    have e : (Ov.mt 3 s d : Int) = 255 * min (s : Int) (d : Int) := by show ((255 * min s d : Nat) : Int) = _; omega
    rw [e]
    go_enter Tryd.func91, Tryd.ntmps91
    go_wp2
    all_goals (go_ret; exact ⟨ret_int (by omega), rfl⟩)
  · show Calls Tryd.prog 92 _ _ _
    have e : (Ov.mt 4 s d : Int) = 255 * max (s : Int) (d : Int) := by show ((255 * max s d : Nat) : Int) = _; omega
    rw [e]
    go_enter Tryd.func92, Tryd.ntmps92
    go_wp2
    all_goals (go_ret; exact ⟨ret_int (by omega), rfl⟩)
  · show Calls Tryd.prog 93 _ _ _
    have e : (Ov.mt 5 s d : Int) = 255 * max ((s : Int) - (d : Int)) ((d : Int) - (s : Int)) := by show ((255 * max (s - d) (d - s) : Nat) : Int) = _; omega
    rw [e]
    go_enter Tryd.func93, Tryd.ntmps93
    go_wp2
    all_goals (go_ret; exact ⟨ret_int (by omega), rfl⟩)

theorem mf_call (m : Nat) (hm : m ≤ 5) (args : Array Value) (w : World) : Sem.run Tryd.prog (callFunc (mf m) args) w = .ok (.enter (mf m) args) w := by
  rcases (show m = 0 ∨ m = 1 ∨ m = 2 ∨ m = 3 ∨ m = 4 ∨ m = 5 by omega) with rfl | rfl | rfl | rfl | rfl | rfl
  · show Sem.run Tryd.prog (callFunc 88 args) w = .ok (.enter 88 args) w
    go_simp
  · show Sem.run Tryd.prog (callFunc 89 args) w = .ok (.enter 89 args) w
    go_simp
  · show Sem.run Tryd.prog (callFunc 90 args) w = .ok (.enter 90 args) w
    go_simp
  · show Sem.run Tryd.prog (callFunc 91 args) w = .ok (.enter 91 args) w
    go_simp
  · show Sem.run Tryd.prog (callFunc 92 args) w = .ok (.enter 92 args) w
    go_simp
  · show Sem.run Tryd.prog (callFunc 93 args) w = .ok (.enter 93 args) w
    go_simp

/-- The array of the modes' functions. -/
def mfV : Array Value := #[.func (.func 88) #[] #[], .func (.func 89) #[] #[], .func (.func 90) #[] #[], .func (.func 91) #[] #[], .func (.func 92) #[] #[], .func (.func 93) #[] #[]]
set_option maxHeartbeats 1000000 in
theorem meetings_any (w : World) :
    Calls Tryd.prog 76 #[] w fun e w' => e = .returned (.agg mfV) ∧ Below w.heap.size w w' := by
  go_enter Tryd.func76, Tryd.ntmps76
  go_wp2

  exact bodyPost_ret (v := .agg mfV) (by simp [results, Tryd.results76, mfV, go_sem]) rfl ⟨rfl, (Below.refl _ _).alloc (Nat.le_refl _) _⟩
theorem mf_index (m : Nat) (hm : m ≤ 5) (w : World) : Sem.run Tryd.prog (Instr.index 95 (.agg mfV) (.int .i64 (m : Int))) w = .ok (.func (.func (mf m)) #[] #[]) w := by
  rcases (show m = 0 ∨ m = 1 ∨ m = 2 ∨ m = 3 ∨ m = 4 ∨ m = 5 by omega) with rfl | rfl | rfl | rfl | rfl | rfl <;> kernel_rfl
end Go.Proofs.YtjhnneplknhmkahDoor
