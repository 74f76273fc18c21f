/- Pixels over pixels: the program's rounding, and how two colors meet. -/
import Derived.Test.YtaghndongffafagDoorOv0
import Derived.Test.YtaghndongffafagDoorRs
import Derived.Deep.QuietTactic
import Derived.BigQuiet
import Derived.Laws.EntriesVeiled
namespace Go.Proofs.YtaghndongffafagDoor
open Go.RowKit

theorem quo_nat (n k q : Nat) (hq : q = (2 * n + k) / (2 * k)) : (2 * (n : Int) + (k : Int)) / (2 * (k : Int)) = (q : Int) ∧ (2 * (n : Int) + (k : Int)).tdiv (2 * (k : Int)) = (q : Int) := by
  have e : (2 * (n : Int) + (k : Int)) / (2 * (k : Int)) = (q : Int) := by
    rw [hq]
    have : (2 * (n : Int) + (k : Int)) / (2 * (k : Int)) = (((2 * n + k) / (2 * k) : Nat) : Int) := by
      rw [Int.natCast_ediv]; rfl
    exact this
  exact ⟨e, by rw [Int.tdiv_eq_ediv_of_nonneg (by omega)]; exact e⟩

set_option maxHeartbeats 1000000 in
theorem prounded_any (n k : Nat) (w : World) (hk : 0 < k) (hk2 : k ≤ 4294967296) (hn : n ≤ 255 * k) :
    Calls Tryd.prog 22 #[.int .i64 (n : Int), .int .i64 (k : Int)] w fun e w' => e = .returned (.int .u8 (Ov.rnd n k : Int)) ∧ w' = w := by
  have hr := Ov.rnd_le hn hk
  obtain ⟨q, hq⟩ : ∃ q, q = Ov.rnd n k := ⟨_, rfl⟩
  obtain ⟨e1, e2⟩ := quo_nat n k q hq
  rw [← hq] at hr ⊢
  clear hq
  have wq : IntKind.i64.wrap (q : Int) = (q : Int) := by rw [IntKind.wrap_i64]; omega
  have wu : IntKind.u8.wrap (q : Int) = (q : Int) := by rw [IntKind.wrap_u8]; omega
  have k0 : ((2 * (k : Int)) == 0) = false := beq_eq_false_iff_ne.2 (by omega)
  go_enter Tryd.func22, Tryd.ntmps22
  go_wp2
  go_ret
  exact ⟨rfl, rfl⟩

/-- The functions of the modes. -/
def mf (m : Nat) : Nat := if m = 0 then 29 else if m = 1 then 30 else if m = 2 then 31 else if m = 3 then 32 else if m = 4 then 33 else 34

set_option maxHeartbeats 1000000 in
theorem meet_any (m s d : Nat) (w : World) (hm : m ≤ 5) (hs : s ≤ 255) (hd : d ≤ 255) :
    Calls Tryd.prog (mf m) #[.int .i64 (s : Int), .int .i64 (d : Int)] w fun e w' => e = .returned (.int .i64 (Ov.mt m s d : Int)) ∧ w' = w := by
  have h2 := Ov.two_colors s d hs hd
  rcases (show m = 0 ∨ m = 1 ∨ m = 2 ∨ m = 3 ∨ m = 4 ∨ m = 5 by omega) with rfl | rfl | rfl | rfl | rfl | rfl
  · show Calls Tryd.prog 29 _ _ _
    go_enter Tryd.func29, Tryd.ntmps29
    go_wp2
    go_ret
    exact ⟨ret_int (by simp [Ov.mt]), rfl⟩
  · show Calls Tryd.prog 30 _ _ _
    obtain ⟨t, ht⟩ : ∃ t, t = s * d := ⟨_, rfl⟩
    have zt : (s : Int) * (d : Int) = (t : Int) := by rw [ht]; simp
    have e : Ov.mt 1 s d = t := by rw [ht]; rfl
    rw [← ht] at h2
    rw [e]
    clear e ht
    have wt : IntKind.i64.wrap (t : Int) = (t : Int) := by rw [IntKind.wrap_i64]; omega
    go_enter Tryd.func30, Tryd.ntmps30
    go_wp2
    go_ret
    exact ⟨rfl, rfl⟩
  · show Calls Tryd.prog 31 _ _ _
    obtain ⟨t, ht⟩ : ∃ t, t = s * d := ⟨_, rfl⟩
    have zt : (s : Int) * (d : Int) = (t : Int) := by rw [ht]; simp
    have e : (Ov.mt 2 s d : Int) = 255 * ((s : Int) + (d : Int)) - (t : Int) := by
      show ((255 * (s + d) - s * d : Nat) : Int) = _
      rw [← ht] at h2 ⊢
      omega
    rw [← ht] at h2
    rw [e]
    clear e ht
    have wt : IntKind.i64.wrap (t : Int) = (t : Int) := by rw [IntKind.wrap_i64]; omega
    go_enter Tryd.func31, Tryd.ntmps31
    go_wp2
    go_ret
    exact ⟨rfl, rfl⟩
  · show Calls Tryd.prog 32 _ _ _
    have e : (Ov.mt 3 s d : Int) = 255 * min (s : Int) (d : Int) := by show ((255 * min s d : Nat) : Int) = _; omega
    rw [e]
    go_enter Tryd.func32, Tryd.ntmps32
    go_wp2
    all_goals (go_ret; exact ⟨ret_int (by omega), rfl⟩)
  · show Calls Tryd.prog 33 _ _ _
    have e : (Ov.mt 4 s d : Int) = 255 * max (s : Int) (d : Int) := by show ((255 * max s d : Nat) : Int) = _; omega
    rw [e]
    go_enter Tryd.func33, Tryd.ntmps33
    go_wp2
    all_goals (go_ret; exact ⟨ret_int (by omega), rfl⟩)
  · show Calls Tryd.prog 34 _ _ _
    have e : (Ov.mt 5 s d : Int) = 255 * max ((s : Int) - (d : Int)) ((d : Int) - (s : Int)) := by show ((255 * max (s - d) (d - s) : Nat) : Int) = _; omega
    rw [e]
    go_enter Tryd.func34, Tryd.ntmps34
    go_wp2
    all_goals (go_ret; exact ⟨ret_int (by omega), rfl⟩)

theorem mf_call (m : Nat) (hm : m ≤ 5) (args : Array Value) (w : World) : Sem.run Tryd.prog (callFunc (mf m) args) w = .ok (.enter (mf m) args) w := by
  rcases (show m = 0 ∨ m = 1 ∨ m = 2 ∨ m = 3 ∨ m = 4 ∨ m = 5 by omega) with rfl | rfl | rfl | rfl | rfl | rfl
  · show Sem.run Tryd.prog (callFunc 29 args) w = .ok (.enter 29 args) w
    go_simp
  · show Sem.run Tryd.prog (callFunc 30 args) w = .ok (.enter 30 args) w
    go_simp
  · show Sem.run Tryd.prog (callFunc 31 args) w = .ok (.enter 31 args) w
    go_simp
  · show Sem.run Tryd.prog (callFunc 32 args) w = .ok (.enter 32 args) w
    go_simp
  · show Sem.run Tryd.prog (callFunc 33 args) w = .ok (.enter 33 args) w
    go_simp
  · show Sem.run Tryd.prog (callFunc 34 args) w = .ok (.enter 34 args) w
    go_simp

/-- The array of the modes' functions. -/
def mfV : Array Value := #[.func (.func 29) #[] #[], .func (.func 30) #[] #[], .func (.func 31) #[] #[], .func (.func 32) #[] #[], .func (.func 33) #[] #[], .func (.func 34) #[] #[]]
set_option maxHeartbeats 1000000 in
theorem meetings_any (w : World) :
    Calls Tryd.prog 20 #[] w fun e w' => e = .returned (.agg mfV) ∧ Below w.heap.size w w' := by
  go_enter Tryd.func20, Tryd.ntmps20
  go_wp2

  exact bodyPost_ret (v := .agg mfV) (by simp [results, Tryd.results20, mfV, go_sem]) rfl ⟨rfl, (Below.refl _ _).alloc (Nat.le_refl _) _⟩
theorem mf_index (m : Nat) (hm : m ≤ 5) (w : World) : Sem.run Tryd.prog (Instr.index 44 (.agg mfV) (.int .i64 (m : Int))) w = .ok (.func (.func (mf m)) #[] #[]) w := by
  rcases (show m = 0 ∨ m = 1 ∨ m = 2 ∨ m = 3 ∨ m = 4 ∨ m = 5 by omega) with rfl | rfl | rfl | rfl | rfl | rfl <;> kernel_rfl
end Go.Proofs.YtaghndongffafagDoor
