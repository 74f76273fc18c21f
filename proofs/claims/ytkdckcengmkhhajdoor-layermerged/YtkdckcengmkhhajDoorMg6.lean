/- Results that lie in cells. Pixels over pixels: the program's rounding, and how two colors meet. -/
import Derived.Test.YtkdckcengmkhhajDoorMg1
import Derived.Test.YtkdckcengmkhhajDoorOv0
import Derived.Deep.QuietTactic
import Derived.BigQuiet
import Derived.Laws.EntriesVeiled
namespace Go.Proofs.YtkdckcengmkhhajDoor
open Go.RowKit

theorem results_c {fn : Func} {p : Tmp} {ty : TypeId} (h : fn.results = #[.cell p ty]) (tmps : Array Value) (P : Program) (w : World) :
    (results fn tmps).run P w = ((asAddr (tmps.getD p undef)).run P w).andThen fun a w₁ => (loadVar ty a).run P w₁ := by
  simp only [results, h]
  simp [Sem.run_bind, Result.andThen]
theorem results_tc {fn : Func} {p u : Tmp} {ty : TypeId} (h : fn.results = #[.tmp u, .cell p ty]) (tmps : Array Value) (P : Program) (w : World) :
    (results fn tmps).run P w = ((asAddr (tmps.getD p undef)).run P w).andThen fun a w₁ => ((loadVar ty a).run P w₁).andThen fun v w₂ => .ok (.tuple #[tmps.getD u undef, v]) w₂ := by
  simp only [results, h]
  simp [Sem.run_bind, Result.andThen]
theorem results_ct {fn : Func} {p u : Tmp} {ty : TypeId} (h : fn.results = #[.cell p ty, .tmp u]) (tmps : Array Value) (P : Program) (w : World) :
    (results fn tmps).run P w = ((asAddr (tmps.getD p undef)).run P w).andThen fun a w₁ => ((loadVar ty a).run P w₁).andThen fun v w₂ => .ok (.tuple #[v, tmps.getD u undef]) w₂ := by
  simp only [results, h]
  simp [Sem.run_bind, Result.andThen]
end Go.Proofs.YtkdckcengmkhhajDoor
namespace Go.Proofs.YtkdckcengmkhhajDoor
open Go.RowKit

theorem quo_nat (n k q : Nat) (hq : q = (2 * n + k) / (2 * k)) : (2 * (n : Int) + (k : Int)) / (2 * (k : Int)) = (q : Int) ∧ (2 * (n : Int) + (k : Int)).tdiv (2 * (k : Int)) = (q : Int) := by
  have e : (2 * (n : Int) + (k : Int)) / (2 * (k : Int)) = (q : Int) := by
    rw [hq]
    have : (2 * (n : Int) + (k : Int)) / (2 * (k : Int)) = (((2 * n + k) / (2 * k) : Nat) : Int) := by
      rw [Int.natCast_ediv]; rfl
    exact this
  exact ⟨e, by rw [Int.tdiv_eq_ediv_of_nonneg (by omega)]; exact e⟩

set_option maxHeartbeats 1000000 in
theorem prounded_any (n k : Nat) (w : World) (hk : 0 < k) (hk2 : k ≤ 4294967296) (hn : n ≤ 255 * k) :
    Calls Tryd.prog 80 #[.int .i64 (n : Int), .int .i64 (k : Int)] w fun e w' => e = .returned (.int .u8 (Ov.rnd n k : Int)) ∧ w' = w := by
  have hr := Ov.rnd_le hn hk
  obtain ⟨q, hq⟩ : ∃ q, q = Ov.rnd n k := ⟨_, rfl⟩
  obtain ⟨e1, e2⟩ := quo_nat n k q hq
  rw [← hq] at hr ⊢
  clear hq
  have wq : IntKind.i64.wrap (q : Int) = (q : Int) := by rw [IntKind.wrap_i64]; omega
  have wu : IntKind.u8.wrap (q : Int) = (q : Int) := by rw [IntKind.wrap_u8]; omega
  have k0 : ((2 * (k : Int)) == 0) = false := beq_eq_false_iff_ne.2 (by omega)
  go_enter Tryd.func80, Tryd.ntmps80
  go_wp2
  go_ret
  exact ⟨rfl, rfl⟩

/-- The functions of the modes. -/
def mf (m : Nat) : Nat := if m = 0 then 93 else if m = 1 then 94 else if m = 2 then 95 else if m = 3 then 96 else if m = 4 then 97 else 98

set_option maxHeartbeats 1000000 in
theorem meet_any (m s d : Nat) (w : World) (hm : m ≤ 5) (hs : s ≤ 255) (hd : d ≤ 255) :
    Calls Tryd.prog (mf m) #[.int .i64 (s : Int), .int .i64 (d : Int)] w fun e w' => e = .returned (.int .i64 (Ov.mt m s d : Int)) ∧ w' = w := by
  have h2 := Ov.two_colors s d hs hd
  rcases (show m = 0 ∨ m = 1 ∨ m = 2 ∨ m = 3 ∨ m = 4 ∨ m = 5 by omega) with rfl | rfl | rfl | rfl | rfl | rfl
  · show Calls Tryd.prog 93 _ _ _
    go_enter Tryd.func93, Tryd.ntmps93
    go_wp2
    go_ret
    exact ⟨ret_int (by simp [Ov.mt]), rfl⟩
  · show Calls Tryd.prog 94 _ _ _
    obtain ⟨t, ht⟩ : ∃ t, t = s * d := ⟨_, rfl⟩
    have zt : (s : Int) * (d : Int) = (t : Int) := by rw [ht]; simp
    have e : Ov.mt 1 s d = t := by rw [ht]; rfl
    rw [← ht] at h2
    rw [e]
    clear e ht
    have wt : IntKind.i64.wrap (t : Int) = (t : Int) := by rw [IntKind.wrap_i64]; omega
    go_enter Tryd.func94, Tryd.ntmps94
    go_wp2
    go_ret
    exact ⟨rfl, rfl⟩
  · show Calls Tryd.prog 95 _ _ _
    obtain ⟨t, ht⟩ : ∃ t, t = s * d := ⟨_, rfl⟩
    have zt : (s : Int) * (d : Int) = (t : Int) := by rw [ht]; simp
    have e : (Ov.mt 2 s d : Int) = 255 * ((s : Int) + (d : Int)) - (t : Int) := by
      show ((255 * (s + d) - s * d : Nat) : Int) = _
      rw [← ht] at h2 ⊢
      omega
    rw [← ht] at h2
    rw [e]
    clear e ht
    have wt : IntKind.i64.wrap (t : Int) = (t : Int) := by rw [IntKind.wrap_i64]; omega
    go_enter Tryd.func95, Tryd.ntmps95
    go_wp2
    go_ret
    exact ⟨rfl, rfl⟩
  · show Calls Tryd.prog 96 _ _ _
    have e : (Ov.mt 3 s d : Int) = 255 * min (s : Int) (d : Int) := by show ((255 * min s d : Nat) : Int) = _; omega
    rw [e]
    go_enter Tryd.func96, Tryd.ntmps96
    go_wp2
    all_goals (go_ret; exact ⟨ret_int (by omega), rfl⟩)
  · show Calls Tryd.prog 97 _ _ _
    have e : (Ov.mt 4 s d : Int) = 255 * max (s : Int) (d : Int) := by show ((255 * max s d : Nat) : Int) = _; omega
    rw [e]
    go_enter Tryd.func97, Tryd.ntmps97
    go_wp2
    all_goals (go_ret; exact ⟨ret_int (by omega), rfl⟩)
  · show Calls Tryd.prog 98 _ _ _
    have e : (Ov.mt 5 s d : Int) = 255 * max ((s : Int) - (d : Int)) ((d : Int) - (s : Int)) := by show ((255 * max (s - d) (d - s) : Nat) : Int) = _; omega
    rw [e]
    go_enter Tryd.func98, Tryd.ntmps98
    go_wp2
    all_goals (go_ret; exact ⟨ret_int (by omega), rfl⟩)

theorem mf_call (m : Nat) (hm : m ≤ 5) (args : Array Value) (w : World) : Sem.run Tryd.prog (callFunc (mf m) args) w = .ok (.enter (mf m) args) w := by
  rcases (show m = 0 ∨ m = 1 ∨ m = 2 ∨ m = 3 ∨ m = 4 ∨ m = 5 by omega) with rfl | rfl | rfl | rfl | rfl | rfl
  · show Sem.run Tryd.prog (callFunc 93 args) w = .ok (.enter 93 args) w
    go_simp
  · show Sem.run Tryd.prog (callFunc 94 args) w = .ok (.enter 94 args) w
    go_simp
  · show Sem.run Tryd.prog (callFunc 95 args) w = .ok (.enter 95 args) w
    go_simp
  · show Sem.run Tryd.prog (callFunc 96 args) w = .ok (.enter 96 args) w
    go_simp
  · show Sem.run Tryd.prog (callFunc 97 args) w = .ok (.enter 97 args) w
    go_simp
  · show Sem.run Tryd.prog (callFunc 98 args) w = .ok (.enter 98 args) w
    go_simp

/-- The array of the modes' functions. -/
def mfV : Array Value := #[.func (.func 93) #[] #[], .func (.func 94) #[] #[], .func (.func 95) #[] #[], .func (.func 96) #[] #[], .func (.func 97) #[] #[], .func (.func 98) #[] #[]]
set_option maxHeartbeats 1000000 in
theorem meetings_any (w : World) :
    Calls Tryd.prog 78 #[] w fun e w' => e = .returned (.agg mfV) ∧ Below w.heap.size w w' := by
  go_enter Tryd.func78, Tryd.ntmps78
  go_wp2

  exact bodyPost_ret (v := .agg mfV) (by simp [results, Tryd.results78, mfV, go_sem]) rfl ⟨rfl, (Below.refl _ _).alloc (Nat.le_refl _) _⟩
theorem mf_index (m : Nat) (hm : m ≤ 5) (w : World) : Sem.run Tryd.prog (Instr.index 124 (.agg mfV) (.int .i64 (m : Int))) w = .ok (.func (.func (mf m)) #[] #[]) w := by
  rcases (show m = 0 ∨ m = 1 ∨ m = 2 ∨ m = 3 ∨ m = 4 ∨ m = 5 by omega) with rfl | rfl | rfl | rfl | rfl | rfl <;> kernel_rfl
end Go.Proofs.YtkdckcengmkhhajDoor
