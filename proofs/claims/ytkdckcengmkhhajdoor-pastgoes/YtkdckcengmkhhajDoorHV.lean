/- Walks of the document's own look at lengths, and of the statements' small helpers. -/
import Derived.Test.YtkdckcengmkhhajDoorBase
import Derived.Test.YtkdckcengmkhhajDoorNs
import Derived.Test.YtkdckcengmkhhajDoorCn
import Derived.WalkLawsBesides
import Derived.WalkSpells
import Derived.Handy
import Derived.Laws.BitsAllLaws
import Derived.Laws.Shifts
import Derived.Deep.LoopGhost
import Derived.Deep.WholeRow
import Derived.Deep.AppendLies
import Derived.BigRegion
import Derived.Laws.ResultCell
namespace Go.Proofs.YtkdckcengmkhhajDoor
open Go.RowKit Pm Cn

/-- How many have a word; how many one of 1 bit. -/
def cnt (l : Nat → Nat) (n : Nat) : Nat := upto (fun j => if 0 < l j then 1 else 0) n
def ones (l : Nat → Nat) (n : Nat) : Nat := upto (fun j => if l j = 1 then 1 else 0) n
/-- Lengths that are right. -/
def Right (l : Nat → Nat) (n : Nat) : Prop := cnt l n = 0 ∨ (cnt l n = 1 ∧ ones l n = 1) ∨ all l n = 32768
def Bad (z : Nat → Int) (n : Nat) : Prop := 300 < n ∨ ∃ i, i < n ∧ (z i < 0 ∨ 15 < z i)
def nat (z : Nat → Int) (i : Nat) : Nat := (z i).toNat
open Classical in
noncomputable def vc (z : Nat → Int) (n : Nat) : Int := if Bad z n then 2 else if Right (nat z) n then 0 else 3

theorem vc_bad {z : Nat → Int} {n : Nat} (h : Bad z n) : vc z n = 2 := by unfold vc; rw [if_pos h]
theorem vc_right {z : Nat → Int} {n : Nat} (h : ¬ Bad z n) (h2 : Right (nat z) n) : vc z n = 0 := by unfold vc; rw [if_neg h, if_pos h2]
theorem vc_wrong {z : Nat → Int} {n : Nat} (h : ¬ Bad z n) (h2 : ¬ Right (nat z) n) : vc z n = 3 := by unfold vc; rw [if_neg h, if_neg h2]

theorem cnt_le (l : Nat → Nat) (n : Nat) : cnt l n ≤ n := by
  unfold cnt
  induction n with
  | zero => exact Nat.le_refl _
  | succ n ih => simp only [upto]; split <;> omega
theorem ones_le (l : Nat → Nat) (n : Nat) : ones l n ≤ n := by
  unfold ones
  induction n with
  | zero => exact Nat.le_refl _
  | succ n ih => simp only [upto]; split <;> omega
theorem all_le (l : Nat → Nat) (n : Nat) : all l n ≤ 16384 * n := by
  unfold all
  induction n with
  | zero => exact Nat.le_refl _
  | succ n ih =>
    simp only [upto]
    split
    · have := Nat.pow_le_pow_right (n := 2) (i := 15 - l n) (j := 14) (by omega) (by omega)
      omega
    · omega
theorem cnt_succ (l : Nat → Nat) (n : Nat) : cnt l (n + 1) = (if 0 < l n then 1 else 0) + cnt l n := rfl
theorem ones_succ (l : Nat → Nat) (n : Nat) : ones l (n + 1) = (if l n = 1 then 1 else 0) + ones l n := rfl
theorem all_succ (l : Nat → Nat) (n : Nat) : all l (n + 1) = (if 0 < l n then 2 ^ (15 - l n) else 0) + all l n := rfl

theorem info_i64 : (Tryd.prog.info? 3).map (fun i => (i.zero, i.size, i.bytes)) = some (some (.int .i64 0), 1, 8) := by kernel_rfl

/-- Numbers as cells. -/
def intVals (z : Nat → Int) (n : Nat) : List Value := (List.range n).map fun i => .int .i64 (z i)
theorem intVals_length (z : Nat → Int) (n : Nat) : (intVals z n).length = n := by simp [intVals]
theorem intVals_at (z : Nat → Int) (n i : Nat) (h : i < n) : (intVals z n)[i]? = some (.int .i64 (z i)) := by simp [intVals, List.getElem?_range h]

/-- Numbers that the call owns are numbers that can be read. -/
theorem ints_own {w : World} {base n : Nat} {v : Value} {z : Nat → Int} (h : w.ownsRow base 3 1 v n (intVals z n)) (hz : ∀ i, i < n → -9223372036854775808 ≤ z i ∧ z i ≤ 9223372036854775807) :
    ∃ a cap, v = .slice a n cap ∧ IsInts w a n z := by
  rcases h.2 with ⟨rfl, rfl⟩ | ⟨g, cap, cur, rfl, hb, hg, hn, hm, _⟩
  · exact ⟨none, 0, rfl, .inl rfl⟩
  · refine ⟨some ⟨g, 0, none⟩, cap, rfl, .inr ⟨g, 0, rfl, by omega, fun i hi => ⟨?_, hz i hi⟩⟩⟩
    rw [Nat.zero_add, h.cellAt i (by omega), intVals_at _ _ _ hi]

theorem copy_none (w : World) (ao : Option Addr) (cap : Nat) : (Builtin.append_ #[63, 63] 63 #[.slice none 0 0, .slice ao 0 cap]).run Tryd.prog w = .ok (.slice none 0 0) w := by
  cases ao <;> kernel_rfl

/-- An append whose answer is known, and that makes nothing. -/
theorem wpList_append_eq (w : World) {ops : Array Oper} {rest : List Oper} {o : Oper} {a : Act} {Q : Exit → Act → World → Prop} (hgd : o.guard = none) (s x : Operand) (t : TypeId)
    (ho : o.op = .call { callee := .builtin .append, args := #[s, x], argTypes := #[t, t] }) (v u r : Value) (hs : a.eval s = v) (hx : a.eval x = u)
    (hr : (Builtin.append_ #[t, t] o.type #[v, u]).run Tryd.prog w = .ok r w) (h : wpList Tryd.prog ops Q rest (a.put o.dst r) w) : wpList Tryd.prog ops Q (o :: rest) a w :=
  wpList_plain hgd fun _ hK => by
    unfold Oper.wp execOp
    simp only [ho, resolve, invoke, builtin, Sem.run_bind, Sem.run_pure, Result.andThen_ok, List.map_toArray, List.map_cons, List.map_nil, hs, hx, hr]
    exact hK _ _ h

end Go.Proofs.YtkdckcengmkhhajDoor
