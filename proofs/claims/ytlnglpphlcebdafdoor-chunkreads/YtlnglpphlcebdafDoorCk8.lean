/- Walk: chunk.Read. -/
import Derived.Test.YtlnglpphlcebdafDoorCk6
import Derived.Test.YtlnglpphlcebdafDoorCk7
namespace Go.Proofs.YtlnglpphlcebdafDoor
open Go.RowKit

theorem kd_ex (s : ByteArray) : Ck.kd s.data.toList = (s.extract 4 8).data.toList := (ex_list s 4 4).symm
theorem dt_ex (s : ByteArray) (n : Nat) : Ck.dt s.data.toList n = (s.extract 8 (8 + n)).data.toList := (ex_list s 8 n).symm
/-- What next answers. -/
def NxE (s : ByteArray) (eT eS : Value) (e : Ending) : Prop :=
  (Ck.nx s.data.toList = .text ∧ e = .returned (.tuple #[.agg #[.string ⟨#[]⟩, .string ⟨#[]⟩], eT])) ∨
  (Ck.nx s.data.toList = .sum ∧ e = .returned (.tuple #[.agg #[.string ⟨#[]⟩, .string ⟨#[]⟩], eS])) ∨
  (∃ n, Ck.nx s.data.toList = .ok n ∧ e = .returned (.tuple #[.agg #[.string (s.extract 4 8), .string (s.extract 8 (8 + n))], .nilIface]))
theorem next_any (s : ByteArray) (tT tS : TypeId) (vT vS : Value) (w : World) (hT : w.cell? ⟨0, 0, none⟩ = some (.iface tT vT)) (hS : w.cell? ⟨3, 0, none⟩ = some (.iface tS vS)) (hs : s.size ≤ 300000) :
    Calls Tryd.prog 47 #[.string s] w fun e w' => NxE s (.iface tT vT) (.iface tS vS) e ∧ Below w.heap.size w w' := by
  have hz : s.data.toList.length = s.size := Array.length_toList
  by_cases h1 : s.size < 12
  · refine (next_short s tT tS vT vS w hT hS h1).mono ?_
    rintro e w' ⟨rfl, hb⟩
    exact ⟨.inl ⟨by unfold Ck.nx; rw [if_pos (by omega)], rfl⟩, hb⟩
  by_cases h2 : s.size - 12 < Ck.n4 s.data.toList
  · refine (next_long s tT tS vT vS w hT hS (by omega) hs h2).mono ?_
    rintro e w' ⟨rfl, hb⟩
    exact ⟨.inl ⟨by unfold Ck.nx; rw [if_neg (by omega), if_pos (by omega)], rfl⟩, hb⟩
  have e1 : (s.extract 4 8).data.toList = Ck.kd s.data.toList := (kd_ex s).symm
  by_cases h3 : Ck.Kind (Ck.kd s.data.toList)
  rotate_left
  · refine (next_kind s tT tS vT vS w hT hS (by omega) hs (by omega) (by rw [e1]; exact h3)).mono ?_
    rintro e w' ⟨rfl, hb⟩
    exact ⟨.inl ⟨by unfold Ck.nx; rw [if_neg (by omega), if_neg (by omega), if_pos h3], rfl⟩, hb⟩
  have e2 : (s.extract (8 + Ck.n4 s.data.toList) s.size).data.toList = s.data.toList.drop (8 + Ck.n4 s.data.toList) := ex_back _ _
  have e3 : (s.extract 4 (8 + Ck.n4 s.data.toList)).data.toList = (s.data.toList.drop 4).take (4 + Ck.n4 s.data.toList) := by
    have := ex_list s 4 (4 + Ck.n4 s.data.toList)
    rwa [show 4 + (4 + Ck.n4 s.data.toList) = 8 + Ck.n4 s.data.toList by omega] at this
  by_cases h4 : Ck.n4 (s.data.toList.drop (8 + Ck.n4 s.data.toList)) = crcOf ((s.data.toList.drop 4).take (4 + Ck.n4 s.data.toList))
  · refine (next_ok s tT tS vT vS w hT hS (by omega) hs (by omega) (by rw [e1]; exact h3) (by rw [e2, e3]; exact h4)).mono ?_
    rintro e w' ⟨rfl, hb⟩
    exact ⟨.inr (.inr ⟨_, by unfold Ck.nx; rw [if_neg (by omega), if_neg (by omega), if_neg (not_not_intro h3), if_pos h4], rfl⟩), hb⟩
  · refine (next_sum s tT tS vT vS w hT hS (by omega) hs (by omega) (by rw [e1]; exact h3) (by rw [e2, e3]; exact h4)).mono ?_
    rintro e w' ⟨rfl, hb⟩
    exact ⟨.inr (.inl ⟨by unfold Ck.nx; rw [if_neg (by omega), if_neg (by omega), if_neg (not_not_intro h3), if_neg h4], rfl⟩), hb⟩

set_option maxHeartbeats 1000000 in
theorem readFault_any (p : Nat) (i : Nat) (uT : TypeId) (uV : Value) (w : World) (hp : w.cell? ⟨p, 0, none⟩ = some (.int .i64 (i : Int))) :
    Calls Tryd.prog 45 #[.iface uT uV, .pointer (some ⟨p, 0, none⟩)] w fun e w' => ∃ q, e = .returned (.tuple #[.slice none 0 0, .iface 61 (.pointer (some ⟨q, 0, none⟩))]) ∧ w'.cell? ⟨q, 0, none⟩ = some (.int .i64 (i : Int)) ∧ w'.cell? ⟨q, 1, none⟩ = some (.iface uT uV) ∧ w.heap.size ≤ q ∧ Below w.heap.size w w' := by
  have HB := hide (((Below.refl w.heap.size w).alloc (Nat.le_refl _) (.cells #[.int .i64 (i : Int), .iface uT uV] 63)).drew)
  go_enter Tryd.func45, Tryd.ntmps45
  go_wp2
  go_region
  all_goals
    go_wp2
    go_ret2
    exact ⟨w.heap.size, rfl, by simp [go_sem], by simp [go_sem], Nat.le_refl _, unhide HB⟩

/-- What Read answers. -/
def RdAns (w' : World) (B : Nat) (eT eS : Value) (r : Ck.Res) (e : Ending) : Prop :=
  match r with
  | .bad c a => ∃ q, e = .returned (.tuple #[.slice none 0 0, .iface 61 (.pointer (some ⟨q, 0, none⟩))]) ∧ w'.cell? ⟨q, 0, none⟩ = some (.int .i64 (a : Int)) ∧ w'.cell? ⟨q, 1, none⟩ = some (if c = 0 then eT else eS) ∧ B ≤ q
  | .fine cs => ∃ aL cL, e = .returned (.tuple #[.slice aL cs.length cL, .nilIface]) ∧ w'.ownsRow B 70 2 (.slice aL cs.length cL) cs.length (chV cs)
def atOf (w : World) (g : Nat) : Nat := match w.cell? ⟨g, 0, none⟩ with
  | some (.int _ n) => n.toNat
  | _ => 0
end Go.Proofs.YtlnglpphlcebdafDoor
