/- What of a layer is not right: the program's. -/
import Derived.Test.YtkdckcengmkhhajDoorMg4
import Derived.Test.YtkdckcengmkhhajDoorMg5
import Derived.Test.YtkdckcengmkhhajDoorMg8
import Derived.Test.YtkdckcengmkhhajDoorFd1
import Derived.Test.YtkdckcengmkhhajDoorCode
namespace Go.Proofs.YtkdckcengmkhhajDoor
open Go.RowKit

/-- Numbers of a layer that may be. -/
def Pl (l : Ly) : Prop := (-10000 ≤ l.x ∧ l.x ≤ 10000) ∧ (-10000 ≤ l.y ∧ l.y ≤ 10000) ∧ (0 ≤ l.op ∧ l.op ≤ 255) ∧ (0 ≤ l.mo ∧ l.mo ≤ 5)
open Classical in
/-- Its error's number (0: none). -/
noncomputable def wrN (L : Nat → Ly) (k : Nat) : Nat := if NmOk (L k).name ∧ ¬ Hs L k (L k).name then (if Pl (L k) then (if RightP (L k).wd (L k).hg (L k).n then 0 else 3) else 2) else 5
theorem wrN_name {L : Nat → Ly} {k : Nat} (h : ¬ (NmOk (L k).name ∧ ¬ Hs L k (L k).name)) : wrN L k = 5 := by unfold wrN; rw [if_neg h]
theorem wrN_pl {L : Nat → Ly} {k : Nat} (h : NmOk (L k).name ∧ ¬ Hs L k (L k).name) (h2 : ¬ Pl (L k)) : wrN L k = 2 := by unfold wrN; rw [if_pos h, if_neg h2]
theorem wrN_right {L : Nat → Ly} {k : Nat} (h : NmOk (L k).name ∧ ¬ Hs L k (L k).name) (h2 : Pl (L k)) (h3 : ¬ RightP (L k).wd (L k).hg (L k).n) : wrN L k = 3 := by unfold wrN; rw [if_pos h, if_pos h2, if_neg h3]
theorem wrN_fine {L : Nat → Ly} {k : Nat} (h : NmOk (L k).name ∧ ¬ Hs L k (L k).name) (h2 : Pl (L k)) (h3 : RightP (L k).wd (L k).hg (L k).n) : wrN L k = 0 := by unfold wrN; rw [if_pos h, if_pos h2, if_pos h3]
theorem wrN_zero {L : Nat → Ly} {k : Nat} (h : wrN L k = 0) : (NmOk (L k).name ∧ ¬ Hs L k (L k).name) ∧ Pl (L k) ∧ RightP (L k).wd (L k).hg (L k).n := by
  by_cases h1 : NmOk (L k).name ∧ ¬ Hs L k (L k).name
  · by_cases h2 : Pl (L k)
    · by_cases h3 : RightP (L k).wd (L k).hg (L k).n
      · exact ⟨h1, h2, h3⟩
      · rw [wrN_right h1 h2 h3] at h; omega
    · rw [wrN_pl h1 h2] at h; omega
  · rw [wrN_name h1] at h; omega
theorem wrN_cases (L : Nat → Ly) (k : Nat) : wrN L k = 0 ∨ wrN L k = 2 ∨ wrN L k = 3 ∨ wrN L k = 5 := by
  unfold wrN
  split
  · split
    · split <;> simp
    · simp
  · simp
/-- An error by its number. -/
def errV (a : Nat → Addr) (c : Nat) : Value := if c = 0 then .nilIface else sentV a (c - 1)

/-- What three of the errors hold. -/
structure Er3 (w : World) (a : Nat → Addr) : Prop where
  cell : ∀ i, i = 1 ∨ i = 2 ∨ i = 4 → w.cell? ⟨sentAt i, 0, none⟩ = some (sentV a i)
theorem Er3.below {w w' : World} {a : Nat → Addr} (h : Er3 w a) (hb : Below w.heap.size w w') : Er3 w' a :=
  ⟨fun i hi => (hb.cell (cell_block (h.cell i hi))).trans (h.cell i hi)⟩
theorem Sent.er3 {w : World} {a : Nat → Addr} (h : Sent w a) : Er3 w a := ⟨fun i hi => h.cell i (by omega)⟩

theorem pxz_val : (⟨0, 0, 0, 0⟩ : Px).val = .agg #[.int .u8 0, .int .u8 0, .int .u8 0, .int .u8 0] := rfl

set_option maxHeartbeats 1000000 in
theorem isOpacity_any (z : Int) (w : World) (a : Nat → Addr) (hS : Er3 w a) :
    Calls Tryd.prog 63 #[.int .i64 z] w fun e w' => e = .returned (.bool (decide (0 ≤ z ∧ z ≤ 255))) ∧ Below w.heap.size w w' := by
  by_cases h : 0 ≤ z ∧ z ≤ 255
  · obtain ⟨o, rfl⟩ := Int.eq_ofNat_of_zero_le h.1
    rw [decide_eq_true h]
    have HF := hide (fade_any ⟨0, 0, 0, 0⟩ o w (by omega))
    generalize fadeP ⟨0, 0, 0, 0⟩ o = q at *
    rw [pxz_val] at HF
    unfold Px.val at HF
    clear h
    go_enter Tryd.func63, Tryd.ntmps63
    go_wp2_with fail
    refine (unhide HF).mono ?_
    rintro e w1 ⟨rfl, hb⟩
    have HB := hide (hb.alloc hb.size (.cells #[.int .u8 (q.r.toNat : Int), .int .u8 (q.g.toNat : Int), .int .u8 (q.b.toNat : Int), .int .u8 (q.a.toNat : Int)] 42))
    clear HF hb
    go_wp2
    go_ret
    exact ⟨rfl, unhide HB⟩
  · rw [decide_eq_false h]
    have HF := hide (fade_bad ⟨0, 0, 0, 0⟩ z w _ _ (by omega) (hS.cell 1 (by omega)))
    rw [pxz_val] at HF
    clear h hS
    go_enter Tryd.func63, Tryd.ntmps63
    go_wp2_with fail
    refine (unhide HF).mono ?_
    rintro e w1 ⟨rfl, hb⟩
    have HB := hide (hb.alloc hb.size (.cells #[.int .u8 0, .int .u8 0, .int .u8 0, .int .u8 0] 42))
    clear HF hb
    go_wp2
    go_ret
    exact ⟨rfl, unhide HB⟩

set_option maxHeartbeats 1000000 in
theorem isModeL_any (z : Int) (w : World) (a : Nat → Addr) (hS : Er3 w a) :
    Calls Tryd.prog 64 #[.int .i64 z] w fun e w' => e = .returned (.bool (decide (0 ≤ z ∧ z ≤ 5))) ∧ Below w.heap.size w w' := by
  by_cases h : 0 ≤ z ∧ z ≤ 5
  · obtain ⟨o, rfl⟩ := Int.eq_ofNat_of_zero_le h.1
    rw [decide_eq_true h]
    have HF := hide (over_any o ⟨0, 0, 0, 0⟩ ⟨0, 0, 0, 0⟩ w (by omega))
    generalize overP o ⟨0, 0, 0, 0⟩ ⟨0, 0, 0, 0⟩ = q at *
    rw [pxz_val] at HF
    unfold Px.val at HF
    clear h
    go_enter Tryd.func64, Tryd.ntmps64
    go_wp2_with fail
    refine (unhide HF).mono ?_
    rintro e w1 ⟨rfl, hb⟩
    have HB := hide (hb.alloc hb.size (.cells #[.int .u8 (q.r.toNat : Int), .int .u8 (q.g.toNat : Int), .int .u8 (q.b.toNat : Int), .int .u8 (q.a.toNat : Int)] 42))
    clear HF hb
    go_wp2
    go_ret
    exact ⟨rfl, unhide HB⟩
  · rw [decide_eq_false h]
    have HF := hide (over_bad z ⟨0, 0, 0, 0⟩ ⟨0, 0, 0, 0⟩ w _ _ (by omega) (hS.cell 1 (by omega)))
    rw [pxz_val] at HF
    clear h hS
    go_enter Tryd.func64, Tryd.ntmps64
    go_wp2_with fail
    refine (unhide HF).mono ?_
    rintro e w1 ⟨rfl, hb⟩
    have HB := hide (hb.alloc hb.size (.cells #[.int .u8 0, .int .u8 0, .int .u8 0, .int .u8 0] 42))
    clear HF hb
    go_wp2
    go_ret
    exact ⟨rfl, unhide HB⟩
end Go.Proofs.YtkdckcengmkhhajDoor
