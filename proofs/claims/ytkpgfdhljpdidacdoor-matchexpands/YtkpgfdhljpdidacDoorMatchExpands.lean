/- The walk of the statement: what any tokens mean. -/
import Derived.Test.YtkpgfdhljpdidacDoorMx5
import Derived.Test.YtkpgfdhljpdidacDoorCoded1
namespace Go.Proofs.YtkpgfdhljpdidacDoor
open Go.RowKit

/-- A byte and a match that reaches into itself. -/
def selfT : Tks := ⟨fun i => if i = 0 then 97 else 0, fun i => if i = 0 then 0 else 5, fun i => if i = 0 then 0 else 1⟩
theorem selfT_good (j : Nat) (hj : j < 2) : selfT.good j := by
  rcases (show j = 0 ∨ j = 1 by omega) with rfl | rfl
  · exact ⟨by simp [Tks.shaped, selfT], by simp [Tks.out, selfT]⟩
  · exact ⟨by simp [Tks.shaped, selfT], by simp [Tks.out, selfT]⟩
theorem selfT_out : selfT.out 2 = [97, 97, 97, 97, 97, 97] := by decide
theorem selfT_small (i : Nat) (hi : i ≤ 2) : (selfT.out i).length ≤ 300000 := by
  rcases (show i = 0 ∨ i = 1 ∨ i = 2 by omega) with rfl | rfl | rfl
  · simp [Tks.out]
  · simp [Tks.out, selfT]
  · rw [selfT_out]; simp

set_option maxRecDepth 100000 in
theorem same_any (w : World) (uT : TypeId) (uV : Value) (hS : w.cell? ⟨2, 0, none⟩ = some (.iface uT uV)) :
    Calls Tryd.prog 23 #[] w fun e w' => e = .returned (.bool true) ∧ Below w.heap.size w w' := by
  have hb0 : Below w.heap.size w (w.alloc (.cells #[.int .u8 97, .int .i64 0, .int .i64 0, .int .u8 0, .int .i64 5, .int .i64 1] 98)) := (Below.refl _ _).alloc (Nat.le_refl _) _
  have hT : IsTokens (w.alloc (.cells #[.int .u8 97, .int .i64 0, .int .i64 0, .int .u8 0, .int .i64 5, .int .i64 1] 98)) (some ⟨w.heap.size, 0, none⟩) 2 selfT := .inr ⟨w.heap.size, 0, rfl, by unfold maxLen; omega, fun i hi => by
    rcases (show i = 0 ∨ i = 1 by omega) with rfl | rfl
    · exact ⟨by simp [selfT], by simp [selfT], by simp [selfT], by simp [selfT], by simp [selfT], by simp [selfT]⟩
    · exact ⟨by simp [selfT], by simp [selfT], by simp [selfT], by simp [selfT], by simp [selfT], by simp [selfT]⟩⟩
  have HE := hide (expand_any _ 2 2 selfT _ uT uV ((hb0.cell (p := ⟨2, 0, none⟩) (cells_lt hS)).trans hS) hT (by omega) (fun i hi _ => selfT_small i hi))
  clear hS hT
  go_enter Tryd.func23, Tryd.ntmps23
  go_wp2_with fail
  refine (unhide HE).mono ?_
  generalize w.alloc (.cells #[.int .u8 97, .int .i64 0, .int .i64 0, .int .u8 0, .int .i64 5, .int .i64 1] 98) = w0 at *
  rintro e w1 (⟨_, rfl, hb1⟩ | ⟨i, q, hw, rfl, hb1⟩)
  · have hbw : Below w.heap.size w w1 := hb0.trans (hb1.mono hb0.size)
    rw [selfT_out]
    clear HE hb0 hb1
    go_wp2
    go_ret
    exact ⟨rfl, hbw⟩
  · exact absurd (selfT_good i hw.lt) hw.bad

theorem first_same {t : Tks} {i j : Nat} (h1 : ∀ k, k < i → t.good k) (h2 : ¬ t.good i) (h3 : ∀ k, k < j → t.good k) (h4 : ¬ t.good j) : i = j := by
  rcases Nat.lt_or_ge i j with h | h
  · exact absurd (h3 i h) h2
  · rcases Nat.lt_or_ge j i with h' | h'
    · exact absurd (h1 j h') h4
    · omega

set_option maxHeartbeats 2000000 in
set_option maxRecDepth 100000 in
theorem matchExpands_any (ao : Option Addr) (len cap : Nat) (t : Tks) (w : World) (a : Nat → Addr) (hS : Sent w a) (hP : IsTokens w ao len t) :
    Calls Tryd.prog 7 #[.slice ao len cap] w fun e w' => e = .returned (.bool true) ∧ Below w.heap.size w w' := by
  have HS := hide hS
  have HP := hide hP
  have HM := hide (same_any w _ _ (hS.cell 2 (by omega)))
  clear hS hP
  go_enter Tryd.func7, Tryd.ntmps7
  go_wp2_with fail
  refine (unhide HM).mono ?_
  rintro e w1 ⟨rfl, hb1⟩
  have HP1 := hide ((unhide HP).below hb1)
  have HW := hide (wide_any ao len cap t w1 (unhide HP1))
  clear HM
  go_wp2_with fail
  refine (unhide HW).mono ?_
  rintro e w1' ⟨rfl, h1⟩
  replace h1 := h1.symm
  subst h1
  by_cases hwd : len ≤ 300 ∧ t.wide len ≤ 6000
  rotate_left
  · rw [decide_eq_false hwd]
    clear HW
    go_wp2
    go_ret
    exact ⟨rfl, hb1⟩
  rw [decide_eq_true hwd]
  obtain ⟨hl, hwl⟩ := hwd
  have hsm : ∀ i, i ≤ len → (∀ j, j < i → t.good j) → (t.out i).length ≤ 300000 := fun i hi hg => by
    have q1 := t.out_le (fun j hj => (hg j hj).1)
    have q2 := t.wide_mono hi
    omega
  have HSM := hide hsm
  have HT := hide (tokens_any ao len cap t w1 (unhide HP1) (by omega))
  clear HW hsm hwl
  go_wp2_with fail
  refine (unhide HT).mono ?_
  rintro e w2 ⟨a2, c2, rfl, hT2, hb2⟩
  have hb2w : Below w.heap.size w w2 := hb1.trans (hb2.mono hb1.size)
  have hS2 := (unhide HS).below hb2w
  have HE := hide (expand_any a2 len c2 t w2 _ _ (hS2.cell 2 (by omega)) hT2 (by omega) (unhide HSM))
  clear HT hT2 hb2 hb1 HP1 hS2
  go_wp2_with fail
  refine (unhide HE).mono ?_
  rintro e w3 (⟨hg, rfl, hb3⟩ | ⟨i, q, hw, rfl, hb3⟩)
  · have HG := hide hg
    have hb3w : Below w.heap.size w w3 := hb2w.trans (hb3.mono hb2w.size)
    have HO := hide (expandOf_any ao len cap t w3 ((unhide HP).below hb3w) (by omega) (unhide HSM))
    clear HE hg hb3 hb2w
    go_wp2_with fail
    refine (unhide HO).mono ?_
    rintro e w4 (⟨_, rfl, hb4⟩ | ⟨j, hj, _, hbad, _, _⟩)
    rotate_left
    · exact absurd (unhide HG j hj) hbad
    have hb4w : Below w.heap.size w w4 := hb3w.trans (hb4.mono hb3w.size)
    have HF := hide (hb4w.alloc hb4w.size (.cells #[.int .i64 0, .int .i64 (-1)] 61))
    clear HO hb4 hb3w hb4w
    generalize t.out len = o at *
    go_wp2
    go_ret
    exact ⟨rfl, unhide HF⟩
  · have HWR := hide hw
    have hb3w : Below w.heap.size w w3 := hb2w.trans (hb3.mono hb2w.size)
    have HO := hide (expandOf_any ao len cap t w3 ((unhide HP).below hb3w) (by omega) (unhide HSM))
    clear HE hw hb3 hb2w
    go_wp2_with fail
    refine (unhide HO).mono ?_
    rintro e w4 (⟨hg, _, _⟩ | ⟨j, hj, hah, hbad, rfl, hb4⟩)
    · exact absurd (hg i (unhide HWR).lt) (unhide HWR).bad
    obtain rfl := first_same (unhide HWR).ahead (unhide HWR).bad hah hbad
    have hb4w : Below w.heap.size w w4 := hb3w.trans (hb4.mono hb3w.size)
    have hba : Below w4.heap.size w4 (w4.alloc (.cells #[.int .i64 3, .int .i64 (i : Int)] 61)) := (Below.refl _ _).alloc (Nat.le_refl _) _
    have hb5w : Below w.heap.size w (w4.alloc (.cells #[.int .i64 3, .int .i64 (i : Int)] 61)) := hb4w.trans (hba.mono hb4w.size)
    have hq3 := cells_lt (unhide HWR).at_
    have hb35 : Below w3.heap.size w3 (w4.alloc (.cells #[.int .i64 3, .int .i64 (i : Int)] 61)) := hb4.trans (hba.mono hb4.size)
    have HFA := hide (faulted_at q i 2 _ a ((unhide HS).below hb5w) (by omega) ((hb35.cell (p := ⟨q, 0, none⟩) hq3).trans (unhide HWR).at_) ((hb35.cell (p := ⟨q, 1, none⟩) hq3).trans (unhide HWR).err))
    clear HO hb4 hb3w hb4w hba hb35 hah hbad
    go_wp2_with fail
    refine (unhide HFA).mono ?_
    rintro e w5 ⟨rfl, hb5⟩
    have hbf : Below w.heap.size w w5 := hb5w.trans (hb5.mono hb5w.size)
    clear HFA hb5 hb5w
    go_wp2
    go_ret
    exact ⟨rfl, hbf⟩
end Go.Proofs.YtkpgfdhljpdidacDoor
