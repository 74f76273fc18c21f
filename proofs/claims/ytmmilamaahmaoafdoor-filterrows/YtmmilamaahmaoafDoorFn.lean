/- The statement on rows one behind the other: what its cases share. -/
import Derived.Test.YtmmilamaahmaoafDoorFk
import Derived.Test.YtmmilamaahmaoafDoorFl0
import Derived.Test.YtmmilamaahmaoafDoorFlt
namespace Go.Proofs.YtmmilamaahmaoafDoor
open Go.RowKit

theorem Rows_sent (s : ByteArray) (z st : Int) (w : World) (a : Nat → Addr) (hS : Sent w a) :
    Calls Tryd.prog 8 #[.string s, .int .i64 z, .int .i64 st] w fun e w' => e = .returned (doV (sentV a 1) (sentV a 2) (Fil.rows s.data.toList z.toNat st.toNat (s.size / z.toNat)) (chkR s z st 0)) ∧ Below w.heap.size w w' :=
  Rows_any s z st _ _ _ _ w (hS.cell 1 (by omega)) (hS.cell 2 (by omega))
theorem Back_sent_bad (s : ByteArray) (z st : Int) (w : World) (a : Nat → Addr) (hS : Sent w a) (hn : chkR s z st 1 ≠ .fine) :
    Calls Tryd.prog 9 #[.string s, .int .i64 z, .int .i64 st] w fun e w' => e = .returned (doV (sentV a 1) (sentV a 2) [] (chkR s z st 1)) ∧ Below w.heap.size w w' :=
  (Back_bad s z st _ _ _ _ w (hS.cell 1 (by omega)) (hS.cell 2 (by omega)) hn).mono (fun _ _ h => ⟨h.1, by rw [h.2]; exact Below.refl _ _⟩)

/-- The first row whose kind is none. -/
theorem first_bad (T : List UInt8) (wd c : Nat) : (∀ j, j < c → Fil.kin T wd j ≤ 4) ∨ ∃ i, i < c ∧ (∀ j, j < i → Fil.kin T wd j ≤ 4) ∧ 4 < Fil.kin T wd i := by
  induction c with
  | zero => exact .inl (fun j hj => by omega)
  | succ c ih =>
    rcases ih with h | ⟨i, h1, h2, h3⟩
    · by_cases hc : Fil.kin T wd c ≤ 4
      · refine .inl (fun j hj => ?_)
        rcases Nat.lt_or_ge j c with q | q
        · exact h j q
        · obtain rfl : j = c := by omega
          exact hc
      · exact .inr ⟨c, by omega, h, by omega⟩
    · exact .inr ⟨i, by omega, h2, h3⟩

theorem BackR.all {xT : Value} {T : List UInt8} {wd t c : Nat} {e : Ending} {w' : World} (h : BackR xT T wd t c e w') (hg : ∀ j, j < c → Fil.kin T wd j ≤ 4) : e = .returned (.tuple #[.string (tx (Fil.back T wd t c)), .nilIface]) := by
  rcases h with ⟨_, h⟩ | ⟨i, q, hi, _, hb, _⟩
  · exact h
  · have := hg i hi
    omega
theorem BackR.at_ {xT : Value} {T : List UInt8} {wd t c i : Nat} {e : Ending} {w' : World} (h : BackR xT T wd t c e w') (hi : i < c) (hg : ∀ j, j < i → Fil.kin T wd j ≤ 4) (hb : 4 < Fil.kin T wd i) :
    ∃ q, e = .returned (.tuple #[.string ⟨#[]⟩, .iface 44 (.pointer (some ⟨q, 0, none⟩))]) ∧ w'.cell? ⟨q, 0, none⟩ = some (.int .i64 (i : Int)) ∧ w'.cell? ⟨q, 1, none⟩ = some xT := by
  rcases h with ⟨h, _⟩ | ⟨i', q, hi', hg', hb', h1, h2, h3⟩
  · have := h i hi
    omega
  · have : i' = i := by
      rcases Nat.lt_trichotomy i' i with q1 | q1 | q1
      · have := hg i' q1; omega
      · exact q1
      · have := hg' i q1; omega
    subst this
    exact ⟨q, h1, h2, h3⟩
theorem BackO.all {T : List UInt8} {wd t c : Nat} {e : Ending} (h : BackO T wd t c e) (hg : ∀ j, j < c → Fil.kin T wd j ≤ 4) : e = .returned (.tuple #[.string (tx (Fil.back T wd t c)), .int .i64 (-1)]) := by
  rcases h with ⟨_, h⟩ | ⟨i, hi, _, hb, _⟩
  · exact h
  · have := hg i hi
    omega
theorem BackO.at_ {T : List UInt8} {wd t c i : Nat} {e : Ending} (h : BackO T wd t c e) (hi : i < c) (hg : ∀ j, j < i → Fil.kin T wd j ≤ 4) (hb : 4 < Fil.kin T wd i) : e = .returned (.tuple #[.string ⟨#[]⟩, .int .i64 (i : Int)]) := by
  rcases h with ⟨h, _⟩ | ⟨i', hi', hg', hb', h1⟩
  · have := h i hi
    omega
  · have : i' = i := by
      rcases Nat.lt_trichotomy i' i with q1 | q1 | q1
      · have := hg i' q1; omega
      · exact q1
      · have := hg' i q1; omega
    subst this
    exact h1

/-- What Rows makes Back reads. -/
theorem Back_rows (s : ByteArray) (wd t c : Nat) (w : World) (a : Nat → Addr) (hS : Sent w a) (hw : 1 ≤ wd) (hw3 : wd ≤ 300000) (ht1 : 1 ≤ t) (ht : t ≤ 8) (hs : s.size ≤ 1000) (hc : c * wd = s.size) :
    Calls Tryd.prog 9 #[.string (tx (Fil.rows s.data.toList wd t c)), .int .i64 (wd : Int), .int .i64 (t : Int)] w fun e w' => e = .returned (.tuple #[.string s, .nilIface]) ∧ Below w.heap.size w w' := by
  have hrs : s.data.toList.length = s.size := by simp
  have hcs : c ≤ 1000 := by
    have := Nat.le_mul_of_pos_right c (show 0 < wd by omega)
    omega
  have hsz : (tx (Fil.rows s.data.toList wd t c)).size = c * (wd + 1) := by rw [tx_size, Fil.rows_length]
  have hsz2 : c * (wd + 1) ≤ 2000 := by rw [Nat.mul_add, Nat.mul_one, hc]; omega
  have hk : chkR (tx (Fil.rows s.data.toList wd t c)) (wd : Int) (t : Int) 1 = .fine := by
    unfold chkR
    rw [if_neg (by omega), if_neg]
    rw [hsz, Int.toNat_natCast, Nat.mul_mod_left]
    omega
  refine (Back_fine (tx (Fil.rows s.data.toList wd t c)) wd t _ _ _ _ w (hS.cell 0 (by omega)) (hS.cell 1 (by omega)) (hS.cell 2 (by omega)) hk).mono ?_
  rintro e w' ⟨h, hb⟩
  refine ⟨?_, hb⟩
  rw [hsz, Nat.mul_div_left c (show 0 < wd + 1 by omega), tx_list] at h
  rw [h.all (fun j hj => by rw [Fil.kin_rows s.data.toList wd t c j hj]; exact Fil.best_le _ _ _)]
  rw [Fil.back_rows s.data.toList wd t c ht1 (by rw [hc, hrs]; exact Nat.le_refl _) c (Nat.le_refl _), List.take_of_length_le (by rw [hc, hrs]; exact Nat.le_refl _), tx_of]
end Go.Proofs.YtmmilamaahmaoafDoor
