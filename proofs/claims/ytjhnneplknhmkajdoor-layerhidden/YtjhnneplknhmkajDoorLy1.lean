/- Names of layers: the program's, the document's. -/
import Derived.Test.YtjhnneplknhmkajDoorLy0
import Derived.BigQuiet
namespace Go.Proofs.YtjhnneplknhmkajDoor
open Go.RowKit

set_option maxHeartbeats 1000000 in
theorem isName_any (s : ByteArray) (w : World) :
    Calls Tryd.prog 47 #[.string s] w fun e w' => e = .returned (.bool (nmB s)) ∧ w' = w := by
  obtain ⟨r, hr⟩ : ∃ r, r = nmB s := ⟨_, rfl⟩
  rw [← hr]
  have HF : Hid (¬ NmOk s → r = false) := fun h => by rw [hr]; exact nmB_no h
  have HT : Hid (NmOk s → r = true) := fun h => by rw [hr]; exact (nmB_iff s).2 h
  clear hr
  by_cases h1 : s.size < 1
  · have d1 : decide ((s.size : Int) < 1) = true := decide_eq_true (by omega)
    obtain rfl : r = false := unhide HF (fun q => by have := q.1; omega)
    go_enter Tryd.func47, Tryd.ntmps47
    go_wp2
    go_ret
    exact ⟨rfl, rfl⟩
  have d1 : decide ((s.size : Int) < 1) = false := decide_eq_false (by omega)
  by_cases h2 : s.size > 12
  · have d2 : decide ((s.size : Int) > 12) = true := decide_eq_true (by omega)
    obtain rfl : r = false := unhide HF (fun q => by have := q.2.1; omega)
    go_enter Tryd.func47, Tryd.ntmps47
    go_wp2
    go_ret
    exact ⟨rfl, rfl⟩
  have d2 : decide ((s.size : Int) > 12) = false := decide_eq_false (by omega)
  go_enter Tryd.func47, Tryd.ntmps47
  go_wp2
  go_loop [14] (fun v => ∃ i : Nat, i ≤ s.size ∧ v = .int .i64 (i : Int) ∧ Hid (∀ j (h : j < s.size), j < i → 97 ≤ s[j].toNat ∧ s[j].toNat ≤ 122)) (fun v => s.size - (intOf v).toNat)
  case atStart => exact ⟨0, by omega, rfl, fun j h q => by omega⟩
  case round =>
    obtain ⟨i, hi, rfl, HA⟩ := hrel
    by_cases hlt : i < s.size
    · have g1 : decide ((i : Int) < (s.size : Int)) = true := decide_eq_true (by omega)
      have hsi : (i : Int) < (s.size : Int) := by omega
      by_cases hl : s[i].toNat < 97
      · have e1 : decide ((s[i].toNat : Int) < 97) = true := decide_eq_true (by omega)
        obtain rfl : r = false := unhide HF (fun q => by have := (q.2.2 i hlt).1; omega)
        clear hl HA
        go_wp2
        go_ret
        exact ⟨rfl, rfl⟩
      have e1 : decide ((s[i].toNat : Int) < 97) = false := decide_eq_false (by omega)
      by_cases hl2 : s[i].toNat > 122
      · have e2 : decide ((s[i].toNat : Int) > 122) = true := decide_eq_true (by omega)
        obtain rfl : r = false := unhide HF (fun q => by have := (q.2.2 i hlt).2; omega)
        clear hl hl2 HA
        go_wp2
        go_ret
        exact ⟨rfl, rfl⟩
      have e2 : decide ((s[i].toNat : Int) > 122) = false := decide_eq_false (by omega)
      have HA2 : Hid (∀ j (h : j < s.size), j < i + 1 → 97 ≤ s[j].toNat ∧ s[j].toNat ≤ 122) := fun j h q => by
        by_cases e : j = i
        · subst e; exact ⟨by omega, by omega⟩
        · exact unhide HA j h (by omega)
      clear hl hl2 HA
      go_wp2
      go_round
      case rel => exact ⟨i + 1, by omega, by go_num, HA2⟩
      case measure => simp [intOf]; omega
    · obtain rfl : i = s.size := by omega
      have g1 : decide ((s.size : Int) < (s.size : Int)) = false := by simp
      obtain rfl : r = true := unhide HT ⟨by omega, by omega, fun j h => unhide HA j h h⟩
      go_wp2
      go_ret
      exact ⟨rfl, rfl⟩

set_option maxHeartbeats 1000000 in
theorem risName_any (s : ByteArray) (w : World) :
    Calls Tryd.prog 24 #[.string s] w fun e w' => e = .returned (.bool (nmB s)) ∧ w' = w := by
  obtain ⟨r, hr⟩ : ∃ r, r = nmB s := ⟨_, rfl⟩
  rw [← hr]
  have HF : Hid (¬ NmOk s → r = false) := fun h => by rw [hr]; exact nmB_no h
  have HT : Hid (NmOk s → r = true) := fun h => by rw [hr]; exact (nmB_iff s).2 h
  clear hr
  by_cases h1 : s.size < 1
  · have d1 : decide ((s.size : Int) < 1) = true := decide_eq_true (by omega)
    obtain rfl : r = false := unhide HF (fun q => by have := q.1; omega)
    go_enter Tryd.func24, Tryd.ntmps24
    go_wp2
    go_ret
    exact ⟨rfl, rfl⟩
  have d1 : decide ((s.size : Int) < 1) = false := decide_eq_false (by omega)
  by_cases h2 : s.size > 12
  · have d2 : decide ((s.size : Int) > 12) = true := decide_eq_true (by omega)
    obtain rfl : r = false := unhide HF (fun q => by have := q.2.1; omega)
    go_enter Tryd.func24, Tryd.ntmps24
    go_wp2
    go_ret
    exact ⟨rfl, rfl⟩
  have d2 : decide ((s.size : Int) > 12) = false := decide_eq_false (by omega)
  go_enter Tryd.func24, Tryd.ntmps24
  go_wp2
  go_loop [3] (fun v => ∃ i : Nat, i ≤ s.size ∧ v = .int .i64 (i : Int) ∧ Hid (∀ j (h : j < s.size), j < i → 97 ≤ s[j].toNat ∧ s[j].toNat ≤ 122)) (fun v => s.size - (intOf v).toNat)
  case atStart => exact ⟨0, by omega, rfl, fun j h q => by omega⟩
  case round =>
    obtain ⟨i, hi, rfl, HA⟩ := hrel
    by_cases hlt : i < s.size
    · have g1 : decide ((i : Int) < (s.size : Int)) = true := decide_eq_true (by omega)
      have hsi : (i : Int) < (s.size : Int) := by omega
      by_cases hl : s[i].toNat < 97
      · have e1 : decide ((s[i].toNat : Int) < 97) = true := decide_eq_true (by omega)
        obtain rfl : r = false := unhide HF (fun q => by have := (q.2.2 i hlt).1; omega)
        clear hl HA
        go_wp2
        go_ret
        exact ⟨rfl, rfl⟩
      have e1 : decide ((s[i].toNat : Int) < 97) = false := decide_eq_false (by omega)
      by_cases hl2 : s[i].toNat > 122
      · have e2 : decide ((s[i].toNat : Int) > 122) = true := decide_eq_true (by omega)
        obtain rfl : r = false := unhide HF (fun q => by have := (q.2.2 i hlt).2; omega)
        clear hl hl2 HA
        go_wp2
        go_ret
        exact ⟨rfl, rfl⟩
      have e2 : decide ((s[i].toNat : Int) > 122) = false := decide_eq_false (by omega)
      have HA2 : Hid (∀ j (h : j < s.size), j < i + 1 → 97 ≤ s[j].toNat ∧ s[j].toNat ≤ 122) := fun j h q => by
        by_cases e : j = i
        · subst e; exact ⟨by omega, by omega⟩
        · exact unhide HA j h (by omega)
      clear hl hl2 HA
      go_wp2
      go_round
      case rel => exact ⟨i + 1, by omega, by go_num, HA2⟩
      case measure => simp [intOf]; omega
    · obtain rfl : i = s.size := by omega
      have g1 : decide ((s.size : Int) < (s.size : Int)) = false := by simp
      obtain rfl : r = true := unhide HT ⟨by omega, by omega, fun j h => unhide HA j h h⟩
      go_wp2
      go_ret
      exact ⟨rfl, rfl⟩

theorem str_beq (x y : ByteArray) : (x.toList == y.toList) = decide (x = y) := by
  by_cases h : x = y
  · rw [h]; simp
  · rw [decide_eq_false h]
    simp only [beq_eq_false_iff_ne, ne_eq]
    intro e
    apply h
    rw [ByteArray.toList_eq, ByteArray.toList_eq] at e
    exact ByteArray.ext (Array.toList_inj.1 e)
theorem str_eq (a b : ByteArray) (r : Bool) (h : r = true ↔ a = b) : (a.toList == b.toList) = r := by
  rw [str_beq, Bool.eq_iff_iff, h]
  exact decide_eq_true_iff

set_option maxHeartbeats 1000000 in
theorem nameC_any (k : Nat) (l : Ly) (a : Option Addr) (c : Nat) (s : ByteArray) (w : World) (r : Bool) (hr : r = true ↔ l.name = s) (h : w.cell? ⟨k, 0, none⟩ = some (.string s)) :
    Calls Tryd.prog 73 #[l.val a c, .pointer (some ⟨k, 0, none⟩)] w fun e w' => e = .returned (.bool r) ∧ Below w.heap.size w w' := by
  have hd := str_eq _ _ _ hr
  have HB := hide (((Below.refl w.heap.size w).alloc (Nat.le_refl _) (.cells #[.string l.name, .int .i64 l.x, .int .i64 l.y, .bool l.hid, .int .i64 l.op, .int .i64 l.mo, .int .i64 l.wd, .int .i64 l.hg, .slice a l.n c] 54)))
  have hk := World.block_lt_of_cell? _ _ h
  clear hr
  unfold Ly.val
  go_enter Tryd.func73, Tryd.ntmps73
  go_wp2
  go_ret
  exact ⟨rfl, unhide HB⟩
end Go.Proofs.YtjhnneplknhmkajDoor
