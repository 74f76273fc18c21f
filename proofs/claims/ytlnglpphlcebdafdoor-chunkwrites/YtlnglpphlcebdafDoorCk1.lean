/- Walks of the small parts of chunks: kinds, numbers. -/
import Derived.Test.YtlnglpphlcebdafDoorCk0
import Derived.Test.YtlnglpphlcebdafDoorTxH
import Derived.BigQuiet
import Derived.Laws.Shifts
namespace Go.Proofs.YtlnglpphlcebdafDoor
open Go.RowKit

theorem isLetter_any (b : Nat) (w : World) (_hb : b < 256) :
    Calls Tryd.prog 57 #[.int .u8 (b : Int)] w fun e w' => e = .returned (.bool (decide (Ck.Let b))) ∧ w' = w := by
  by_cases h1 : 65 ≤ b
  · have d1 : decide ((b : Int) ≥ 65) = true := decide_eq_true (by omega)
    have d1' : decide ((65 : Int) ≤ (b : Int)) = true := d1
    by_cases h2 : b ≤ 90
    · have d2 : decide ((b : Int) ≤ 90) = true := decide_eq_true (by omega)
      rw [decide_eq_true (show Ck.Let b from .inl ⟨h1, h2⟩)]
      go_enter Tryd.func57, Tryd.ntmps57
      go_wp2; go_ret; exact ⟨rfl, rfl⟩
    · have d2 : decide ((b : Int) ≤ 90) = false := decide_eq_false (by omega)
      by_cases h3 : 97 ≤ b
      · have d3 : decide ((b : Int) ≥ 97) = true := decide_eq_true (by omega)
        have d3' : decide ((97 : Int) ≤ (b : Int)) = true := d3
        by_cases h4 : b ≤ 122
        · have d4 : decide ((b : Int) ≤ 122) = true := decide_eq_true (by omega)
          rw [decide_eq_true (show Ck.Let b from .inr ⟨h3, h4⟩)]
          go_enter Tryd.func57, Tryd.ntmps57
          go_wp2; go_ret; exact ⟨rfl, rfl⟩
        · have d4 : decide ((b : Int) ≤ 122) = false := decide_eq_false (by omega)
          rw [decide_eq_false (show ¬ Ck.Let b from fun q => by unfold Ck.Let at q; omega)]
          go_enter Tryd.func57, Tryd.ntmps57
          go_wp2; go_ret; exact ⟨rfl, rfl⟩
      · have d3 : decide ((b : Int) ≥ 97) = false := decide_eq_false (by omega)
        have d3' : decide ((97 : Int) ≤ (b : Int)) = false := d3
        rw [decide_eq_false (show ¬ Ck.Let b from fun q => by unfold Ck.Let at q; omega)]
        go_enter Tryd.func57, Tryd.ntmps57
        go_wp2; go_ret; exact ⟨rfl, rfl⟩
  · have d1 : decide ((b : Int) ≥ 65) = false := decide_eq_false (by omega)
    have d1' : decide ((65 : Int) ≤ (b : Int)) = false := d1
    have d3 : decide ((b : Int) ≥ 97) = false := decide_eq_false (by omega)
    have d3' : decide ((97 : Int) ≤ (b : Int)) = false := d3
    rw [decide_eq_false (show ¬ Ck.Let b from fun q => by unfold Ck.Let at q; omega)]
    go_enter Tryd.func57, Tryd.ntmps57
    go_wp2; go_ret; exact ⟨rfl, rfl⟩

theorem kind_iff (s : ByteArray) : Ck.Kind s.data.toList ↔ s.size = 4 ∧ ∀ j (h : j < s.size), Ck.Let s[j].toNat := by
  have hz : s.data.toList.length = s.size := Array.length_toList
  constructor
  · rintro ⟨h1, h2⟩
    refine ⟨by omega, fun j h => h2 _ ?_⟩
    exact List.mem_of_getElem? (i := j) (by rw [List.getElem?_eq_getElem (by omega)]; rfl)
  · rintro ⟨h1, h2⟩
    refine ⟨by omega, fun b hb => ?_⟩
    obtain ⟨j, hj, rfl⟩ := List.mem_iff_getElem.1 hb
    exact h2 j (by omega)

set_option maxHeartbeats 1000000 in
theorem isKind_any (s : ByteArray) (w : World) :
    Calls Tryd.prog 39 #[.string s] w fun e w' => e = .returned (.bool (decide (Ck.Kind s.data.toList))) ∧ w' = w := by
  by_cases h4 : s.size = 4
  rotate_left
  · have d1 : ((s.size : Int) == 4) = false := by simp; omega
    rw [decide_eq_false (show ¬ Ck.Kind s.data.toList from fun q => h4 ((kind_iff s).1 q).1)]
    go_enter Tryd.func39, Tryd.ntmps39
    go_wp2
    go_ret
    exact ⟨rfl, rfl⟩
  have HI := hide (kind_iff s)
  obtain ⟨kb, hkb⟩ : ∃ kb, kb = decide (Ck.Kind s.data.toList) := ⟨_, rfl⟩
  rw [← hkb]
  have HKB := hide hkb
  clear hkb
  have z4 : (s.size : Int) = 4 := by omega
  go_enter Tryd.func39, Tryd.ntmps39
  go_wp2
  go_loop [9] (fun v => ∃ i : Nat, i ≤ 4 ∧ v = .int .i64 (i : Int) ∧ Hid (∀ j (h : j < s.size), j < i → Ck.Let s[j].toNat)) (fun v => 4 - (intOf v).toNat)
  case atStart => exact ⟨0, by omega, rfl, fun j h q => by omega⟩
  case round =>
    obtain ⟨i, hi, rfl, HA⟩ := hrel
    by_cases hlt : i < 4
    · have d1 : decide ((i : Int) < 4) = true := decide_eq_true (by omega)
      have hs : i < s.size := by omega
      have hsi : (i : Int) < (s.size : Int) := by omega
      have hsi4 : (i : Int) < 4 := by omega
      have hbb := s[i].toNat_lt
      have HX := hide (isLetter_any s[i].toNat w hbb)
      by_cases hl : Ck.Let s[i].toNat
      · rw [decide_eq_true hl] at HX
        have HA2 : Hid (∀ j (h : j < s.size), j < i + 1 → Ck.Let s[j].toNat) := fun j h q => by
          by_cases e : j = i
          · subst e; exact hl
          · exact unhide HA j h (by omega)
        clear hl HA
        go_wp2_with fail
        refine (unhide HX).mono ?_; rintro e w1 ⟨rfl, rfl⟩
        clear HX
        go_wp2
        go_round
        case rel => exact ⟨i + 1, by omega, by go_num, HA2⟩
        case measure => simp [intOf]; omega
      · rw [decide_eq_false hl] at HX
        obtain rfl : kb = false := by rw [unhide HKB]; exact decide_eq_false (fun q => hl (((unhide HI).1 q).2 i hs))
        clear hl HA
        go_wp2_with fail
        refine (unhide HX).mono ?_; rintro e w1 ⟨rfl, rfl⟩
        clear HX
        go_wp2
        go_ret
        exact ⟨rfl, rfl⟩
    · obtain rfl : i = 4 := by omega
      obtain rfl : kb = true := by rw [unhide HKB]; exact decide_eq_true ((unhide HI).2 ⟨h4, fun j h => unhide HA j h (by omega)⟩)
      go_wp2
      go_ret
      exact ⟨rfl, rfl⟩

set_option maxHeartbeats 1000000 in
theorem refIsKind_any (s : ByteArray) (w : World) :
    Calls Tryd.prog 41 #[.string s] w fun e w' => e = .returned (.bool (decide (Ck.Kind s.data.toList))) ∧ w' = w := by
  by_cases h4 : s.size = 4
  rotate_left
  · have d1 : ((s.size : Int) == 4) = false := by simp; omega
    rw [decide_eq_false (show ¬ Ck.Kind s.data.toList from fun q => h4 ((kind_iff s).1 q).1)]
    go_enter Tryd.func41, Tryd.ntmps41
    go_wp2
    go_ret
    exact ⟨rfl, rfl⟩
  have HI := hide (kind_iff s)
  obtain ⟨kb, hkb⟩ : ∃ kb, kb = decide (Ck.Kind s.data.toList) := ⟨_, rfl⟩
  rw [← hkb]
  have HKB := hide hkb
  clear hkb
  have z4 : (s.size : Int) = 4 := by omega
  go_enter Tryd.func41, Tryd.ntmps41
  go_wp2
  go_loop [3] (fun v => ∃ i : Nat, i ≤ 4 ∧ v = .int .i64 (i : Int) ∧ Hid (∀ j (h : j < s.size), j < i → Ck.Let s[j].toNat)) (fun v => 4 - (intOf v).toNat)
  case atStart => exact ⟨0, by omega, rfl, fun j h q => by omega⟩
  case round =>
    obtain ⟨i, hi, rfl, HA⟩ := hrel
    by_cases hlt : i < 4
    · have d1 : decide ((i : Int) < 4) = true := decide_eq_true (by omega)
      have hs : i < s.size := by omega
      have hsi : (i : Int) < (s.size : Int) := by omega
      have hsi4 : (i : Int) < 4 := by omega
      have hbb := s[i].toNat_lt
      obtain ⟨b, hb⟩ : ∃ b, b = s[i].toNat := ⟨_, rfl⟩
      have HA2 : Ck.Let b → Hid (∀ j (h : j < s.size), j < i + 1 → Ck.Let s[j].toNat) := fun hl j h q => by
          by_cases e : j = i
          · subst e; rw [← hb]; exact hl
          · exact unhide HA j h (by omega)
      have HNK : Hid (¬ Ck.Let b → ¬ Ck.Kind s.data.toList) := fun hl q => hl (by rw [hb]; exact ((unhide HI).1 q).2 i hs)
      have HA3 := hide HA2
      have hgo : ∀ (l h : Bool), decide ((b : Int) ≥ 97) = l → decide ((b : Int) ≥ 65) = h → True := fun _ _ _ _ => trivial
      clear HA2 hgo
      by_cases k1 : 97 ≤ b
      · have e1 : decide ((s[i].toNat : Int) ≥ 97) = true := decide_eq_true (by omega)
        have e1' : decide ((97 : Int) ≤ (s[i].toNat : Int)) = true := e1
        have e3 : decide ((s[i].toNat : Int) ≥ 65) = true := decide_eq_true (by omega)
        have e3' : decide ((65 : Int) ≤ (s[i].toNat : Int)) = true := e3
        have e4 : decide ((s[i].toNat : Int) ≤ 90) = false := decide_eq_false (by omega)
        by_cases k2 : b ≤ 122
        · have e2 : decide ((s[i].toNat : Int) ≤ 122) = true := decide_eq_true (by omega)
          have HR := unhide HA3 (.inr ⟨k1, k2⟩)
          clear hb
          go_wp2
          go_round
          case rel => exact ⟨i + 1, by omega, by go_num, HR⟩
          case measure => simp [intOf]; omega
        · have e2 : decide ((s[i].toNat : Int) ≤ 122) = false := decide_eq_false (by omega)
          obtain rfl : kb = false := by rw [unhide HKB]; exact decide_eq_false (unhide HNK (fun q => by unfold Ck.Let at q; omega))
          clear hb
          go_wp2
          go_ret
          exact ⟨rfl, rfl⟩
      · have e1 : decide ((s[i].toNat : Int) ≥ 97) = false := decide_eq_false (by omega)
        have e1' : decide ((97 : Int) ≤ (s[i].toNat : Int)) = false := e1
        by_cases k3 : 65 ≤ b
        · have e3 : decide ((s[i].toNat : Int) ≥ 65) = true := decide_eq_true (by omega)
          have e3' : decide ((65 : Int) ≤ (s[i].toNat : Int)) = true := e3
          by_cases k4 : b ≤ 90
          · have e4 : decide ((s[i].toNat : Int) ≤ 90) = true := decide_eq_true (by omega)
            have HR := unhide HA3 (.inl ⟨k3, k4⟩)
            clear hb
            go_wp2
            go_round
            case rel => exact ⟨i + 1, by omega, by go_num, HR⟩
            case measure => simp [intOf]; omega
          · have e4 : decide ((s[i].toNat : Int) ≤ 90) = false := decide_eq_false (by omega)
            obtain rfl : kb = false := by rw [unhide HKB]; exact decide_eq_false (unhide HNK (fun q => by unfold Ck.Let at q; omega))
            clear hb
            go_wp2
            go_ret
            exact ⟨rfl, rfl⟩
        · have e3 : decide ((s[i].toNat : Int) ≥ 65) = false := decide_eq_false (by omega)
          have e3' : decide ((65 : Int) ≤ (s[i].toNat : Int)) = false := e3
          obtain rfl : kb = false := by rw [unhide HKB]; exact decide_eq_false (unhide HNK (fun q => by unfold Ck.Let at q; omega))
          clear hb
          go_wp2
          go_ret
          exact ⟨rfl, rfl⟩
    · obtain rfl : i = 4 := by omega
      obtain rfl : kb = true := by rw [unhide HKB]; exact decide_eq_true ((unhide HI).2 ⟨h4, fun j h => unhide HA j h (by omega)⟩)
      go_wp2
      go_ret
      exact ⟨rfl, rfl⟩
end Go.Proofs.YtlnglpphlcebdafDoor
