/- Walks of the statements' own helpers on chunks. -/
import Derived.Test.YtlnglpphlcebdafDoorCk5
import Derived.Test.YtlnglpphlcebdafDoorCk7
import Derived.Test.YtlnglpphlcebdafDoorCa
import Derived.Deep.RegionLaw
namespace Go.Proofs.YtlnglpphlcebdafDoor
open Go.RowKit

theorem nth_chs (c : Nat → ByteArray × ByteArray) (n j : Nat) (h : j < n) : nth (chs c n) j = c j := by
  have e : (chs c n).getD j ([], []) = ((c j).1.data.toList, (c j).2.data.toList) := by
    rw [List.getD_eq_getElem?_getD]
    simp [chs, h]
  unfold nth
  rw [e]
theorem IsC.congr {w : World} {a : Option Addr} {len : Nat} {c c' : Nat → ByteArray × ByteArray} (h : IsC w a len c) (he : ∀ j, j < len → c j = c' j) : IsC w a len c' := by
  rcases h with h | ⟨b, off, ha, hl, h⟩
  · exact .inl h
  · exact .inr ⟨b, off, ha, hl, fun i hi => by rw [← he i hi]; exact h i hi⟩
/-- Bytes of data of the first chunks. -/
def dsum (c : Nat → ByteArray × ByteArray) : Nat → Nat
  | 0 => 0
  | i + 1 => dsum c i + (c i).2.size

theorem file_len (c : Nat → ByteArray × ByteArray) (i : Nat) (h : ∀ j, j < i → Ck.Kind (c j).1.data.toList) : (Ck.file (chs c i)).length = 8 + 12 * i + dsum c i := by
  induction i with
  | zero => rfl
  | succ i ih =>
    rw [file_chs, List.length_append, ih (fun j hj => h j (by omega)), Ck.one_length, (h i (by omega)).1, show (c i).2.data.toList.length = (c i).2.size from Array.length_toList]
    show _ = 8 + 12 * (i + 1) + (dsum c i + (c i).2.size)
    omega
theorem dsum_mono (c : Nat → ByteArray × ByteArray) {i j : Nat} (h : i ≤ j) : dsum c i ≤ dsum c j := by
  induction j with
  | zero => have : i = 0 := by omega
            subst this; exact Nat.le_refl _
  | succ j ih =>
    by_cases e : i = j + 1
    · subst e; exact Nat.le_refl _
    · have := ih (by omega)
      show _ ≤ dsum c j + _
      omega

/-- The sum, as it wraps. -/
def wsum (c : Nat → ByteArray × ByteArray) : Nat → Int
  | 0 => 0
  | i + 1 => wrap64 (wsum c i + ((c i).2.size : Int))
set_option maxHeartbeats 1000000 in
/-- How many there are, and how much of data: where there are no more than thirty. -/
theorem few_any (ao : Option Addr) (len cap : Nat) (c : Nat → ByteArray × ByteArray) (w : World) (hP : IsC w ao len c) (hm : len ≤ maxLen) :
    Calls Tryd.prog 18 #[.slice ao len cap] w fun e w' => e = .returned (.bool (decide (len ≤ 30 ∧ wsum c len ≤ 3000))) ∧ w' = w := by
  obtain ⟨kb, hkb⟩ : ∃ kb, kb = decide (len ≤ 30 ∧ wsum c len ≤ 3000) := ⟨_, rfl⟩
  rw [← hkb]
  have HKB := hide hkb
  clear hkb
  go_enter Tryd.func18, Tryd.ntmps18
  go_wp2
  go_loop [3, 4] (fun nv iv => ∃ i : Nat, i ≤ len ∧ iv = .int .i64 (i : Int) ∧ nv = .int .i64 (wsum c i)) (fun _ iv => len - (intOf iv).toNat)
  case atStart => exact ⟨0, Nat.zero_le _, rfl, rfl⟩
  case round =>
    obtain ⟨i, hi, rfl, rfl⟩ := hrel
    by_cases hlt : i < len
    · have d1 : decide ((i : Int) < (len : Int)) = true := decide_eq_true (by omega)
      have d1n : decide (i < len) = true := decide_eq_true hlt
      have hii : (i : Int) < (len : Int) := by omega
      rcases hP with h0 | ⟨bb, off, rfl, hml, hcell⟩
      · omega
      obtain ⟨c0, c1, c2, c3⟩ := hcell i hlt
      have hw : Hid (wrap64 (wsum c i + ((c i).2.size : Int)) = wsum c (i + 1)) := rfl
      have him : (i : Int) + 1 ≤ 9223372036854775807 := by unfold maxLen at hm; omega
      clear hcell
      generalize (c i).2 = d at *
      generalize wsum c i = ws at *
      generalize hq : wsum c (i + 1) = ws2 at *
      go_wp2
      go_round
      case rel => exact ⟨i + 1, by omega, by go_num, by rw [hq, ← unhide hw]⟩
      case measure => simp [intOf]; omega
    · obtain rfl : i = len := by omega
      have d1 : decide ((i : Int) < (i : Int)) = false := by simp
      generalize wsum c i = ws at *
      by_cases h3 : i ≤ 30
      · have d2 : decide ((i : Int) ≤ 30) = true := decide_eq_true (by omega)
        by_cases h4 : ws ≤ 3000
        · have d3 : decide (ws ≤ 3000) = true := decide_eq_true h4
          obtain rfl : kb = true := by rw [unhide HKB]; exact decide_eq_true ⟨h3, h4⟩
          go_wp2
          go_ret
          exact ⟨rfl, rfl⟩
        · have d3 : decide (ws ≤ 3000) = false := decide_eq_false h4
          obtain rfl : kb = false := by rw [unhide HKB]; exact decide_eq_false (fun q => h4 q.2)
          go_wp2
          go_ret
          exact ⟨rfl, rfl⟩
      · have d2 : decide ((i : Int) ≤ 30) = false := decide_eq_false (by omega)
        obtain rfl : kb = false := by rw [unhide HKB]; exact decide_eq_false (fun q => h3 q.1)
        go_wp2
        go_ret
        exact ⟨rfl, rfl⟩
theorem wsum_is (c : Nat → ByteArray × ByteArray) (n : Nat) (hz : ∀ i, i < n → (c i).2.size ≤ 140737488355328) : ∀ i, i ≤ n → i ≤ 30 → wsum c i = (dsum c i : Int) ∧ dsum c i ≤ i * 140737488355328 := by
  intro i
  induction i with
  | zero => intro _ _; exact ⟨rfl, by simp [dsum]⟩
  | succ i ih =>
    intro h1 h2
    obtain ⟨e1, e2⟩ := ih (by omega) (by omega)
    have h3 := hz i (by omega)
    have h4 : dsum c (i + 1) = dsum c i + (c i).2.size := rfl
    refine ⟨?_, by rw [h4, Nat.add_mul]; omega⟩
    show wrap64 (wsum c i + ((c i).2.size : Int)) = _
    rw [e1, h4]
    have h5 : i * 140737488355328 ≤ 30 * 140737488355328 := Nat.mul_le_mul_right _ (by omega)
    unfold wrap64
    omega

set_option maxHeartbeats 1000000 in
theorem bareL_any (w : World) (uT : TypeId) (uV : Value) (hS : w.cell? ⟨1, 0, none⟩ = some (.iface uT uV)) :
    Calls Tryd.prog 17 #[] w fun e w' => e = .returned (.bool true) ∧ Below w.heap.size w w' := by
  have HX := hide (write_any none 0 0 (fun _ => (⟨#[]⟩, ⟨#[]⟩)) w uT uV hS (.inl rfl) (by omega) (fun i hi _ => by
    obtain rfl : i = 0 := by omega
    decide))
  have HG := hide signature_any
  clear hS
  go_enter Tryd.func17, Tryd.ntmps17
  go_wp2_with fail
  refine (unhide HX).mono ?_
  rintro e w1 ⟨⟨_, rfl⟩ | ⟨i, q, h, _⟩, hb1⟩
  rotate_left
  · omega
  have HB1 := hide hb1
  clear HX hb1
  go_wp2_with fail
  refine (unhide HG w1).mono ?_; rintro e w2 ⟨rfl, hb2⟩
  have HB2 := hide ((unhide HB1).trans (hb2.mono (unhide HB1).size))
  clear HB1 hb2 HG
  go_wp2
  go_ret
  exact ⟨rfl, unhide HB2⟩

set_option maxHeartbeats 2000000 in
theorem chunksOfL_any (ao : Option Addr) (len cap : Nat) (c : Nat → ByteArray × ByteArray) (w : World) (hP : IsC w ao len c) (hm : len ≤ 30) :
    Calls Tryd.prog 20 #[.slice ao len cap] w fun e w' => ∃ a2 c2, e = .returned (.slice a2 len c2) ∧ IsC w' a2 len c ∧ Below w.heap.size w w' := by
  have HP := hide hP
  have HZ : Hid (∀ j, j < len → (c j).1.size ≤ maxLen ∧ (c j).2.size ≤ maxLen) := fun j hj => by
    rcases hP with h0 | ⟨bb, off, _, _, hcell⟩
    · omega
    · exact (hcell j hj).2.2
  clear hP
  obtain ⟨B, hB⟩ : ∃ B, B = w.heap.size := ⟨_, rfl⟩
  have HPL : Hid (∀ x, ao = some x → 0 < len → x.block < B) := fun x hx h0 => by rw [hB]; exact (unhide HP).lt x hx h0
  rw [← hB]
  have HB0 := hide hB
  clear hB
  go_enter Tryd.func20, Tryd.ntmps20
  go_wp2
  go_loopw [3, 4] (fun ov iv wr => ∃ (i cc : Nat) (aa : Option Addr), i ≤ len ∧ iv = .int .i64 (i : Int) ∧ ov = .slice aa i cc ∧ Hid (wr.ownsRow B 70 2 (.slice aa i cc) (chs c i).length (chV (chs c i))) ∧ Hid (Below B w wr) ∧ B ≤ wr.heap.size) (fun _ iv _ => len - (intOf iv).toNat)
  case atStart => exact ⟨0, 0, none, Nat.zero_le _, rfl, rfl, World.ownsRow_nil _ _ _ _, Below.refl _ _, by rw [unhide HB0]; exact Nat.le_refl _⟩
  case round =>
    obtain ⟨i, cc, aa, hi, rfl, rfl, HO, HB, hBw⟩ := hrel
    by_cases hlt : i < len
    · have d1 : decide ((i : Int) < (len : Int)) = true := decide_eq_true (by omega)
      have d1n : decide (i < len) = true := decide_eq_true hlt
      have hii : (i : Int) < (len : Int) := by omega
      rcases (unhide HP).below (unhide HB) (unhide HPL) with h0 | ⟨bb, off, rfl, hml, hcell⟩
      · omega
      obtain ⟨c0, c1, c2, c3⟩ := hcell i hlt
      have hsucc := chs_succ c i
      obtain ⟨k, hk⟩ : ∃ k, k = (c i).1 := ⟨_, rfl⟩
      obtain ⟨d, hd⟩ : ∃ d, d = (c i).2 := ⟨_, rfl⟩
      rw [← hk] at c0
      rw [← hd] at c1
      rw [← hk, ← hd] at hsucc
      have hb1 : Below wr.heap.size wr (wr.drew.alloc (.cells #[.string k, .string d] 70)) := (Below.refl _ _).drew.alloc (Nat.le_refl _) _
      have HOa := hide (own_keep (unhide HO) hb1)
      have cq0 : (wr.drew.alloc (.cells #[.string k, .string d] 70)).cell? ⟨wr.heap.size, 0, none⟩ = some (.string ⟨k.data.toList.toArray⟩) := by
        show (wr.drew.alloc _).cell? ⟨wr.drew.heap.size, 0, none⟩ = _
        simp [go_sem]
      have cq1 : (wr.drew.alloc (.cells #[.string k, .string d] 70)).cell? ⟨wr.heap.size, 1, none⟩ = some (.string ⟨d.data.toList.toArray⟩) := by
        show (wr.drew.alloc _).cell? ⟨wr.drew.heap.size, 1, none⟩ = _
        simp [go_sem]
      have CQ0 := hide cq0
      have CQ1 := hide cq1
      have HB1 := hide ((unhide HB).trans (hb1.mono hBw))
      have hB1 : B ≤ (wr.drew.alloc (.cells #[.string k, .string d] 70)).heap.size := Nat.le_trans hBw hb1.size
      have HIN := hide (own_in (unhide HO))
      have HSU := hide hsucc
      have hcl := chs_length c i
      clear hcell hk hd hml hb1 cq0 cq1 HO HB hsucc c2 c3
      generalize chs c i = cs at *
      go_wp2_with fail
      go_region_law (first | (refine step_appChP rfl (.tmp 11) (.tmp 23) rfl B wr.heap.size (.slice aa i cc) cs k.data.toList d.data.toList (by simp [Act.eval]) (by simp [Act.eval]) (unhide HOa) (unhide CQ0) (unhide CQ1) (by omega) hB1 ?_; intro v2 w2 ho2 hg2 _; obtain ⟨a2, c2, rfl⟩ := own_slice ho2))
      all_goals (
        have HB2 := hide ((unhide HB1).grown hg2 hB1 (fun k e => (unhide HIN k e).1))
        have hB2 : B ≤ w2.heap.size := Nat.le_trans hB1 hg2.size
        have HO2 : Hid (w2.ownsRow B 70 2 (.slice a2 (i + 1) c2) (chs c (i + 1)).length (chV (chs c (i + 1)))) := by
          have e : (cs ++ [(k.data.toList, d.data.toList)]).length = i + 1 := by rw [List.length_append, hcl]; rfl
          show World.ownsRow _ _ _ _ _ _ _
          rw [unhide HSU, e]
          rw [e] at ho2
          exact ho2
        clear ho2 hg2 HB1 hB1 HOa CQ0 CQ1
        go_wp2
        go_roundw
        case rel => exact ⟨i + 1, c2, a2, by omega, by go_num, rfl, HO2, HB2, hB2⟩
        case measure => simp [intOf]; omega)
    · obtain rfl : i = len := by omega
      have d1 : decide ((i : Int) < (i : Int)) = false := by simp
      have hcl := chs_length c i
      have HC : Hid (IsC wr aa i c) := by
        have hsz := unhide HZ
        have h2 := row_chunks (unhide HO) (by rw [hcl]; omega) (fun j hj => by rw [nth_chs c i j (by rw [hcl] at hj; exact hj)]; exact hsz j (by rw [hcl] at hj; exact hj))
        rw [hcl] at h2
        exact h2.congr (fun j hj => nth_chs c i j hj)
      go_wp2
      go_ret
      exact ⟨_, _, rfl, unhide HC, unhide HB⟩
end Go.Proofs.YtlnglpphlcebdafDoor
