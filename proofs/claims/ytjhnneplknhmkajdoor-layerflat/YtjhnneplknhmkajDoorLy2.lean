/- Layers by their names: the program's, the document's. -/
import Derived.Test.YtjhnneplknhmkajDoorLy1
namespace Go.Proofs.YtjhnneplknhmkajDoor
open Go.RowKit

set_option maxHeartbeats 1000000 in
theorem indexLy_any (k : Nat) (s : Option Addr) (n c : Nat) (L : Nat → Ly) (a : Nat → Option Addr) (cp : Nat → Nat) (t : ByteArray) (w : World) (hk : w.cell? ⟨k, 0, none⟩ = some (.string t)) (hL : IsLy w s n L a cp) :
    Calls Tryd.prog 72 #[.slice s n c, .func (.func 73) #[] #[.pointer (some ⟨k, 0, none⟩)]] w fun e w' => (∃ z : Int, e = .returned (.int .i64 z) ∧ Fst L n t z) ∧ Below w.heap.size w w' := by
  have hM := hL.le
  unfold maxLen at hM
  have HC := hide (fun i wr (r : Bool) (hr : r = true ↔ (L i).name = t) (hb : Below w.heap.size w wr) => nameC_any k (L i) (a i) (cp i) t wr r hr ((hb.cell (p := ⟨k, 0, none⟩) (World.block_lt_of_cell? _ _ hk)).trans hk))
  have HP := hide hL
  have HW := hide (Below.refl w.heap.size w)
  clear hk hL
  go_enter Tryd.func72, Tryd.ntmps72
  go_wp2
  go_loopw [8] (fun iv wr => ∃ i : Nat, i ≤ n ∧ iv = .int .i64 (i : Int) ∧ Hid (¬ Hs L i t) ∧ Hid (Below w.heap.size w wr)) (fun iv _ => n - (intOf iv).toNat)
  case atStart => exact ⟨0, by omega, rfl, hs_zero L t, HW⟩
  case round =>
    clear HW
    obtain ⟨i, hi, rfl, HK, HB⟩ := hrel
    by_cases hlt : i < n
    · have g1 : decide ((i : Int) < (n : Int)) = true := decide_eq_true (by omega)
      have g1n : decide (i < n) = true := decide_eq_true hlt
      obtain ⟨r, hr⟩ : ∃ r : Bool, r = true ↔ (L i).name = t := ⟨@decide _ (Classical.propDecidable _), @decide_eq_true_iff _ (Classical.propDecidable _)⟩
      have HCi := hide (unhide HC i wr r hr (unhide HB))
      obtain ⟨b, off, rfl, hm, hc⟩ := ((unhide HP).below (unhide HB)).row.resolve_left (by omega)
      obtain ⟨c0, c1, c2, c3, c4, c5, c6, c7, c8⟩ := hc i hlt
      have ha1 : (i : Int) < (n : Int) := by omega
      clear hc hm
      unfold Ly.val at HCi
      have HR := hide hr
      clear hr
      go_wp2_with fail
      refine (unhide HCi).mono ?_
      rintro e w1 ⟨rfl, hb1⟩
      have HB1 := hide ((unhide HB).trans (hb1.mono (unhide HB).size))
      clear hb1 HCi HB c0 c1 c2 c3 c4 c5 c6 c7 c8
      rcases r with _ | _
      · have HK1 : Hid (¬ Hs L (i + 1) t) := hs_no (unhide HK) (fun q => by simpa using (unhide HR).2 q)
        go_wp2
        go_roundw
        case rel => exact ⟨i + 1, by omega, by go_num, HK1, HB1⟩
        case measure => simp [intOf]; omega
      · have HN : Hid (Fst L n t (i : Int)) := .inr ⟨i, hlt, rfl, (unhide HR).1 rfl, unhide HK⟩
        go_wp2
        go_ret
        exact ⟨⟨_, rfl, unhide HN⟩, unhide HB1⟩
    · obtain rfl : i = n := by omega
      have g1 : decide ((i : Int) < (i : Int)) = false := by simp
      go_wp2
      go_ret
      exact ⟨⟨_, rfl, .inl ⟨rfl, unhide HK⟩⟩, unhide HB⟩

theorem numberOf_any (s : Option Addr) (n c : Nat) (L : Nat → Ly) (a : Nat → Option Addr) (cp : Nat → Nat) (t : ByteArray) (w : World) (hL : IsLy w s n L a cp) :
    Calls Tryd.prog 48 #[.string t, .slice s n c] w fun e w' => (∃ z : Int, e = .returned (.int .i64 z) ∧ Fst L n t z) ∧ Below w.heap.size w w' := by
  have HA := al1 w (.cells #[.string t] 9)
  have HI := hide (indexLy_any w.heap.size s n c L a cp t _ (by rw [blk_cell HA.k0]; rfl) (hL.below HA.below))
  have HB := hide HA.below
  clear hL HA
  go_enter Tryd.func48, Tryd.ntmps48
  go_wp2_with fail
  refine (unhide HI).mono ?_
  rintro e w1 ⟨⟨z, rfl, hz⟩, hb⟩
  have HB1 := hide ((unhide HB).trans (hb.mono (unhide HB).size))
  have HZ := hide hz
  clear hb HI HB hz
  go_wp2
  go_ret
  exact ⟨⟨_, rfl, unhide HZ⟩, unhide HB1⟩

set_option maxHeartbeats 1000000 in
theorem find_any (W H : Int) (s : Option Addr) (n c : Nat) (L : Nat → Ly) (a : Nat → Option Addr) (cp : Nat → Nat) (t : ByteArray) (w : World) (hL : IsLy w s n L a cp) :
    Calls Tryd.prog 18 #[.agg #[.int .i64 W, .int .i64 H, .slice s n c], .string t] w fun e w' => (∃ z : Int, e = .returned (.int .i64 z) ∧ Fst L n t z) ∧ Below w.heap.size w w' := by
  have hM := hL.le
  unfold maxLen at hM
  have HA := al1 w (.cells #[.int .i64 W, .int .i64 H, .slice s n c] 24)
  have HP := hide (hL.below HA.below)
  have hHA := hide HA
  obtain ⟨B, hB⟩ : ∃ B, B = w.heap.size := ⟨_, rfl⟩
  clear HA hL
  go_enter Tryd.func18, Tryd.ntmps18
  go_wp2
  generalize w.alloc (.cells #[.int .i64 W, .int .i64 H, .slice s n c] 24) = w1 at *
  obtain ⟨hs1, k0, hb1⟩ := unhide hHA
  have HB := hide hb1
  rw [← hB] at k0 ⊢
  have e2 : w1.cell? ⟨B, 2, none⟩ = some (.slice s n c) := by rw [blk_cell k0]; rfl
  have hlB := blk_lt k0
  clear hHA k0 hb1 hs1 hB
  go_loop [5] (fun iv => ∃ i : Nat, i ≤ n ∧ iv = .int .i64 (i : Int) ∧ Hid (¬ Hs L i t)) (fun iv => n - (intOf iv).toNat)
  case atStart => exact ⟨0, by omega, rfl, hs_zero L t⟩
  case round =>
    obtain ⟨i, hi, rfl, HK⟩ := hrel
    by_cases hlt : i < n
    · have g1 : decide ((i : Int) < (n : Int)) = true := decide_eq_true (by omega)
      have g1n : decide (i < n) = true := decide_eq_true hlt
      obtain ⟨r, hr⟩ : ∃ r : Bool, r = true ↔ (L i).name = t := ⟨@decide _ (Classical.propDecidable _), @decide_eq_true_iff _ (Classical.propDecidable _)⟩
      obtain ⟨b, off, rfl, hm, hc⟩ := (unhide HP).row.resolve_left (by omega)
      have c0 := (hc i hlt).c0
      have ha1 : (i : Int) < (n : Int) := by omega
      have hq := str_eq _ _ _ hr
      clear hc hm
      have HR := hide hr
      clear hr
      rcases r with _ | _
      · have HK1 : Hid (¬ Hs L (i + 1) t) := hs_no (unhide HK) (fun q => by simpa using (unhide HR).2 q)
        go_wp2
        go_round
        case rel => exact ⟨i + 1, by omega, by go_num, HK1⟩
        case measure => simp [intOf]; omega
      · have HN : Hid (Fst L n t (i : Int)) := .inr ⟨i, hlt, rfl, (unhide HR).1 rfl, unhide HK⟩
        go_wp2
        go_ret
        exact ⟨⟨_, rfl, unhide HN⟩, unhide HB⟩
    · obtain rfl : i = n := by omega
      have g1 : decide ((i : Int) < (i : Int)) = false := by simp
      go_wp2
      go_ret
      exact ⟨⟨_, rfl, .inl ⟨rfl, unhide HK⟩⟩, unhide HB⟩
end Go.Proofs.YtjhnneplknhmkajDoor
