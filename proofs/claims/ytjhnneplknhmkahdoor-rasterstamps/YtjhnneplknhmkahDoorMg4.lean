/- plain.Code of one of the errors. layercakelaw2.coded by its contracts. Pictures: the document's small tests, a pixel at a place; what the statements tell of a picture or an error. -/
import Derived.Test.YtjhnneplknhmkahDoorCode
import Derived.Test.YtjhnneplknhmkahDoorRo1
import Derived.Test.YtjhnneplknhmkahDoorRt6
namespace Go.Proofs.YtjhnneplknhmkahDoor
open Go.RowKit

theorem code_sent (i : Nat) (w : World) (a : Nat → Addr) (hS : Sent w a) (hi : i < 9) :
    Calls Tryd.prog 46 #[sentV a i] w fun e w' => e = .returned (.tuple #[.int .i64 ((i : Int) + 1), .int .i64 (-1)]) ∧ Below w.heap.size w w' := by
  refine (code_bare (a i) i w a hS (by omega) (hS.row i hi) (fun k hk => ⟨fun h => ?_, fun h => by rw [h]⟩)).mono ?_
  · rcases Nat.decEq k i with h' | h'
    · exact absurd h (hS.apart i k hi hk (fun e => h' e.symm))
    · exact h'
  · rintro e w' ⟨rfl, hb⟩
    refine ⟨?_, hb⟩
    unfold codeOf
    rw [if_pos hi]
end Go.Proofs.YtjhnneplknhmkahDoor
namespace Go.Proofs.YtjhnneplknhmkahDoor
open Go.RowKit

theorem coded2_sent (i : Nat) (c : Int) (w : World) (a : Nat → Addr) (hS : Sent w a) (hi : i < 9) (hc : ((i : Int) + 1 == c) = true) :
    Calls Tryd.prog 19 #[sentV a i, .int .i64 c] w fun e w' => e = .returned (.bool true) ∧ Below w.heap.size w w' := by
  have Hcs := code_sent i w a hS hi
  generalize sentV a i = v at *
  have Hc : Go.RowKit.Hid (Calls _ _ _ _ _) := Hcs
  clear Hcs hS
  go_enter Tryd.func19, Tryd.ntmps19
  go_wp2_with fail
  refine Hc.out.mono ?_
  rintro e w1 ⟨rfl, hb⟩
  go_wp2
  go_ret
  exact ⟨rfl, hb⟩

theorem coded2_nil (w : World) :
    Calls Tryd.prog 19 #[.nilIface, .int .i64 0] w fun e w' => e = .returned (.bool true) ∧ w' = w := by
  go_enter Tryd.func19, Tryd.ntmps19
  go_wp2_with fail
  refine (code_nil _).mono ?_
  rintro e w1 ⟨rfl, rfl⟩
  go_wp2
  go_ret
  exact ⟨rfl, rfl⟩
end Go.Proofs.YtjhnneplknhmkahDoor
namespace Go.Proofs.YtjhnneplknhmkahDoor
open Go.RowKit

set_option maxHeartbeats 4000000 in
set_option maxRecDepth 100000 in
theorem dat_any (W H : Nat) (x y : Nat) (a : Option Addr) (n c : Nat) (p : Nat → Px) (w : World) (hP : IsPx w a n p) (hW : W ≤ 256) (hH : H ≤ 256) (hx : x < W) (hy : y < H) (hn : n = W * H) :
    Calls Tryd.prog 53 #[.agg #[.int .i64 (W : Int), .int .i64 (H : Int), .slice a n c], .int .i64 (x : Int), .int .i64 (y : Int)] w fun e w' => e = .returned (p (y * W + x)).val ∧ Below w.heap.size w w' := by
  have hlt : y * W + x < n := by
    have h2 : (y + 1) * W ≤ H * W := Nat.mul_le_mul_right W hy
    rw [hn, Nat.mul_comm W H]
    rw [Nat.succ_mul] at h2
    omega
  have hyW : y * W ≤ 65536 := Nat.mul_le_mul (show y ≤ 256 by omega) hW
  obtain ⟨t, ht⟩ : ∃ t, t = y * W := ⟨_, rfl⟩
  have zt : (y : Int) * (W : Int) = (t : Int) := by rw [ht]; simp
  rw [← ht] at hlt hyW ⊢
  have wt : IntKind.i64.wrap (t : Int) = (t : Int) := by rw [IntKind.wrap_i64]; omega
  have e0 : (t : Int) + (x : Int) = ((t + x : Nat) : Int) := by simp
  obtain ⟨b, off, rfl, hm, hc⟩ := hP.resolve_left (by omega)
  have hcc := hc (t + x) hlt
  have hb2 : Below w.heap.size w ((w.alloc (.cells #[.int .i64 (W : Int), .int .i64 (H : Int), .slice (some ⟨b, off, none⟩) n c] 26)).alloc (.cells #[.int .u8 0, .int .u8 0, .int .u8 0, .int .u8 0] 23)) := ((Below.refl _ _).alloc (Nat.le_refl _) _).alloc (by simp) _
  obtain ⟨c0, c1, c2, c3⟩ := hcc.below hb2 hcc.lt
  have HBB := hide (below_two w)
  generalize p (t + x) = q at *
  unfold Px.val
  obtain ⟨k, hk⟩ : ∃ k, k = t + x := ⟨_, rfl⟩
  rw [← hk] at hlt e0 c0 c1 c2 c3
  have wk : IntKind.i64.wrap (k : Int) = (k : Int) := by rw [IntKind.wrap_i64]; omega
  have hkn : (k : Int) < (n : Int) := by omega
  clear hk hc hcc hb2 ht hP hx hy hn
  go_enter Tryd.func53, Tryd.ntmps53
  go_wp2
  refine bodyPost_ret (v := .agg #[.int .u8 (q.r.toNat : Int), .int .u8 (q.g.toNat : Int), .int .u8 (q.b.toNat : Int), .int .u8 (q.a.toNat : Int)]) ?_ rfl ⟨rfl, ?_⟩
  · rw [results_cellP (p := 6) (ty := 23) (by kernel_rfl)]
    go_simp
  · exact unhide HBB _ _

set_option maxHeartbeats 1000000 in
theorem inP_any (W H x y : Int) (a : Option Addr) (n c : Nat) (w : World) :
    Calls Tryd.prog 17 #[.agg #[.int .i64 W, .int .i64 H, .slice a n c], .int .i64 x, .int .i64 y] w fun e w' => e = .returned (.bool (decide (0 ≤ x ∧ 0 ≤ y ∧ x < W ∧ y < H))) ∧ Below w.heap.size w w' := by
  have hb : Below w.heap.size w (w.alloc (.cells #[.int .i64 W, .int .i64 H, .slice a n c] 26)) := (Below.refl _ _).alloc (Nat.le_refl _) _
  have HB := hide hb
  obtain ⟨r, hr⟩ : ∃ r, r = decide (0 ≤ x ∧ 0 ≤ y ∧ x < W ∧ y < H) := ⟨_, rfl⟩
  have d : (decide (x ≥ 0) = false ∧ r = false) ∨ (decide (x ≥ 0) = true ∧ decide (y ≥ 0) = false ∧ r = false) ∨ (decide (x ≥ 0) = true ∧ decide (y ≥ 0) = true ∧ decide (x < W) = false ∧ r = false) ∨ (decide (x ≥ 0) = true ∧ decide (y ≥ 0) = true ∧ decide (x < W) = true ∧ decide (y < H) = r) := by
    subst hr
    simp only [decide_eq_true_eq, decide_eq_false_iff_not, decide_eq_decide]
    omega
  rw [← hr]
  clear hr hb
  rcases d with ⟨d1, rfl⟩ | ⟨d1, d2, rfl⟩ | ⟨d1, d2, d3, rfl⟩ | ⟨d1, d2, d3, d4⟩
  all_goals
    go_enter Tryd.func17, Tryd.ntmps17
    go_wp2
    go_ret
    exact ⟨rfl, unhide HB⟩

theorem nearP_any (z : Int) (w : World) :
    Calls Tryd.prog 22 #[.int .i64 z] w fun e w' => e = .returned (.bool (decide (Nr z))) ∧ w' = w := by
  by_cases h1 : -10000 ≤ z
  · have d1 : decide (z ≥ -10000) = true := decide_eq_true h1
    have d1' : decide (-10000 ≤ z) = true := d1
    have hr : decide (Nr z) = decide (z ≤ 10000) := by unfold Nr; simp [h1]
    rw [hr]
    clear h1 hr
    go_enter Tryd.func22, Tryd.ntmps22
    go_wp2
    go_ret
    exact ⟨rfl, rfl⟩
  · have d1 : decide (z ≥ -10000) = false := decide_eq_false h1
    have d1' : decide (-10000 ≤ z) = false := d1
    rw [decide_eq_false (fun q : Nr z => h1 q.1)]
    clear h1
    go_enter Tryd.func22, Tryd.ntmps22
    go_wp2
    go_ret
    exact ⟨rfl, rfl⟩

set_option maxHeartbeats 1000000 in
theorem told_ok (W H : Int) (a b : Option Addr) (n c d : Nat) (p : Nat → Px) (w : World) (hA : IsPx w a n p) (hB : IsPx w b n p) (hn : n ≤ 100000) :
    Calls Tryd.prog 13 #[.agg #[.int .i64 W, .int .i64 H, .slice a n c], .nilIface, .agg #[.int .i64 W, .int .i64 H, .slice b n d], .int .i64 0] w fun e w' => e = .returned (.bool true) ∧ Below w.heap.size w w' := by
  have HA := hide (al2 w (.cells #[.int .i64 W, .int .i64 H, .slice a n c] 26) (.cells #[.int .i64 W, .int .i64 H, .slice b n d] 26))
  have HS : Hid (∀ w', Below w.heap.size w w' → Calls Tryd.prog 37 #[.agg #[.int .i64 W, .int .i64 H, .slice a n c], .agg #[.int .i64 W, .int .i64 H, .slice b n d]] w' fun e w'' => e = .returned (.bool true) ∧ Below w'.heap.size w' w'') := fun w' h => samePicture_any W H a b n c d p w' (hA.below h) (hB.below h) hn
  clear hA hB
  go_enter Tryd.func13, Tryd.ntmps13
  go_wp2_with fail
  refine (unhide HS _ (unhide HA).below).mono ?_
  rintro e w1 ⟨rfl, hb⟩
  have HB := hide ((unhide HA).below.trans (hb.mono (by rw [(unhide HA).size]; omega)))
  clear hb HA HS
  go_wp2
  go_ret
  exact ⟨rfl, unhide HB⟩

set_option maxHeartbeats 1000000 in
theorem told_err (i : Nat) (z : Int) (W H : Int) (b : Option Addr) (n d : Nat) (w : World) (a : Nat → Addr) (hS : Sent w a) (hi : i < 9) (hc : ((i : Int) + 1 == z) = true) :
    Calls Tryd.prog 13 #[.agg #[.int .i64 0, .int .i64 0, .slice none 0 0], sentV a i, .agg #[.int .i64 W, .int .i64 H, .slice b n d], .int .i64 z] w fun e w' => e = .returned (.bool true) ∧ Below w.heap.size w w' := by
  have HA := hide (al2 w (.cells #[.int .i64 0, .int .i64 0, .slice none 0 0] 26) (.cells #[.int .i64 W, .int .i64 H, .slice b n d] 26))
  have HC : Hid (∀ w', Below w.heap.size w w' → Calls Tryd.prog 19 #[sentV a i, .int .i64 z] w' fun e w'' => e = .returned (.bool true) ∧ Below w'.heap.size w' w'') := fun w' h => coded2_sent i z w' a (hS.below h) hi hc
  have HP := hide (fun w => samePicture_any 0 0 none none 0 0 0 (fun _ => px0) w (.inl rfl) (.inl rfl) (by omega))
  have hz : decide (z > 0) = true := decide_eq_true (by have := eq_of_beq hc; omega)
  have hz' : decide (0 < z) = true := hz
  generalize sentV a i = ev at *
  clear hS hc hi
  obtain ⟨B, hB⟩ : ∃ B, B = w.heap.size := ⟨_, rfl⟩
  go_enter Tryd.func13, Tryd.ntmps13
  go_wp2_with fail
  refine (unhide HC _ (unhide HA).below).mono ?_
  generalize (w.alloc (.cells #[.int .i64 0, .int .i64 0, .slice none 0 0] 26)).alloc (.cells #[.int .i64 W, .int .i64 H, .slice b n d] 26) = w2 at *
  rw [← hB] at HA ⊢
  obtain ⟨hs, k0, k1, hb2⟩ := unhide HA
  rintro e w1 ⟨rfl, hb⟩
  have k0' := blk_below k0 hb (by omega)
  have c0 : w1.cell? ⟨B, 0, none⟩ = some (.int .i64 0) := blk_cell k0' 0
  have c1 : w1.cell? ⟨B, 1, none⟩ = some (.int .i64 0) := blk_cell k0' 1
  have c2 : w1.cell? ⟨B, 2, none⟩ = some (.slice none 0 0) := blk_cell k0' 2
  have hsz := hb.size
  have HB := hide (hb2.trans (hb.mono (by omega)))
  have hl : B ≤ w1.heap.size := by omega
  have HBE := hide hB
  clear hb HA HC k0 k1 k0' hb2 hs hB hsz
  go_wp2_with fail
  refine (unhide HP _).mono ?_
  rintro e w3 ⟨rfl, hb3⟩
  have HB3 := hide ((unhide HB).trans (hb3.mono hl))
  clear hb3 HP HB c0 c1 c2
  go_wp2
  go_ret
  exact ⟨rfl, by rw [← unhide HBE]; exact unhide HB3⟩
end Go.Proofs.YtjhnneplknhmkahDoor
