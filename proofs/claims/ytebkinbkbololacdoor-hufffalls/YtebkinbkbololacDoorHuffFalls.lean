/- The statement on a code of no words, or of one: the walk. -/
import Derived.Test.YtebkinbkbololacDoorHuN
import Derived.Test.YtebkinbkbololacDoorHuT
import Derived.Test.YtebkinbkbololacDoorIn
import Derived.Test.YtebkinbkbololacDoorCoded1
namespace Go.Proofs.YtebkinbkbololacDoor
open Go.RowKit Pm Cn Cd

theorem cnt_single (a : Nat) (n : Nat) : cnt (nat fun i => if i = a then 1 else 0) n = if a < n then 1 else 0 := by
  induction n with
  | zero => simp [cnt, upto]
  | succ n ih =>
    rw [cnt_succ, ih]
    unfold nat
    by_cases e : n = a
    · subst e; simp
    · by_cases e2 : a < n
      · simp [e, e2]; omega
      · simp [e, e2]; omega
theorem ones_single (a : Nat) (n : Nat) : ones (nat fun i => if i = a then 1 else 0) n = if a < n then 1 else 0 := by
  induction n with
  | zero => simp [ones, upto]
  | succ n ih =>
    rw [ones_succ, ih]
    unfold nat
    by_cases e : n = a
    · subst e; simp
    · by_cases e2 : a < n
      · simp [e, e2]; omega
      · simp [e, e2]; omega
theorem cnt_nought (n : Nat) : cnt (nat fun _ => 0) n = 0 := by
  induction n with
  | zero => rfl
  | succ n ih => rw [cnt_succ, ih]; simp [nat]
theorem syms_nought (n : Nat) : syms (fun _ => 0) n = [] := by unfold syms; simp
theorem syms_single (a n : Nat) (h : a < n) : (syms (fun i => if i = a then 1 else 0) n).Perm [a] := by
  refine (List.perm_ext_iff_of_nodup ((syms_sorted _ n).imp (fun h => Nat.ne_of_lt h)) (by simp)).2 (fun x => ?_)
  rw [syms_mem, List.mem_singleton]
  constructor
  · rintro ⟨_, h2⟩
    by_cases e : x = a
    · exact e
    · simp [e] at h2
  · rintro rfl; exact ⟨h, by simp⟩
theorem bad_single (a n : Nat) (h : n ≤ 300) : ¬ Bad (fun i => if i = a then (1 : Int) else 0) n := by
  rintro (h1 | ⟨i, _, h2⟩)
  · omega
  · by_cases e : i = a
    · simp [e] at h2
    · simp [e] at h2
theorem bad_nought (n : Nat) (h : n ≤ 300) : ¬ Bad (fun _ => (0 : Int)) n := by
  rintro (h1 | ⟨i, _, h2⟩)
  · omega
  · simp at h2

theorem huffFalls_far (many at_ : Int) (w : World) (a : Nat → Addr) (hS : Sent w a) (h : many < 1 ∨ 300 < many) :
    Calls Tryd.prog 4 #[.int .i64 many, .int .i64 at_] w fun e w' => e = .returned (.bool true) ∧ Below w.heap.size w w' := by
  have HT := hide (two_any (sentV a 1) (sentV a 2) w (hS.cell 1 (by omega)) (hS.cell 2 (by omega)))
  clear hS
  by_cases h1 : many < 1
  · have d1 : decide (many < 1) = true := by simp; omega
    go_enter Tryd.func4, Tryd.ntmps4
    go_wp2_with fail
    refine (unhide HT).mono ?_; rintro e w1 ⟨rfl, hb1⟩
    go_wp2
    go_ret
    exact ⟨rfl, hb1⟩
  · have d1 : decide (many < 1) = false := by simp; omega
    have d2 : decide (300 < many) = true := by simp; omega
    have d3 : decide (many > 300) = true := by simp; omega
    go_enter Tryd.func4, Tryd.ntmps4
    go_wp2_with fail
    refine (unhide HT).mono ?_; rintro e w1 ⟨rfl, hb1⟩
    go_wp2
    go_ret
    exact ⟨rfl, hb1⟩

set_option maxHeartbeats 2000000 in
set_option maxRecDepth 100000 in
theorem huffFalls_in (n at_ : Nat) (w : World) (a : Nat → Addr) (hS : Sent w a) (h1 : 1 ≤ n) (h3 : n ≤ 300) (hat : at_ < n) :
    Calls Tryd.prog 4 #[.int .i64 (n : Int), .int .i64 (at_ : Int)] w fun e w' => e = .returned (.bool true) ∧ Below w.heap.size w w' := by
  have HT := hide (two_any (sentV a 1) (sentV a 2) w (hS.cell 1 (by omega)) (hS.cell 2 (by omega)))
  have HS := hide hS
  have d1 : decide ((n : Int) < 1) = false := by simp; omega
  have d2 : decide ((300 : Int) < (n : Int)) = false := by simp; omega
  have d3 : decide ((n : Int) > 300) = false := by simp; omega
  have d4 : decide ((0 : Int) ≤ (at_ : Int)) = true := by simp
  have d5 : decide ((at_ : Int) < (n : Int)) = true := by simp; omega
  have d5p : (at_ : Int) < (n : Int) := by omega
  have d5n : decide (at_ < n) = true := by simp; omega
  have hmk := run_make_row' (P := Tryd.prog) 22 3 (.int .i64 0) 8 Tryd.underlying22 info_i64 rfl .i64 .i64 n (by omega) (by omega)
  clear hS
  go_enter Tryd.func4, Tryd.ntmps4
  go_wp2_with fail
  refine (unhide HT).mono ?_; rintro e w1 ⟨rfl, hb1⟩
  have hown := made_own w1 n (by omega)
  have hb2 : Below w1.heap.size w1 (w1.alloc (.cells (madeCells #[.int .i64 0] n) 3)) := (Below.refl _ _).alloc (Nat.le_refl _) _
  have hcell := hown.cellAt at_ (by omega)
  rw [intVals_at _ _ _ hat] at hcell
  have hfr := hown.frozenAt at_
  have hst := (hown.stored at_ (.int .i64 1)).1
  rw [intVals_set _ _ _ _ hat] at hst
  obtain ⟨ao3, c3, e3, hI3⟩ := ints_own hst (fun i _ => by show -9223372036854775808 ≤ (if i = at_ then (1 : Int) else 0) ∧ (if i = at_ then (1 : Int) else 0) ≤ 9223372036854775807; split <;> omega)
  have hb3 : Below w1.heap.size w1 ((w1.alloc (.cells (madeCells #[.int .i64 0] n) 3)).setCell ⟨w1.heap.size, at_, none⟩ (.int .i64 1)) := hb2.setCell (p := ⟨w1.heap.size, at_, none⟩) (Nat.le_refl _) _
  have hs1 : w1.heap.size < ((w1.alloc (.cells (madeCells #[.int .i64 0] n) 3)).setCell ⟨w1.heap.size, at_, none⟩ (.int .i64 1)).heap.size := by simp
  have HI3 := hide hI3
  have Hb3 := hide hb3
  have He3 := hide e3
  have hk3 := hb1.trans (hb3.mono hb1.size)
  have HS3 := hide (((unhide HS).below hb1).below hb3)
  clear hown hst hb2 hI3 e3 HT
  go_wp2_with fail
  clear hmk hcell hfr
  have hw : (w1.alloc (.cells (madeCells #[.int .i64 0] n) 3)).setCell ⟨w1.heap.size, at_, none⟩ (.int .i64 1) = w1.alloc (.cells ((madeCells #[.int .i64 0] n).setIfInBounds at_ (.int .i64 1)) 3) := World.setCell_alloc_at _ _ _ _ _ rfl
  rw [hw] at HI3 Hb3 hk3 HS3 hb3 hs1
  clear hw
  generalize w1.alloc (.cells ((madeCells #[.int .i64 0] n).setIfInBounds at_ (.int .i64 1)) 3) = w3 at *
  rw [unhide He3]
  refine (read_right ao3 n c3 (fun j => if j = at_ then 1 else 0) (sentV a 1) (sentV a 2) _ (unhide HI3) (by omega) ((unhide HS3).cell 1 (by omega)) ((unhide HS3).cell 2 (by omega)) (bad_single at_ n h3) (.inr (.inl ⟨by rw [cnt_single, if_pos hat], by rw [ones_single, if_pos hat]⟩))).mono ?_
  rintro e w4 ⟨T, sy, rfl, hT, hpm, hso, hb4⟩
  obtain rfl : sy = [at_] := List.perm_singleton.1 (hpm.trans (syms_single at_ n hat))
  have HS4 := hide ((unhide HS3).below hb4)
  have hk4 := hk3.trans (hb4.mono hk3.size)
  have HT4 := hide hT
  clear hT hpm hso hb4
  go_wp2_with fail
  refine (newReader_any ⟨#[255]⟩ _ (by decide)).mono ?_; rintro e w5 ⟨rfl, hR5, hb5⟩
  have hk5 := hk4.trans (hb5.mono hk4.size)
  have HT5 := hide ((unhide HT4).below hb5 (Nat.le_refl _))
  have HS5 := hide ((unhide HS4).below hb5)
  have HR5 := hide hR5
  have hvp := World.block_lt_of_cell? _ _ ((unhide HS4).cell 0 (by omega))
  clear hR5
  go_wp2_with fail
  refine (next_falls T w4.heap.size w4.heap.size at_ ⟨#[255]⟩ _ (sentV a 0) _ (unhide HT5) (Nat.le_refl _) (unhide HR5) (by simp [nat]) (by decide) (by decide) ((unhide HS5).cell 0 (by omega)) hvp).mono ?_
  rintro e w6 ⟨rfl, hb6⟩
  have hk6 := hk5.trans (hb6.mono hk4.size)
  have hb46 := hb5.trans hb6
  have HS6 := hide ((unhide HS4).below hb46)
  have HT6 := hide ((unhide HT4).below hb46 (Nat.le_refl _))
  go_wp2_with fail
  refine (coded_sent 0 1 _ a (unhide HS6) (by omega) (by decide)).mono ?_; rintro e w7 ⟨rfl, hb7⟩
  have hk7 := hk6.trans (hb7.mono hk6.size)
  have hb47 := hb46.trans (hb7.mono hb46.size)
  have HT7 := hide ((unhide HT4).below hb47 (Nat.le_refl _))
  go_wp2_with fail
  refine (newReader_any ⟨#[0]⟩ _ (by decide)).mono ?_; rintro e w8 ⟨rfl, hR8, hb8⟩
  have hk8 := hk7.trans (hb8.mono hk7.size)
  have hb48 := hb47.trans (hb8.mono hb47.size)
  have HT8 := hide ((unhide HT4).below hb48 (Nat.le_refl _))
  have HR8 := hide hR8
  clear hR8
  go_wp2_with fail
  refine (next_found T w4.heap.size w7.heap.size 0 0 1 0 ⟨#[0]⟩ _ [at_] _ (unhide HT8) hb47.size (unhide HR8) (by simp) (by simp) (by omega) (by omega) (by decide) (by decide) (fun j hj => by rw [show j = 0 by omega]; simp [en]) (fun j hj => by rw [show j = 0 by omega]; simp [sh]) (by simp [en]) (by simp [en, cn, nat]) (by simp [en, sh]) (fun j hj => by rw [show j = 0 by omega]; decide)).mono ?_
  rintro e w9 ⟨rfl, hR9, hb9⟩
  have hk9 := hk8.trans (hb9.mono hk7.size)
  have HR9 := hide hR9
  rw [show ([at_][0] : Nat) = at_ from rfl]
  clear hR9
  go_wp2_with fail
  refine (at_any _ _ _ _ (unhide HR9)).mono ?_; rintro e w10 ⟨rfl, rfl⟩
  go_wp2
  go_ret
  exact ⟨by simp, hk9⟩

set_option maxHeartbeats 2000000 in
set_option maxRecDepth 100000 in
theorem huffFalls_out (n : Nat) (at_ : Int) (w : World) (a : Nat → Addr) (hS : Sent w a) (h1 : 1 ≤ n) (h3 : n ≤ 300) (hat : at_ < 0 ∨ (n : Int) ≤ at_) :
    Calls Tryd.prog 4 #[.int .i64 (n : Int), .int .i64 at_] w fun e w' => e = .returned (.bool true) ∧ Below w.heap.size w w' := by
  have HT := hide (two_any (sentV a 1) (sentV a 2) w (hS.cell 1 (by omega)) (hS.cell 2 (by omega)))
  have HS := hide hS
  have d1 : decide ((n : Int) < 1) = false := by simp; omega
  have d2 : decide ((300 : Int) < (n : Int)) = false := by simp; omega
  have d3 : decide ((n : Int) > 300) = false := by simp; omega
  have hmk := run_make_row' (P := Tryd.prog) 22 3 (.int .i64 0) 8 Tryd.underlying22 info_i64 rfl .i64 .i64 n (by omega) (by omega)
  obtain ⟨b, hb⟩ : ∃ b, b = decide (0 ≤ at_) := ⟨_, rfl⟩
  have hdec : (b = false ∧ decide (0 ≤ at_) = false ∧ decide (at_ ≥ 0) = false) ∨ (b = true ∧ decide (0 ≤ at_) = true ∧ decide (at_ ≥ 0) = true ∧ decide (at_ < (n : Int)) = false) := by
    by_cases e : 0 ≤ at_
    · exact .inr ⟨by rw [hb]; simpa using e, by simpa using e, by simpa using e, by simp; omega⟩
    · exact .inl ⟨by rw [hb]; simpa using e, by simpa using e, by simpa using e⟩
  clear hS hat hb
  rcases hdec with ⟨_, d4, d4b⟩ | ⟨_, d4, d4b, d5⟩
  · go_enter Tryd.func4, Tryd.ntmps4
    go_wp2_with fail
    refine (unhide HT).mono ?_; rintro e w1 ⟨rfl, hb1⟩
    have hown := made_own w1 n (by omega)
    have hb3 : Below w1.heap.size w1 (w1.alloc (.cells (madeCells #[.int .i64 0] n) 3)) := (Below.refl _ _).alloc (Nat.le_refl _) _
    obtain ⟨ao3, c3, e3, hI3⟩ := ints_own hown (fun i _ => by show -9223372036854775808 ≤ (0 : Int) ∧ (0 : Int) ≤ 9223372036854775807; omega)
    have HI3 := hide hI3
    have He3 := hide e3
    have hk3 := hb1.trans (hb3.mono hb1.size)
    have HS3 := hide (((unhide HS).below hb1).below hb3)
    clear hown hb3 hI3 e3 HT
    go_wp2_with fail
    clear hmk
    generalize w1.alloc (.cells (madeCells #[.int .i64 0] n) 3) = w3 at *
    rw [unhide He3]
    refine (read_right ao3 n c3 (fun _ => 0) (sentV a 1) (sentV a 2) _ (unhide HI3) (by omega) ((unhide HS3).cell 1 (by omega)) ((unhide HS3).cell 2 (by omega)) (bad_nought n h3) (.inl (cnt_nought n))).mono ?_
    rintro e w4 ⟨T, sy, rfl, hT, hpm, hso, hb4⟩
    obtain rfl : sy = [] := List.perm_nil.1 (by rw [syms_nought] at hpm; exact hpm)
    have HS4 := hide ((unhide HS3).below hb4)
    have hk4 := hk3.trans (hb4.mono hk3.size)
    have HT4 := hide hT
    clear hT hpm hso hb4
    go_wp2_with fail
    refine (newReader_any ⟨#[255]⟩ _ (by decide)).mono ?_; rintro e w5 ⟨rfl, hR5, hb5⟩
    have hk5 := hk4.trans (hb5.mono hk4.size)
    have HT5 := hide ((unhide HT4).below hb5 (Nat.le_refl _))
    have HS5 := hide ((unhide HS4).below hb5)
    clear hR5
    go_wp2_with fail
    refine (next_empty T w4.heap.size w4.heap.size _ (sentV a 0) _ (unhide HT5) ((unhide HS5).cell 0 (by omega))).mono ?_
    rintro e w6 ⟨rfl, hb6⟩
    have hk6 := hk5.trans (hb6.mono hk5.size)
    have HS6 := hide ((unhide HS5).below hb6)
    have HT6 := hide ((unhide HT5).below hb6 hb5.size)
    go_wp2_with fail
    refine (coded_sent 0 1 _ a (unhide HS6) (by omega) (by decide)).mono ?_; rintro e w7 ⟨rfl, hb7⟩
    have hk7 := hk6.trans (hb7.mono hk6.size)
    have h56 : w4.heap.size ≤ w6.heap.size := Nat.le_trans hb5.size hb6.size
    have HT7 := hide ((unhide HT6).below hb7 h56)
    have HS7 := hide ((unhide HS6).below hb7)
    go_wp2_with fail
    refine (newReader_any ⟨#[0]⟩ _ (by decide)).mono ?_; rintro e w8 ⟨rfl, hR8, hb8⟩
    have hk8 := hk7.trans (hb8.mono hk7.size)
    have h57 : w4.heap.size ≤ w7.heap.size := Nat.le_trans h56 hb7.size
    have HT8 := hide ((unhide HT7).below hb8 h57)
    have HS8 := hide ((unhide HS7).below hb8)
    clear hR8
    go_wp2_with fail
    refine (next_empty T w4.heap.size w7.heap.size _ (sentV a 0) _ (unhide HT8) ((unhide HS8).cell 0 (by omega))).mono ?_
    rintro e w9 ⟨rfl, hb9⟩
    have hk9 := hk8.trans (hb9.mono hk8.size)
    have HS9 := hide ((unhide HS8).below hb9)
    go_wp2_with fail
    refine (coded_sent 0 1 _ a (unhide HS9) (by omega) (by decide)).mono ?_; rintro e w10 ⟨rfl, hb10⟩
    have hk10 := hk9.trans (hb10.mono hk9.size)
    go_wp2
    go_ret
    exact ⟨rfl, hk10⟩
  · go_enter Tryd.func4, Tryd.ntmps4
    go_wp2_with fail
    refine (unhide HT).mono ?_; rintro e w1 ⟨rfl, hb1⟩
    have hown := made_own w1 n (by omega)
    have hb3 : Below w1.heap.size w1 (w1.alloc (.cells (madeCells #[.int .i64 0] n) 3)) := (Below.refl _ _).alloc (Nat.le_refl _) _
    obtain ⟨ao3, c3, e3, hI3⟩ := ints_own hown (fun i _ => by show -9223372036854775808 ≤ (0 : Int) ∧ (0 : Int) ≤ 9223372036854775807; omega)
    have HI3 := hide hI3
    have He3 := hide e3
    have hk3 := hb1.trans (hb3.mono hb1.size)
    have HS3 := hide (((unhide HS).below hb1).below hb3)
    clear hown hb3 hI3 e3 HT
    go_wp2_with fail
    clear hmk
    generalize w1.alloc (.cells (madeCells #[.int .i64 0] n) 3) = w3 at *
    rw [unhide He3]
    refine (read_right ao3 n c3 (fun _ => 0) (sentV a 1) (sentV a 2) _ (unhide HI3) (by omega) ((unhide HS3).cell 1 (by omega)) ((unhide HS3).cell 2 (by omega)) (bad_nought n h3) (.inl (cnt_nought n))).mono ?_
    rintro e w4 ⟨T, sy, rfl, hT, hpm, hso, hb4⟩
    obtain rfl : sy = [] := List.perm_nil.1 (by rw [syms_nought] at hpm; exact hpm)
    have HS4 := hide ((unhide HS3).below hb4)
    have hk4 := hk3.trans (hb4.mono hk3.size)
    have HT4 := hide hT
    clear hT hpm hso hb4
    go_wp2_with fail
    refine (newReader_any ⟨#[255]⟩ _ (by decide)).mono ?_; rintro e w5 ⟨rfl, hR5, hb5⟩
    have hk5 := hk4.trans (hb5.mono hk4.size)
    have HT5 := hide ((unhide HT4).below hb5 (Nat.le_refl _))
    have HS5 := hide ((unhide HS4).below hb5)
    clear hR5
    go_wp2_with fail
    refine (next_empty T w4.heap.size w4.heap.size _ (sentV a 0) _ (unhide HT5) ((unhide HS5).cell 0 (by omega))).mono ?_
    rintro e w6 ⟨rfl, hb6⟩
    have hk6 := hk5.trans (hb6.mono hk5.size)
    have HS6 := hide ((unhide HS5).below hb6)
    have HT6 := hide ((unhide HT5).below hb6 hb5.size)
    go_wp2_with fail
    refine (coded_sent 0 1 _ a (unhide HS6) (by omega) (by decide)).mono ?_; rintro e w7 ⟨rfl, hb7⟩
    have hk7 := hk6.trans (hb7.mono hk6.size)
    have h56 : w4.heap.size ≤ w6.heap.size := Nat.le_trans hb5.size hb6.size
    have HT7 := hide ((unhide HT6).below hb7 h56)
    have HS7 := hide ((unhide HS6).below hb7)
    go_wp2_with fail
    refine (newReader_any ⟨#[0]⟩ _ (by decide)).mono ?_; rintro e w8 ⟨rfl, hR8, hb8⟩
    have hk8 := hk7.trans (hb8.mono hk7.size)
    have h57 : w4.heap.size ≤ w7.heap.size := Nat.le_trans h56 hb7.size
    have HT8 := hide ((unhide HT7).below hb8 h57)
    have HS8 := hide ((unhide HS7).below hb8)
    clear hR8
    go_wp2_with fail
    refine (next_empty T w4.heap.size w7.heap.size _ (sentV a 0) _ (unhide HT8) ((unhide HS8).cell 0 (by omega))).mono ?_
    rintro e w9 ⟨rfl, hb9⟩
    have hk9 := hk8.trans (hb9.mono hk8.size)
    have HS9 := hide ((unhide HS8).below hb9)
    go_wp2_with fail
    refine (coded_sent 0 1 _ a (unhide HS9) (by omega) (by decide)).mono ?_; rintro e w10 ⟨rfl, hb10⟩
    have hk10 := hk9.trans (hb10.mono hk9.size)
    go_wp2
    go_ret
    exact ⟨rfl, hk10⟩

theorem huffFalls_any (many at_ : Int) (w : World) (a : Nat → Addr) (hS : Sent w a) :
    Calls Tryd.prog 4 #[.int .i64 many, .int .i64 at_] w fun e w' => e = .returned (.bool true) ∧ Below w.heap.size w w' := by
  by_cases h : many < 1 ∨ 300 < many
  · exact huffFalls_far many at_ w a hS h
  obtain ⟨n, rfl⟩ := Int.eq_ofNat_of_zero_le (show 0 ≤ many by omega)
  by_cases h2 : at_ < 0 ∨ (n : Int) ≤ at_
  · exact huffFalls_out n at_ w a hS (by omega) (by omega) h2
  obtain ⟨k, rfl⟩ := Int.eq_ofNat_of_zero_le (show 0 ≤ at_ by omega)
  exact huffFalls_in n k w a hS (by omega) (by omega) (by omega)
end Go.Proofs.YtebkinbkbololacDoor
