/- DiskCopies: a copy of a disk is the same, and goes its own way. -/
import Derived.Test.YthkecbgifajmmaaDoorDiskActs
namespace Go.Proofs.YthkecbgifajmmaaDoor
open Go.RowKit Go.ChangeShapes

theorem sys_crashP {n B : Nat} {w0 w : World} {l1 l2 : List (List Nat × Dv)} {fp : List Nat} {q : Nat} {D : DkS} (h : Sys n B w0 w (l1 ++ (fp, .pr q D) :: l2)) (hok : DkOk n D) :
    Calls Tryd.prog 16 #[.pointer (some ⟨q, 0, none⟩), .slice none 0 0] w fun e w' => e = .returned (.tuple #[]) ∧ ∃ fp', Sys n B w0 w' (l1 ++ (fp', .pr q (crashS D (keptB 0 fun _ => false))) :: l2) := by
  refine (dcrash_any q n fp D none 0 0 (fun _ => false) w h.get hok (.inl rfl) (fun k hk => by simp [blkS] at hk) (by omega)).mono ?_
  rintro e w' ⟨rfl, fp', hA, hM⟩
  exact ⟨rfl, fp', h.upd hM hA⟩
theorem sys_crashM {n B : Nat} {w0 w : World} {l1 l2 : List (List Nat × Dv)} {fp : List Nat} {p : Nat} {D : DkS} (h : Sys n B w0 w (l1 ++ (fp, .md p D) :: l2)) (hok : DkOk n D) (hn : 0 < n) (hn2 : n ≤ 4000) :
    Calls Tryd.prog 17 #[.pointer (some ⟨p, 0, none⟩), .slice none 0 0] w fun e w' => e = .returned (.tuple #[]) ∧ ∃ fp', Sys n B w0 w' (l1 ++ (fp', .md p (crashS D (keptB 0 fun _ => false))) :: l2) := by
  refine (mcrash_any p n fp D none 0 0 (fun _ => false) w h.get hok (.inl rfl) (fun h0 => by omega) (by omega) hn hn2).mono ?_
  rintro e w' ⟨rfl, fp', hA, hM⟩
  exact ⟨rfl, fp', h.upd hM hA⟩

set_option maxHeartbeats 2000000 in
set_option maxRecDepth 100000 in
theorem diskCopies_out (N : Int) (s : Option Addr) (m c : Nat) (V : Nat → ActV) (s2 : Option Addr) (m2 c2 : Nat) (V2 : Nat → ActV) (w : World) (hV : IsActs w s m V) (hV2 : IsActs w s2 m2 V2) (hN : N < 1 ∨ 50 < N) :
    Calls Tryd.prog 4 #[.int .i64 N, .slice s m c, .slice s2 m2 c2] w fun e w' => e = .returned (.bool true) ∧ Below w.heap.size w w' := by
  have HV := hide hV
  have HV2 := hide hV2
  have d1 : (decide (N < 1) = true ∧ decide (N > 50) = false) ∨ (decide (N < 1) = false ∧ decide (N > 50) = true ∧ decide (50 < N) = true) := by
    rcases hN with h | h
    · exact .inl ⟨decide_eq_true h, decide_eq_false (by omega)⟩
    · exact .inr ⟨decide_eq_false (by omega), decide_eq_true (by omega), decide_eq_true (by omega)⟩
  clear hV hV2 hN
  go_enter Tryd.func4, Tryd.ntmps4
  go_wp2_with fail
  refine (fresh_any _).mono ?_
  rintro e w1 ⟨rfl, hb1⟩
  have HB1 := hide hb1
  clear hb1
  go_wp2_with fail
  refine (few_any s m c V _ ((unhide HV).below (unhide HB1))).mono ?_
  rintro e w2 ⟨b, rfl, hbf, rfl⟩
  clear hbf
  cases b
  · go_wp2
    go_ret
    exact ⟨rfl, unhide HB1⟩
  go_wp2_with fail
  refine (few_any s2 m2 c2 V2 _ ((unhide HV2).below (unhide HB1))).mono ?_
  rintro e w3 ⟨b, rfl, hbf, rfl⟩
  clear hbf
  cases b
  · go_wp2
    go_ret
    exact ⟨rfl, unhide HB1⟩
  rcases d1 with ⟨d1, d2⟩ | ⟨d1, d2, d3⟩
  all_goals
    go_wp2
    go_ret
    exact ⟨rfl, unhide HB1⟩

set_option maxHeartbeats 16000000 in
set_option maxRecDepth 100000 in
theorem diskCopies_in (n : Nat) (s : Option Addr) (m c : Nat) (V : Nat → ActV) (s2 : Option Addr) (m2 c2 : Nat) (V2 : Nat → ActV) (w : World) (a : Nat → Addr) (hS : Sent w a) (hV : IsActs w s m V) (hV2 : IsActs w s2 m2 V2) (hn : 0 < n) (hn2 : n ≤ 50) :
    Calls Tryd.prog 4 #[.int .i64 (n : Int), .slice s m c, .slice s2 m2 c2] w fun e w' => e = .returned (.bool true) ∧ Below w.heap.size w w' := by
  have HS := hide hS
  have HV := hide hV
  have HV2 := hide hV2
  have d1 : decide ((n : Int) < 1) = false := decide_eq_false (by omega)
  have d2 : decide ((n : Int) > 50) = false := decide_eq_false (by omega)
  have d3 : decide ((50 : Int) < (n : Int)) = false := decide_eq_false (by omega)
  clear hS hV hV2
  go_enter Tryd.func4, Tryd.ntmps4
  go_wp2_with fail
  refine (fresh_any _).mono ?_
  rintro e w1 ⟨rfl, hb1⟩
  have HY1 := hide (Sys.nil n hb1)
  have HB1 := hide hb1
  clear hb1
  go_wp2_with fail
  refine (few_any s m c V _ ((unhide HV).below (unhide HB1))).mono ?_
  rintro e w2 ⟨b, rfl, hbf, rfl⟩
  cases b
  · clear hbf
    go_wp2
    go_ret
    exact ⟨rfl, unhide HB1⟩
  obtain ⟨hm60, hsm⟩ := hbf rfl
  have HSM := hide hsm
  clear hbf hsm
  go_wp2_with fail
  refine (few_any s2 m2 c2 V2 _ ((unhide HV2).below (unhide HB1))).mono ?_
  rintro e w3 ⟨b, rfl, hbf, rfl⟩
  cases b
  · clear hbf
    go_wp2
    go_ret
    exact ⟨rfl, unhide HB1⟩
  obtain ⟨hm602, hsm2⟩ := hbf rfl
  have HSM2 := hide hsm2
  clear hbf hsm2 HB1
  go_wp2_with fail
  refine (dnew_ok n _ hn (by omega)).mono ?_
  rintro e w3 ⟨q, fd, rfl, hA3, hf3, hb3⟩
  have HY3 := hide ((unhide HY1).add (v := .pr q dk0) hb3 hf3 hA3)
  clear hA3 hf3 hb3 HY1
  go_wp2_with fail
  refine (newDisk_any n _ (by omega)).mono ?_
  rintro e w4 ⟨p, fm, rfl, hA4, hf4, hb4⟩
  have HY4 := hide ((unhide HY3).add (v := .md p dk0) hb4 hf4 hA4)
  clear hA4 hf4 hb4 HY3
  go_wp2_with fail
  refine (newDisk_any n _ (by omega)).mono ?_
  rintro e w5 ⟨p2, fn, rfl, hA5, hf5, hb5⟩
  have HY5 := hide ((unhide HY4).add (v := .md p2 dk0) hb5 hf5 hA5)
  clear hA5 hf5 hb5 HY4
  have HK0 := hide (dk0_ok n)
  go_wp2
  go_loopw [12] (fun iv wr => ∃ (k : Nat) (D : DkS) (fd fm fn : List Nat), iv = .int .i64 (k : Int) ∧ k ≤ m ∧ Hid (DkOk n D) ∧ D.ws.length ≤ k ∧ Hid (Sys n w.heap.size w wr [(fn, .md p2 D), (fm, .md p D), (fd, .pr q D)])) (fun iv _ => m - (intOf iv).toNat)
  case atStart => exact ⟨0, dk0, fd, fm, fn, rfl, by omega, HK0, Nat.le_refl _, HY5⟩
  case round =>
    clear HY5 HK0
    obtain ⟨k, D, fd, fm, fn, rfl, hkm, HK, hws, HY⟩ := hrel
    by_cases hk : k < m
    · have dk : decide ((k : Int) < (m : Int)) = true := decide_eq_true (by omega)
      have dkn : decide (k < m) = true := decide_eq_true hk
      have hkk : (k : Int) < (m : Int) := by omega
      have hk0 : (0 : Int) ≤ (k : Int) := by omega
      obtain ⟨b, off, hsb, hmm, _⟩ := acts_at (unhide HV) k hk
      unfold maxLen at hmm
      obtain ⟨c0, c1, c2_, c3⟩ := acts_cells (unhide HV) (unhide HY).bel k hk hsb
      have hok2 := step_ok (unhide HK) (V k) (by omega)
      have HKn := hide hok2.1
      have hws2 := hok2.2
      have hsmall := (unhide HSM k hk).2
      have hxk := (unhide HV).2 k hk
      have HXK := hide hxk
      have HCC := hide (step_code (n := n) D (V k))
      clear hok2 hxk
      subst hsb
      obtain ⟨x, hx⟩ : ∃ x, x = V k := ⟨_, rfl⟩
      rw [← hx] at c0 c1 c2_ c3 HKn hws2 hsmall HXK HCC
      have HX := hide hx
      clear hx
      go_wp2_with fail
      refine (sys_do (l1 := [(fn, .md p2 D)]) (l2 := [(fd, .pr q D)]) x rfl (unhide HY) (unhide HK) (unhide HXK) (by omega) hn (by omega) (by omega)).mono ?_
      rintro e w6 ⟨rfl, fm2, hYn⟩
      have HY6 : Hid (Sys n w.heap.size w w6 [(fn, .md p2 D), (fm2, .md p (stepS n D x).2), (fd, .pr q D)]) := hYn
      clear hYn HY c0 c1 c2_ c3
      obtain ⟨c0, c1, c2_, c3⟩ := acts_cells (unhide HV) (unhide HY6).bel k hk rfl
      rw [← unhide HX] at c0 c1 c2_ c3
      go_wp2_with fail
      refine (sys_do (l1 := []) (l2 := [(fm2, .md p (stepS n D x).2), (fd, .pr q D)]) x rfl (unhide HY6) (unhide HK) (unhide HXK) (by omega) hn (by omega) (by omega)).mono ?_
      rintro e w7 ⟨rfl, fn2, hYn⟩
      have HY7 : Hid (Sys n w.heap.size w w7 [(fn2, .md p2 (stepS n D x).2), (fm2, .md p (stepS n D x).2), (fd, .pr q D)]) := hYn
      clear hYn HY6 c0 c1 c2_ c3
      obtain ⟨c0, c1, c2_, c3⟩ := acts_cells (unhide HV) (unhide HY7).bel k hk rfl
      rw [← unhide HX] at c0 c1 c2_ c3
      go_wp2_with fail
      refine (sys_act (l1 := [(fn2, .md p2 (stepS n D x).2), (fm2, .md p (stepS n D x).2)]) (l2 := []) x a rfl (unhide HS) (unhide HY7) (unhide HK) (unhide HXK) (by omega) (by omega)).mono ?_
      rintro e w8 ⟨rfl, fd2, hYn⟩
      have HY8 : Hid (Sys n w.heap.size w w8 [(fn2, .md p2 (stepS n D x).2), (fm2, .md p (stepS n D x).2), (fd2, .pr q (stepS n D x).2)]) := hYn
      clear hYn HY7 c0 c1 c2_ c3
      generalize errN a (stepS n D x).1 = ev at *
      go_wp2
      go_roundw
      case rel => exact ⟨k + 1, (stepS n D x).2, fd2, fm2, fn2, by go_num, by omega, HKn, by omega, HY8⟩
      case measure => simp [intOf]; omega
    · obtain rfl : k = m := by omega
      have dk : decide ((k : Int) < (k : Int)) = false := by simp
      go_wp2_with fail
      refine (dcopy_any q n fd D _ ((unhide HY).get (l1 := [(fn, .md p2 D), (fm, .md p D)]) (l2 := []) (v := .pr q D)) (unhide HK) hn (by omega)).mono ?_
      rintro e w6 ⟨qc, fc, rfl, hA6, hf6, hb6⟩
      have HY6 := hide ((unhide HY).add (v := .pr qc D) hb6 hf6 hA6)
      clear hA6 hf6 hb6 HY
      have HL := hide (alike_any qc p n fc fm D _ ((unhide HY6).get (l1 := []) (l2 := [(fn, .md p2 D), (fm, .md p D), (fd, .pr q D)]) (v := .pr qc D)) ((unhide HY6).get (l1 := [(fc, .pr qc D), (fn, .md p2 D)]) (l2 := [(fd, .pr q D)]) (v := .md p D)) (unhide HK) hn (by omega))
      go_wp2_with fail
      refine (unhide HL).mono ?_
      rintro e w7 ⟨rfl, hbL⟩
      have HY7 := hide ((unhide HY6).below hbL)
      clear hbL HL HY6
      go_wp2
      have hws0 := hws
      have HKD := HK
      go_loopw [14] (fun iv wr => ∃ (k : Nat) (E : DkS) (fc fn : List Nat), iv = .int .i64 (k : Int) ∧ k ≤ m2 ∧ Hid (DkOk n E) ∧ E.ws.length ≤ 60 + k ∧ Hid (Sys n w.heap.size w wr [(fc, .pr qc E), (fn, .md p2 E), (fm, .md p D), (fd, .pr q D)])) (fun iv _ => m2 - (intOf iv).toNat)
      case atStart => exact ⟨0, D, fc, fn, rfl, by omega, HK, by omega, HY7⟩
      case round =>
        clear HY7 HK hws hws0 HV HSM dk
        obtain ⟨k, E, fc, fn, rfl, hkm2, HK, hws, HY⟩ := hrel
        by_cases hk : k < m2
        · have dk : decide ((k : Int) < (m2 : Int)) = true := decide_eq_true (by omega)
          have dkn : decide (k < m2) = true := decide_eq_true hk
          have hkk : (k : Int) < (m2 : Int) := by omega
          have hk0 : (0 : Int) ≤ (k : Int) := by omega
          obtain ⟨b, off, hsb, hmm, _⟩ := acts_at (unhide HV2) k hk
          unfold maxLen at hmm
          obtain ⟨c0, c1, c2_, c3⟩ := acts_cells (unhide HV2) (unhide HY).bel k hk hsb
          have hok2 := step_ok (unhide HK) (V2 k) (by omega)
          have HKn := hide hok2.1
          have hws2 := hok2.2
          have hsmall := (unhide HSM2 k hk).2
          have hxk := (unhide HV2).2 k hk
          have HXK := hide hxk
          have HCC := hide (step_code (n := n) E (V2 k))
          clear hok2 hxk
          subst hsb
          obtain ⟨x, hx⟩ : ∃ x, x = V2 k := ⟨_, rfl⟩
          rw [← hx] at c0 c1 c2_ c3 HKn hws2 hsmall HXK HCC
          have HX := hide hx
          clear hx
          go_wp2_with fail
          refine (sys_do (l1 := [(fc, .pr qc E)]) (l2 := [(fm, .md p D), (fd, .pr q D)]) x rfl (unhide HY) (unhide HK) (unhide HXK) (by omega) hn (by omega) (by omega)).mono ?_
          rintro e w8 ⟨rfl, fn2, hYn⟩
          have HY8 : Hid (Sys n w.heap.size w w8 [(fc, .pr qc E), (fn2, .md p2 (stepS n E x).2), (fm, .md p D), (fd, .pr q D)]) := hYn
          clear hYn HY c0 c1 c2_ c3
          obtain ⟨c0, c1, c2_, c3⟩ := acts_cells (unhide HV2) (unhide HY8).bel k hk rfl
          rw [← unhide HX] at c0 c1 c2_ c3
          go_wp2_with fail
          refine (sys_act (l1 := []) (l2 := [(fn2, .md p2 (stepS n E x).2), (fm, .md p D), (fd, .pr q D)]) x a rfl (unhide HS) (unhide HY8) (unhide HK) (unhide HXK) (by omega) (by omega)).mono ?_
          rintro e w9 ⟨rfl, fc2, hYn⟩
          have HY9 : Hid (Sys n w.heap.size w w9 [(fc2, .pr qc (stepS n E x).2), (fn2, .md p2 (stepS n E x).2), (fm, .md p D), (fd, .pr q D)]) := hYn
          clear hYn HY8 c0 c1 c2_ c3
          have HC := hide (coded_errN a (stepS n E x).1 (unhide HCC) w9 ((unhide HS).below (unhide HY9).bel))
          generalize errN a (stepS n E x).1 = ev at *
          go_wp2_with fail
          refine (unhide HC).mono ?_
          rintro e w10 ⟨rfl, hbC⟩
          have HY10 := hide ((unhide HY9).below hbC)
          clear hbC HY9 HC
          go_wp2
          go_roundw
          case rel => exact ⟨k + 1, (stepS n E x).2, fc2, fn2, by go_num, by omega, HKn, by omega, HY10⟩
          case measure => simp [intOf]; omega
        · obtain rfl : k = m2 := by omega
          have dk : decide ((k : Int) < (k : Int)) = false := by simp
          have HL := hide (alike_any qc p2 n fc fn E _ ((unhide HY).get (l1 := []) (l2 := [(fn, .md p2 E), (fm, .md p D), (fd, .pr q D)]) (v := .pr qc E)) ((unhide HY).get (l1 := [(fc, .pr qc E)]) (l2 := [(fm, .md p D), (fd, .pr q D)]) (v := .md p2 E)) (unhide HK) hn (by omega))
          go_wp2_with fail
          refine (unhide HL).mono ?_
          rintro e w8 ⟨rfl, hbL⟩
          have HY8 := hide ((unhide HY).below hbL)
          clear hbL HL HY
          have HL := hide (alike_any q p n fd fm D _ ((unhide HY8).get (l1 := [(fc, .pr qc E), (fn, .md p2 E), (fm, .md p D)]) (l2 := []) (v := .pr q D)) ((unhide HY8).get (l1 := [(fc, .pr qc E), (fn, .md p2 E)]) (l2 := [(fd, .pr q D)]) (v := .md p D)) (unhide HKD) hn (by omega))
          go_wp2_with fail
          refine (unhide HL).mono ?_
          rintro e w9 ⟨rfl, hbL⟩
          have HY9 := hide ((unhide HY8).below hbL)
          clear hbL HL HY8
          go_wp2_with fail
          refine (sys_crashP (l1 := [(fc, .pr qc E), (fn, .md p2 E), (fm, .md p D)]) (l2 := []) (unhide HY9) (unhide HKD)).mono ?_
          rintro e w10 ⟨rfl, fd2, hYn⟩
          have HY10 : Hid (Sys n w.heap.size w w10 [(fc, .pr qc E), (fn, .md p2 E), (fm, .md p D), (fd2, .pr q (crashS D (keptB 0 fun _ => false)))]) := hYn
          clear hYn HY9
          go_wp2_with fail
          refine (sys_crashM (l1 := [(fc, .pr qc E), (fn, .md p2 E)]) (l2 := [(fd2, .pr q (crashS D (keptB 0 fun _ => false)))]) (unhide HY10) (unhide HKD) hn (by omega)).mono ?_
          rintro e w11 ⟨rfl, fm2, hYn⟩
          have HY11 : Hid (Sys n w.heap.size w w11 [(fc, .pr qc E), (fn, .md p2 E), (fm2, .md p (crashS D (keptB 0 fun _ => false))), (fd2, .pr q (crashS D (keptB 0 fun _ => false)))]) := hYn
          clear hYn HY10
          go_wp2_with fail
          refine (sys_crashP (l1 := []) (l2 := [(fn, .md p2 E), (fm2, .md p (crashS D (keptB 0 fun _ => false))), (fd2, .pr q (crashS D (keptB 0 fun _ => false)))]) (unhide HY11) (unhide HK)).mono ?_
          rintro e w12 ⟨rfl, fc2, hYn⟩
          have HY12 : Hid (Sys n w.heap.size w w12 [(fc2, .pr qc (crashS E (keptB 0 fun _ => false))), (fn, .md p2 E), (fm2, .md p (crashS D (keptB 0 fun _ => false))), (fd2, .pr q (crashS D (keptB 0 fun _ => false)))]) := hYn
          clear hYn HY11
          go_wp2_with fail
          refine (sys_crashM (l1 := [(fc2, .pr qc (crashS E (keptB 0 fun _ => false)))]) (l2 := [(fm2, .md p (crashS D (keptB 0 fun _ => false))), (fd2, .pr q (crashS D (keptB 0 fun _ => false)))]) (unhide HY12) (unhide HK) hn (by omega)).mono ?_
          rintro e w13 ⟨rfl, fn2, hYn⟩
          have HY13 : Hid (Sys n w.heap.size w w13 [(fc2, .pr qc (crashS E (keptB 0 fun _ => false))), (fn2, .md p2 (crashS E (keptB 0 fun _ => false))), (fm2, .md p (crashS D (keptB 0 fun _ => false))), (fd2, .pr q (crashS D (keptB 0 fun _ => false)))]) := hYn
          clear hYn HY12
          have HKX := hide ((unhide HKD).crash (keptB 0 fun _ => false))
          have HKY := hide ((unhide HK).crash (keptB 0 fun _ => false))
          have HL := hide (alike_any q p n fd2 fm2 (crashS D (keptB 0 fun _ => false)) _ ((unhide HY13).get (l1 := [(fc2, .pr qc (crashS E (keptB 0 fun _ => false))), (fn2, .md p2 (crashS E (keptB 0 fun _ => false))), (fm2, .md p (crashS D (keptB 0 fun _ => false)))]) (l2 := []) (v := .pr q (crashS D (keptB 0 fun _ => false)))) ((unhide HY13).get (l1 := [(fc2, .pr qc (crashS E (keptB 0 fun _ => false))), (fn2, .md p2 (crashS E (keptB 0 fun _ => false)))]) (l2 := [(fd2, .pr q (crashS D (keptB 0 fun _ => false)))]) (v := .md p (crashS D (keptB 0 fun _ => false)))) (unhide HKX) hn (by omega))
          go_wp2_with fail
          refine (unhide HL).mono ?_
          rintro e w14 ⟨rfl, hbL⟩
          have HY14 := hide ((unhide HY13).below hbL)
          clear hbL HL HY13
          have HL := hide (alike_any qc p2 n fc2 fn2 (crashS E (keptB 0 fun _ => false)) _ ((unhide HY14).get (l1 := []) (l2 := [(fn2, .md p2 (crashS E (keptB 0 fun _ => false))), (fm2, .md p (crashS D (keptB 0 fun _ => false))), (fd2, .pr q (crashS D (keptB 0 fun _ => false)))]) (v := .pr qc (crashS E (keptB 0 fun _ => false)))) ((unhide HY14).get (l1 := [(fc2, .pr qc (crashS E (keptB 0 fun _ => false)))]) (l2 := [(fm2, .md p (crashS D (keptB 0 fun _ => false))), (fd2, .pr q (crashS D (keptB 0 fun _ => false)))]) (v := .md p2 (crashS E (keptB 0 fun _ => false)))) (unhide HKY) hn (by omega))
          go_wp2_with fail
          refine (unhide HL).mono ?_
          rintro e w15 ⟨rfl, hbL⟩
          have HY15 := hide ((unhide HY14).below hbL)
          clear hbL HL HY14
          go_wp2
          go_ret
          exact ⟨rfl, (unhide HY15).bel⟩

theorem diskCopies_any (N : Int) (s : Option Addr) (m c : Nat) (V : Nat → ActV) (s2 : Option Addr) (m2 c2 : Nat) (V2 : Nat → ActV) (w : World) (a : Nat → Addr) (hS : Sent w a) (_h0 : (Lit.int .i64 N).wf = true) (hV : IsActs w s m V) (hV2 : IsActs w s2 m2 V2) :
    Calls Tryd.prog 4 #[.int .i64 N, .slice s m c, .slice s2 m2 c2] w fun e w' => e = .returned (.bool true) ∧ Below w.heap.size w w' := by
  by_cases h1 : N < 1 ∨ 50 < N
  · exact diskCopies_out N s m c V s2 m2 c2 V2 w hV hV2 h1
  obtain ⟨k, rfl⟩ := Int.eq_ofNat_of_zero_le (show 0 ≤ N by omega)
  exact diskCopies_in k s m c V s2 m2 c2 V2 w a hS hV hV2 (by omega) (by omega)
end Go.Proofs.YthkecbgifajmmaaDoor
