/- DiskActs: any acts on a disk of any size go as the document's do. -/
import Derived.Test.YthkecbgifajmmaaDoorAc6
namespace Go.Proofs.YthkecbgifajmmaaDoor
open Go.RowKit Go.ChangeShapes

theorem acts_cells {w w' : World} {s : Option Addr} {n : Nat} {V : Nat → ActV} (h : IsActs w s n V) (hb : Below w.heap.size w w') (i : Nat) (hi : i < n) {b off : Nat} (hs : s = some ⟨b, off, none⟩) :
    w'.cell? ⟨b, off + i * 4, none⟩ = some (.string (V i).kind) ∧ w'.cell? ⟨b, off + i * 4 + 1, none⟩ = some (.int .i64 (V i).N) ∧ w'.cell? ⟨b, off + i * 4 + 2, none⟩ = some (.string (V i).S) ∧ w'.cell? ⟨b, off + i * 4 + 3, none⟩ = some (.slice (V i).ks (V i).kn (V i).kc) := by
  obtain ⟨b', off', e, _, h0, h1, h2, h3⟩ := acts_at (h.below hb) i hi
  rw [hs] at e
  injection e with e
  injection e with e1 e2
  subst e1 e2
  exact ⟨h0, h1, h2, h3⟩

set_option maxHeartbeats 2000000 in
set_option maxRecDepth 100000 in
theorem diskActs_out (N : Int) (s : Option Addr) (n c : Nat) (V : Nat → ActV) (r : Int) (w : World) (a : Nat → Addr) (hS : Sent w a) (hV : IsActs w s n V) (hN : N < 1 ∨ 4000 < N) :
    Calls Tryd.prog 3 #[.int .i64 N, .slice s n c, .int .i64 r] w fun e w' => e = .returned (.bool true) ∧ Below w.heap.size w w' := by
  have HS := hide hS
  have HV := hide hV
  have HN := hide hN
  have d1 : (decide (N < 1) = true ∧ decide (N > 100) = false ∧ decide (100 < N) = false) ∨ (decide (N < 1) = false ∧ decide (N > 100) = true ∧ decide (100 < N) = true ∧ decide (N ≤ 4000) = false ∧ decide (N > 4000) = true ∧ decide (4000 < N) = true) := by
    rcases hN with h | h
    · exact .inl ⟨decide_eq_true h, decide_eq_false (by omega), decide_eq_false (by omega)⟩
    · exact .inr ⟨decide_eq_false (by omega), decide_eq_true (by omega), decide_eq_true (by omega), decide_eq_false (by omega), decide_eq_true (by omega), decide_eq_true (by omega)⟩
  clear hS hV hN
  go_enter Tryd.func3, Tryd.ntmps3
  go_wp2_with fail
  refine (fresh_any _).mono ?_
  rintro e w1 ⟨rfl, hb1⟩
  have HB1 := hide hb1
  have HS1 := hide ((unhide HS).below hb1)
  have hs1 := hb1.size
  clear hb1
  go_wp2_with fail
  refine (few_any s n c V _ ((unhide HV).below (unhide HB1))).mono ?_
  rintro e w2 ⟨b, rfl, hbf, rfl⟩
  clear hbf
  cases b
  · go_wp2
    go_ret
    exact ⟨rfl, unhide HB1⟩
  rcases d1 with ⟨d1, d2, d3⟩ | ⟨d1, d2, d3, d4, d5, d6⟩
  all_goals
    go_wp2_with fail
    refine (dnew_no N _ _ _ (unhide HN) ((unhide HS1).cell 1 (by omega))).mono ?_
    rintro e w3 ⟨rfl, hb3⟩
    have HB3 := hide ((unhide HB1).trans (hb3.mono hs1))
    have HS3 := hide ((unhide HS1).below hb3)
    have hs3 := (unhide HB3).size
    clear hb3
    go_wp2_with fail
    refine (coded4_sent 1 2 _ a (unhide HS3) (by omega) rfl).mono ?_
    rintro e w4 ⟨rfl, hb4⟩
    have HB4 := hide ((unhide HB3).trans (hb4.mono hs3))
    clear hb4
    go_wp2
    go_ret
    exact ⟨rfl, unhide HB4⟩

set_option maxHeartbeats 2000000 in
set_option maxRecDepth 100000 in
theorem diskActs_mid (N : Int) (s : Option Addr) (n c : Nat) (V : Nat → ActV) (r : Int) (w : World) (hV : IsActs w s n V) (hN : 100 < N ∧ N ≤ 4000) :
    Calls Tryd.prog 3 #[.int .i64 N, .slice s n c, .int .i64 r] w fun e w' => e = .returned (.bool true) ∧ Below w.heap.size w w' := by
  have HV := hide hV
  have d2 : decide (N > 100) = true := decide_eq_true (by omega)
  have d3 : decide (100 < N) = true := decide_eq_true (by omega)
  have d4 : decide (N ≤ 4000) = true := decide_eq_true (by omega)
  clear hV hN
  go_enter Tryd.func3, Tryd.ntmps3
  go_wp2_with fail
  refine (fresh_any _).mono ?_
  rintro e w1 ⟨rfl, hb1⟩
  have HB1 := hide hb1
  clear hb1
  go_wp2_with fail
  refine (few_any s n c V _ ((unhide HV).below (unhide HB1))).mono ?_
  rintro e w2 ⟨b, rfl, hbf, rfl⟩
  clear hbf
  cases b
  all_goals
    go_wp2
    go_ret
    exact ⟨rfl, unhide HB1⟩

set_option maxHeartbeats 8000000 in
set_option maxRecDepth 100000 in
theorem diskActs_in (n : Nat) (s : Option Addr) (m c : Nat) (V : Nat → ActV) (r : Int) (w : World) (a : Nat → Addr) (hS : Sent w a) (hV : IsActs w s m V) (hn : 0 < n) (hn2 : n ≤ 100) (hr : -9223372036854775808 ≤ r ∧ r ≤ 9223372036854775807) :
    Calls Tryd.prog 3 #[.int .i64 (n : Int), .slice s m c, .int .i64 r] w fun e w' => e = .returned (.bool true) ∧ Below w.heap.size w w' := by
  have HS := hide hS
  have HV := hide hV
  have d1 : decide ((n : Int) < 1) = false := decide_eq_false (by omega)
  have d2 : decide ((n : Int) > 100) = false := decide_eq_false (by omega)
  have d3 : decide ((100 : Int) < (n : Int)) = false := decide_eq_false (by omega)
  have d4 : decide ((n : Int) ≤ 4000) = true := decide_eq_true (by omega)
  have d5 : decide ((n : Int) > 4000) = false := decide_eq_false (by omega)
  have d6 : decide ((4000 : Int) < (n : Int)) = false := decide_eq_false (by omega)
  clear hS hV
  go_enter Tryd.func3, Tryd.ntmps3
  go_wp2_with fail
  refine (fresh_any _).mono ?_
  rintro e w1 ⟨rfl, hb1⟩
  have HY1 := hide (Sys.nil n hb1)
  have HB1 := hide hb1
  clear hb1
  go_wp2_with fail
  refine (few_any s m c V _ ((unhide HV).below (unhide HB1))).mono ?_
  rintro e w2 ⟨b, rfl, hbf, rfl⟩
  cases b
  · clear hbf
    go_wp2
    go_ret
    exact ⟨rfl, unhide HB1⟩
  obtain ⟨hm60, hsm⟩ := hbf rfl
  have HSM := hide hsm
  clear hbf hsm HB1
  go_wp2_with fail
  refine (dnew_ok n _ hn (by omega)).mono ?_
  rintro e w3 ⟨q, fd, rfl, hA3, hf3, hb3⟩
  have HY3 := hide ((unhide HY1).add (v := .pr q dk0) hb3 hf3 hA3)
  clear hA3 hf3 hb3 HY1
  go_wp2_with fail
  refine (newDisk_any n _ (by omega)).mono ?_
  rintro e w4 ⟨p, fm, rfl, hA4, hf4, hb4⟩
  have HY4 := hide ((unhide HY3).add (v := .md p dk0) hb4 hf4 hA4)
  clear hA4 hf4 hb4 HY3
  have HK0 := hide (dk0_ok n)
  go_wp2
  go_loopw [11] (fun iv wr => ∃ (k : Nat) (D : DkS) (fd fm : List Nat), iv = .int .i64 (k : Int) ∧ k ≤ m ∧ Hid (DkOk n D) ∧ D.ws.length ≤ k ∧ Hid (Sys n w.heap.size w wr [(fm, .md p D), (fd, .pr q D)])) (fun iv _ => m - (intOf iv).toNat)
  case atStart => exact ⟨0, dk0, fd, fm, rfl, by omega, HK0, Nat.le_refl _, HY4⟩
  case round =>
    clear HY4 HK0
    obtain ⟨k, D, fd, fm, rfl, hkm, HK, hws, HY⟩ := hrel
    by_cases hk : k < m
    · have dk : decide ((k : Int) < (m : Int)) = true := decide_eq_true (by omega)
      have dkn : decide (k < m) = true := decide_eq_true hk
      have hkk : (k : Int) < (m : Int) := by omega
      have hk0 : (0 : Int) ≤ (k : Int) := by omega
      obtain ⟨b, off, hsb, hmm, _⟩ := acts_at (unhide HV) k hk
      unfold maxLen at hmm
      obtain ⟨c0, c1, c2, c3⟩ := acts_cells (unhide HV) (unhide HY).bel k hk hsb
      have hok2 := step_ok (unhide HK) (V k) (by omega)
      have HKn := hide hok2.1
      have hws2 := hok2.2
      have hsmall := (unhide HSM k hk).2
      have hxk := (unhide HV).2 k hk
      have HXK := hide hxk
      have HCC := hide (step_code (n := n) D (V k))
      clear hok2 hxk
      subst hsb
      obtain ⟨x, hx⟩ : ∃ x, x = V k := ⟨_, rfl⟩
      rw [← hx] at c0 c1 c2 c3 HKn hws2 hsmall HXK HCC
      have HX := hide hx
      clear hx
      go_wp2_with fail
      refine (sys_do (l1 := []) (l2 := [(fd, .pr q D)]) x rfl (unhide HY) (unhide HK) (unhide HXK) (by omega) hn (by omega) (by omega)).mono ?_
      rintro e w5 ⟨rfl, fm2, hY5⟩
      have HY5 : Hid (Sys n w.heap.size w w5 [(fm2, .md p (stepS n D x).2), (fd, .pr q D)]) := hY5
      obtain ⟨e0, e1, e2, e3⟩ := acts_cells (unhide HV) hY5.bel k hk rfl
      rw [← unhide HX] at e0 e1 e2 e3
      clear hY5 HY c0 c1 c2 c3
      go_wp2_with fail
      refine (sys_act (l1 := [(fm2, .md p (stepS n D x).2)]) (l2 := []) x a rfl (unhide HS).tld (unhide HY5) (unhide HK) (unhide HXK) (by omega) (by omega)).mono ?_
      rintro e w6 ⟨rfl, fd2, hY6⟩
      have HY6 : Hid (Sys n w.heap.size w w6 [(fm2, .md p (stepS n D x).2), (fd2, .pr q (stepS n D x).2)]) := hY6
      have HC6 := hide (coded_errN a (stepS n D x).1 (unhide HCC) w6 ((unhide HS).below hY6.bel))
      clear hY6 HY5 e0 e1 e2 e3
      generalize errN a (stepS n D x).1 = ev at *
      go_wp2_with fail
      refine (unhide HC6).mono ?_
      rintro e w7 ⟨rfl, hb7⟩
      have HY7 := hide ((unhide HY6).below hb7)
      have HL7 := hide (alike_any q p n fd2 fm2 (stepS n D x).2 w7 ((unhide HY7).get (l1 := [(fm2, .md p (stepS n D x).2)]) (l2 := []) (v := .pr q (stepS n D x).2)) ((unhide HY7).get (l1 := []) (l2 := [(fd2, .pr q (stepS n D x).2)]) (v := .md p (stepS n D x).2)) (unhide HKn) hn (by omega))
      clear hb7 HY6 HC6
      go_wp2_with fail
      refine (unhide HL7).mono ?_
      rintro e w8 ⟨rfl, hb8⟩
      have HY8 := hide ((unhide HY7).below hb8)
      clear hb8 HY7 HL7
      go_wp2
      go_roundw
      case rel => exact ⟨k + 1, (stepS n D x).2, fd2, fm2, by go_num, by omega, HKn, by omega, HY8⟩
      case measure => simp [intOf]; omega
    · obtain rfl : k = m := by omega
      have dk : decide ((k : Int) < (k : Int)) = false := by simp
      have HD := hide ((unhide HY).get (l1 := [(fm, .md p D)]) (l2 := []) (v := .pr q D))
      have HM := hide ((unhide HY).get (l1 := []) (l2 := [(fd, .pr q D)]) (v := .md p D))
      have HSr := hide ((unhide HS).below (unhide HY).bel)
      have hzr := (unhide HY).bel.size
      by_cases hrr : r < 0 ∨ (n : Int) ≤ r
      · have g : (decide (r < 0) = true ∧ True) ∨ (decide (r < 0) = false ∧ decide (r ≥ (n : Int)) = true ∧ decide ((n : Int) ≤ r) = true) := by
          by_cases h : r < 0
          · exact .inl ⟨decide_eq_true h, trivial⟩
          · exact .inr ⟨decide_eq_false h, decide_eq_true (by omega), decide_eq_true (by omega)⟩
        have HRR := hide hrr
        clear hrr
        go_wp2_with fail
        refine (dread_no q n r fd D _ _ _ (unhide HD) (unhide HRR) ((unhide HSr).cell 1 (by omega))).mono ?_
        rintro e w5 ⟨rfl, hb5⟩
        have HB5 := hide ((unhide HY).bel.trans (hb5.mono hzr))
        have HS5 := hide ((unhide HSr).below hb5)
        have hz5 := (unhide HB5).size
        clear hb5
        rcases g with ⟨g0, _⟩ | ⟨g0, g1, g2⟩
        all_goals
          go_wp2_with fail
          refine (coded4_sent 1 2 _ a (unhide HS5) (by omega) rfl).mono ?_
          rintro e w6 ⟨rfl, hb6⟩
          have HB6 := hide ((unhide HB5).trans (hb6.mono hz5))
          clear hb6
          go_wp2
          go_ret
          exact ⟨rfl, unhide HB6⟩
      · obtain ⟨i, rfl⟩ := Int.eq_ofNat_of_zero_le (show 0 ≤ r by omega)
        have hi : i < n := by omega
        have g0 : decide ((i : Int) < 0) = false := by simp
        have g1 : decide ((i : Int) ≥ (n : Int)) = false := decide_eq_false (by omega)
        have g2 : decide ((n : Int) ≤ (i : Int)) = false := decide_eq_false (by omega)
        have g3 : decide (n ≤ i) = false := decide_eq_false (by omega)
        have g4 : ¬ n ≤ i := by omega
        obtain ⟨sk, ck, sn, cn, sw, cw, _, hp⟩ := unhide HM
        obtain ⟨gn, rfl, hcn, hcm, _⟩ := own_some hp.now hn
        unfold maxLen at hcm
        obtain ⟨k0, k1, k2, k3, kf, kq⟩ := hp.cells
        have hc : wr.cell? ⟨gn, i, none⟩ = some (.string (D.now i)) := by
          rw [hp.now.cellAt i (by omega)]
          exact strL_at _ _ _ hi
        have HR := hide (dread_yes q n i fd D wr (unhide HD) hi ((unhide HK).now i))
        clear hp k0 k2 k3 kf HM
        generalize D.now i = ss at *
        go_wp2_with fail
        refine (unhide HR).mono ?_
        rintro e w5 ⟨rfl, rfl⟩
        go_wp2
        go_ret
        exact ⟨rfl, (unhide HY).bel⟩

theorem diskActs_any (N : Int) (s : Option Addr) (n c : Nat) (V : Nat → ActV) (r : Int) (w : World) (a : Nat → Addr) (hS : Sent w a) (_h0 : (Lit.int .i64 N).wf = true) (hV : IsActs w s n V) (h2 : (Lit.int .i64 r).wf = true) :
    Calls Tryd.prog 3 #[.int .i64 N, .slice s n c, .int .i64 r] w fun e w' => e = .returned (.bool true) ∧ Below w.heap.size w w' := by
  have hb := bounds_i64 h2
  by_cases h1 : N < 1 ∨ 4000 < N
  · exact diskActs_out N s n c V r w a hS hV h1
  by_cases h3 : 100 < N
  · exact diskActs_mid N s n c V r w hV ⟨h3, by omega⟩
  obtain ⟨k, rfl⟩ := Int.eq_ofNat_of_zero_le (show 0 ≤ N by omega)
  exact diskActs_in k s n c V r w a hS hV (by omega) (by omega) ⟨hb.1, by have := hb.2; omega⟩
end Go.Proofs.YthkecbgifajmmaaDoor
