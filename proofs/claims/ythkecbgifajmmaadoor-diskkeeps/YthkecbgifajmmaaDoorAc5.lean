/- The statements' own: few, fresh, alike. -/
import Derived.Test.YthkecbgifajmmaaDoorAc4
import Derived.BigQuiet
namespace Go.Proofs.YthkecbgifajmmaaDoor
open Go.RowKit

def smallA (x : ActV) : Prop := x.S.size ≤ 200 ∧ x.kn ≤ 200
theorem acts_at {w : World} {s : Option Addr} {n : Nat} {V : Nat → ActV} (h : IsActs w s n V) (i : Nat) (hi : i < n) : ∃ b off, s = some ⟨b, off, none⟩ ∧ n ≤ maxLen ∧ w.cell? ⟨b, off + i * 4, none⟩ = some (.string (V i).kind) ∧ w.cell? ⟨b, off + i * 4 + 1, none⟩ = some (.int .i64 (V i).N) ∧ w.cell? ⟨b, off + i * 4 + 2, none⟩ = some (.string (V i).S) ∧ w.cell? ⟨b, off + i * 4 + 3, none⟩ = some (.slice (V i).ks (V i).kn (V i).kc) := by
  obtain ⟨b, off, e, hm, hc⟩ := h.1.resolve_left (by omega)
  exact ⟨b, off, e, hm, hc i hi 0 _ rfl, hc i hi 1 _ rfl, hc i hi 2 _ rfl, hc i hi 3 _ rfl⟩

set_option maxHeartbeats 2000000 in
set_option maxRecDepth 100000 in
theorem few_any (s : Option Addr) (n c : Nat) (V : Nat → ActV) (w : World) (h : IsActs w s n V) :
    Calls Tryd.prog 7 #[.slice s n c] w fun e w' => ∃ b : Bool, e = .returned (.bool b) ∧ (b = true → n ≤ 60 ∧ ∀ i, i < n → smallA (V i)) ∧ w' = w := by
  have HV := hide h
  clear h
  obtain ⟨w2, rfl⟩ : ∃ w2, w2 = w := ⟨_, rfl⟩
  have H0 : Hid (∀ i, i < 0 → smallA (V i)) := fun i hi => by omega
  go_enter Tryd.func7, Tryd.ntmps7
  go_wp2
  go_loopw [3] (fun iv wr => ∃ k : Nat, iv = .int .i64 (k : Int) ∧ k ≤ n ∧ Hid (∀ i, i < k → smallA (V i)) ∧ wr = w2) (fun iv _ => n - (intOf iv).toNat)
  case atStart => exact ⟨0, rfl, by omega, H0, rfl⟩
  case round =>
    clear H0
    obtain ⟨k, rfl, hkn, HS, rfl⟩ := hrel
    by_cases hk : k < n
    · have dk : decide ((k : Int) < (n : Int)) = true := decide_eq_true (by omega)
      have dkn : decide (k < n) = true := decide_eq_true hk
      have hkk : (k : Int) < (n : Int) := by omega
      have hk0 : (0 : Int) ≤ (k : Int) := by omega
      obtain ⟨b, off, rfl, hm, _, _, c2, c3⟩ := acts_at (unhide HV) k hk
      unfold maxLen at hm
      obtain ⟨x, hx⟩ : ∃ x, x = V k := ⟨_, rfl⟩
      rw [← hx] at c2 c3
      have HX := hide hx
      clear hx
      by_cases h1 : x.S.size ≤ 200
      · have d1 : decide ((x.S.size : Int) > 200) = false := decide_eq_false (by omega)
        have d1b : decide ((200 : Int) < (x.S.size : Int)) = false := decide_eq_false (by omega)
        by_cases h2 : x.kn ≤ 200
        · have d2 : decide ((x.kn : Int) > 200) = false := decide_eq_false (by omega)
          have d2b : decide ((200 : Int) < (x.kn : Int)) = false := decide_eq_false (by omega)
          have HS2 : Hid (∀ i, i < k + 1 → smallA (V i)) := fun i hi => by
            by_cases e : i = k
            · subst e; rw [← unhide HX]; exact ⟨h1, h2⟩
            · exact unhide HS i (by omega)
          clear HS
          go_wp2
          go_roundw
          case rel => exact ⟨k + 1, by go_num, by omega, HS2, trivial⟩
          case measure => simp [intOf]; omega
        · have d2 : decide ((x.kn : Int) > 200) = true := decide_eq_true (by omega)
          have d2b : decide ((200 : Int) < (x.kn : Int)) = true := decide_eq_true (by omega)
          go_wp2
          go_ret
          exact ⟨false, rfl, fun h => (by cases h), rfl⟩
      · have d1 : decide ((x.S.size : Int) > 200) = true := decide_eq_true (by omega)
        have d1b : decide ((200 : Int) < (x.S.size : Int)) = true := decide_eq_true (by omega)
        go_wp2
        go_ret
        exact ⟨false, rfl, fun h => (by cases h), rfl⟩
    · obtain rfl : k = n := by omega
      have dk : decide ((k : Int) < (k : Int)) = false := by simp
      by_cases h60 : k ≤ 60
      · have d6 : decide ((k : Int) ≤ 60) = true := decide_eq_true (by omega)
        go_wp2
        go_ret
        exact ⟨true, rfl, fun _ => ⟨h60, unhide HS⟩, rfl⟩
      · have d6 : decide ((k : Int) ≤ 60) = false := decide_eq_false (by omega)
        go_wp2
        go_ret
        exact ⟨false, rfl, fun h => (by cases h), rfl⟩

set_option maxHeartbeats 2000000 in
set_option maxRecDepth 100000 in
theorem fresh_any (w : World) :
    Calls Tryd.prog 6 #[] w fun e w' => e = .returned (.bool true) ∧ Below w.heap.size w w' := by
  have HM : ∀ w : World, (Instr.makeSlice 52 (.int .i64 64) (.int .i64 64)).run Tryd.prog w = .ok (.slice (some ⟨w.heap.size, 0, none⟩) 64 64) (w.alloc (.cells (madeCells #[.int .u8 0] 64) 5)) := fun w => make_u8 64 (by omega) w
  have HC : ∀ w : World, (convert 52 9 (.slice (some ⟨w.heap.size, 0, none⟩) 64 64)).run Tryd.prog (w.alloc (.cells (madeCells #[.int .u8 0] 64) 5)) = .ok (.string zeroS) (w.alloc (.cells (madeCells #[.int .u8 0] 64) 5)) := fun w => by
    have := conv_nul 64 w
    rw [nulB64] at this
    exact this
  go_enter Tryd.func6, Tryd.ntmps6
  go_wp2_with fail
  refine (dnew_ok 2 _ (by omega) (by omega)).mono ?_
  rintro e w1 ⟨q, fp, rfl, hA, hB, hb⟩
  have HA := hide hA
  have HB := hide hb
  clear hA hB hb
  go_wp2_with fail
  refine (dsectors_any q 2 fp dk0 _ (unhide HA)).mono ?_
  rintro e w2 ⟨rfl, rfl⟩
  go_wp2_with fail
  refine (dwaiting_any q 2 fp dk0 _ (unhide HA)).mono ?_
  rintro e w2 ⟨rfl, rfl⟩
  have e0 : dk0.ws.length = 0 := rfl
  rw [e0]
  go_wp2_with fail
  refine (dread_yes q 2 1 fp dk0 _ (unhide HA) (by omega) zeroS_size).mono ?_
  rintro e w2 ⟨rfl, rfl⟩
  have e1 : dk0.now 1 = zeroS := rfl
  rw [e1]
  have HB2 := hide ((unhide HB).trans ((Below.refl w2.heap.size w2).alloc (Nat.le_refl _) (.cells (madeCells #[.int .u8 0] 64) 5) |>.mono (unhide HB).size))
  generalize zeroS = zz at *
  go_wp2
  go_ret
  exact ⟨rfl, unhide HB2⟩

set_option maxHeartbeats 4000000 in
set_option maxRecDepth 100000 in
theorem alike_any (q p n : Nat) (fd fm : List Nat) (D : DkS) (w : World) (h : DAt w q n fd D) (hm : MAt w p n fm D) (hok : DkOk n D) (hn : 0 < n) (hn2 : n ≤ 4000) :
    Calls Tryd.prog 13 #[.pointer (some ⟨q, 0, none⟩), .pointer (some ⟨p, 0, none⟩)] w fun e w' => e = .returned (.bool true) ∧ Below w.heap.size w w' := by
  have HO := hide hok
  have hfew := hok.few
  have HA := hide h
  have HMA := hide hm
  have HSe := hide (fun nq => dsectors_any q n fd D (w.drewN nq) (h.keep (fun _ _ => rfl)))
  have HWa := hide (fun nq => dwaiting_any q n fd D (w.drewN nq) (h.keep (fun _ _ => rfl)))
  obtain ⟨sk, ck, sn, cn, sw, cw, rfl, hp⟩ := hm
  obtain ⟨k0, k1, k2, k3, kf, kq⟩ := hp.cells
  obtain ⟨gn, rfl, hcn, hcm, _⟩ := own_some hp.now hn
  unfold maxLen at hcm
  have HP := hide hp
  clear h hp kf k0 k3 hok
  go_enter Tryd.func13, Tryd.ntmps13
  go_wp2_with fail
  go_quiet (first | (go_at_call 20; exact Calls.quiet_of_same (unhide HSe _)) | (go_at_call 19; exact Calls.quiet_of_same (unhide HWa _)))
  go_wp2
  go_loopw [5] (fun iv wr => ∃ k : Nat, iv = .int .i64 (k : Int) ∧ k ≤ n ∧ Hid (Below w.heap.size w wr)) (fun iv _ => n - (intOf iv).toNat)
  case atStart => exact ⟨0, rfl, by omega, belowDk (Below.refl _ _)⟩
  case round =>
    obtain ⟨k, rfl, hkn, HB⟩ := hrel
    have hpr := (unhide HP).keep (fun j hj => (unhide HB).block j hj)
    obtain ⟨r0, r1, r2, r3, rf, rq⟩ := hpr.cells
    by_cases hk : k < n
    · have dk : decide ((k : Int) < (n : Int)) = true := decide_eq_true (by omega)
      have dkn : decide (k < n) = true := decide_eq_true hk
      have hkk : (k : Int) < (n : Int) := by omega
      have hk0 : (0 : Int) ≤ (k : Int) := by omega
      have hc : wr.cell? ⟨gn, k, none⟩ = some (.string (D.now k)) := by
        rw [hpr.now.cellAt k (by omega)]
        exact strL_at _ _ _ hk
      have HR := hide (dread_yes q n k fd D wr ((unhide HA).below (unhide HB)) hk ((unhide HO).now k))
      clear hpr r0 r2 r3 rf k1 k2 kq
      generalize D.now k = s at *
      go_wp2_with fail
      refine (unhide HR).mono ?_
      rintro e w3 ⟨rfl, rfl⟩
      go_wp2
      go_roundw
      case rel => exact ⟨k + 1, by go_num, by omega, HB⟩
      case measure => simp [intOf]; omega
    · obtain rfl : k = n := by omega
      have dk : decide ((k : Int) < (k : Int)) = false := by simp
      clear hpr r0 r2 r3 rf k1 k2 kq
      go_wp2
      go_ret
      exact ⟨rfl, unhide HB⟩
end Go.Proofs.YthkecbgifajmmaaDoor
