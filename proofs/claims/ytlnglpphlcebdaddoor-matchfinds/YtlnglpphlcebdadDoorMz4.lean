/- Chains of places in memory: the longest match at a place. -/
import Derived.Test.YtlnglpphlcebdadDoorMz3
import Derived.Deep.QuietTactic
import Derived.Deep.DeepCutAuto
namespace Go.Proofs.YtlnglpphlcebdadDoor
open Go.RowKit Mm

theorem key_three {s : Nat → Nat} {p a : Nat} (h : keyAt s p = keyAt s a) : ∀ i, i < 3 → s (p + i) = s (a + i) := by
  unfold keyAt at h
  injection h with h1 h2
  injection h2 with h2 h3
  intro i hi
  obtain rfl | rfl | rfl : i = 0 ∨ i = 1 ∨ i = 2 := by omega
  · exact h1
  · exact h2
  · exact h3

theorem longest_no (c bm gb win a : Nat) (s : ByteArray) (w : World) (h : CH w c bm gb s win a) (hs : s.size ≤ 3000) (ha : a ≤ s.size) (hn : s.size < a + 3) :
    Calls Tryd.prog 22 #[.pointer (some ⟨c, 0, none⟩), .int .i64 (a : Int)] w fun e w' => e = .returned (.tuple #[.int .i64 0, .int .i64 0]) ∧ w' = w := by
  have HB := hide (begins_any c a s w h.c0 (by omega) ha)
  rw [decide_eq_false (by omega)] at HB
  clear h
  go_enter Tryd.func22, Tryd.ntmps22
  go_wp2_with fail
  refine (unhide HB).mono ?_; rintro e w1 ⟨rfl, rfl⟩
  go_wp2
  go_ret2
  exact ⟨rfl, rfl⟩

set_option maxHeartbeats 4000000 in
set_option maxRecDepth 100000 in
theorem longest_yes (c bm gb win a : Nat) (s : ByteArray) (w : World) (h : CH w c bm gb s win a) (hs : s.size ≤ 3000) (hn : a + 3 ≤ s.size) (hwin : win ≤ 32768) :
    Calls Tryd.prog 22 #[.pointer (some ⟨c, 0, none⟩), .int .i64 (a : Int)] w fun e w' => ∃ l b : Nat, e = .returned (.tuple #[.int .i64 (l : Int), .int .i64 (b : Int)]) ∧ Mm.Good (byt s) win a (min 258 (s.size - a)) l b ∧ Mm.Best (byt s) win a (min 258 (s.size - a)) l ∧ Below w.heap.size w w' := by
  have HB := hide (begins_any c a s w h.c0 (by omega) (by omega))
  rw [decide_eq_true hn] at HB
  obtain ⟨x, hx⟩ : ∃ x, x = byt s a := ⟨_, rfl⟩
  obtain ⟨y, hy⟩ : ∃ y, y = byt s (a + 1) := ⟨_, rfl⟩
  obtain ⟨z, hz⟩ : ∃ z, z = byt s (a + 2) := ⟨_, rfl⟩
  have HK := hide (key_any c a s w.drew h.c0 (by omega) hn)
  rw [← hx, ← hy, ← hz] at HK
  have hxl : x < 256 := by rw [hx]; exact byt_lt _ _
  have hyl : y < 256 := by rw [hy]; exact byt_lt _ _
  have hzl : z < 256 := by rw [hz]; exact byt_lt _ _
  obtain ⟨pl0, hpl0⟩ : ∃ q, q = prev (byt s) s.size (x, y, z) a := ⟨_, rfl⟩
  have HLK : Hid (∀ w', Below w.heap.size w w' → CH w' c bm gb s win a ∧ (Instr.lookup 70 (.map (some bm)) (keyV x y z) false).run Tryd.prog w' = .ok (.int .i64 (pl0 : Int)) w') := fun w' hb => by
    have hC := h.below hb
    obtain ⟨nn, _, hM⟩ := hC.map
    have := hM.look x y z hxl hyl hzl
    rw [← hpl0] at this
    exact ⟨hC, this⟩
  obtain ⟨most, hmost⟩ : ∃ most, most = min 258 (s.size - a) := ⟨_, rfl⟩
  rw [← hmost]
  have hm3 : 3 ≤ most := by omega
  have hm258 : most ≤ 258 := by omega
  have hma : a + most ≤ s.size := by omega
  obtain ⟨d, hd⟩ : ∃ d, d = s.size - a := ⟨_, rfl⟩
  have zd : (s.size : Int) - (a : Int) = (d : Int) := by omega
  have zmin : min (258 : Int) (d : Int) = (most : Int) := by omega
  have hd3 : d ≤ 3000 := by omega
  have HLG : Hid (Lg (byt s) s.size win a most pl0 0 0) := by
    have := Lg.start (s := byt s) (n := s.size) (W := win) (at_ := a) (most := most) hn
    unfold keyAt at this
    rw [← hx, ← hy, ← hz, ← hpl0] at this
    exact this
  have s0 := h.c0
  have s3 := h.c3
  have hpl0a : pl0 ≤ a := by rw [hpl0]; exact prev_le _ _
  unfold keyV at HK HLK
  have Hd := hide hd
  have Hmost := hide hmost
  clear hx hy hz hpl0 h hd hmost
  go_enter Tryd.func22, Tryd.ntmps22
  go_wp2_with fail
  refine (unhide HB).mono ?_; rintro e w0 ⟨rfl, rfl⟩
  go_upto_region 3 with fail
  go_cut [6] (fun v wz => v = .int .i64 (most : Int) ∧ wz = w0)
  case first =>
    go_wp2
    all_goals
      go_meet
      case rel => exact ⟨by congr 1; omega, rfl⟩
  case rest =>
    obtain ⟨rfl, rfl⟩ := hcut
    clear zmin zd Hd hd3
    obtain ⟨wk, hwk⟩ : ∃ wk, wk = wc := ⟨_, rfl⟩
    subst hwk
    go_upto_region 4 with fail
    go_cut [7] (fun v wz => v = .int .i64 (pl0 : Int) ∧ Hid (CH wz c bm gb s win a) ∧ Hid (Below wk.heap.size wk wz))
    case first =>
      go_wp2_with fail
      go_region_with (first | (go_at_call 35; refine (unhide HK).mono ?_; rintro e w1 ⟨rfl, hb1⟩; have hbb := (Below.refl wk.heap.size wk).drew.trans hb1; have hC1 := unhide HLK w1 hbb; have hlk := hC1.2; have s31 := hC1.1.c3; have HC1 := hide hC1.1; clear hC1))
      all_goals
        have HBB := hide hbb
        clear hbb hb1
        go_wp2
        go_meet
        case rel => exact ⟨rfl, HC1, HBB⟩
    case rest =>
      obtain ⟨rfl, HC, HBw⟩ := hcut
      clear HK HLK s0 s3 HB
      obtain ⟨w2, hw2⟩ : ∃ w2, w2 = wc := ⟨_, rfl⟩
      subst hw2
      have s0 := (unhide HC).c0
      have s1 := (unhide HC).c1
      have s2 := (unhide HC).c2
      have s4 := (unhide HC).c4
      have HROW := hide (unhide HC).row
      have HSAME := hide (fun (f : Nat) (n : Nat) (hf : f ≤ a) => csame_any c f a most s (w2.drewN n) s0 (by omega) hf (by omega))
      go_wp2
      go_loopw [4, 5, 7, 34] (fun lv bv pv iv wr => ∃ i L b pl n : Nat, lv = .int .i64 (L : Int) ∧ bv = .int .i64 (b : Int) ∧ pv = .int .i64 (pl : Int) ∧ iv = .int .i64 (i : Int) ∧ i ≤ 3000 ∧ L ≤ most ∧ pl + i ≤ a ∧ Hid (Lg (byt s) s.size win a most pl L b) ∧ wr = w2.drewN n) (fun _ _ _ iv _ => 3000 - (intOf iv).toNat)
      case atStart => exact ⟨0, 0, 0, pl0, 0, rfl, rfl, rfl, rfl, by omega, by omega, by omega, HLG, rfl⟩
      case round =>
        clear HLG
        obtain ⟨i, L, b, pl, n, rfl, rfl, rfl, rfl, hi, hLm, hpi, HL, rfl⟩ := hrel
        have hgood := (unhide HL).ok
        have HGD := hide hgood
        have HBf := hide (below_drewN (unhide HBw) n)
        clear hgood
        by_cases h0 : pl = 0
        · subst h0
          have HBe : Hid (Mm.Best (byt s) win a most L) := (unhide HL).done0
          by_cases hit : i < 3000
          · have d1 : decide ((i : Int) < 3000) = true := decide_eq_true (by omega)
            go_wp2
            go_ret2
            exact ⟨L, b, rfl, unhide HGD, unhide HBe, unhide HBf⟩
          · have d1 : decide ((i : Int) < 3000) = false := decide_eq_false (by omega)
            go_wp2
            go_ret2
            exact ⟨L, b, rfl, unhide HGD, unhide HBe, unhide HBf⟩
        obtain ⟨p, rfl⟩ : ∃ p, pl = p + 1 := ⟨pl - 1, by omega⟩
        have d1 : decide ((i : Int) < 3000) = true := decide_eq_true (by omega)
        have g0 : (((p + 1 : Nat) : Int) == 0) = false := by rw [beq_eq_false_iff_ne]; omega
        have g0' : ((p : Int) + 1 == 0) = false := by rw [beq_eq_false_iff_ne]; omega
        by_cases h1 : L = most
        · have HBe : Hid (Mm.Best (byt s) win a most L) := Lg.doneM h1
          have g1 : ((L : Int) == (most : Int)) = true := by rw [h1]; simp
          clear h0
          go_wp2
          go_ret2
          exact ⟨L, b, rfl, unhide HGD, unhide HBe, unhide HBf⟩
        have g1 : ((L : Int) == (most : Int)) = false := by rw [beq_eq_false_iff_ne]; omega
        obtain ⟨e, he⟩ : ∃ e, e = a - p := ⟨_, rfl⟩
        have ze : (a : Int) - (p : Int) = (e : Int) := by omega
        have HEe := hide he
        clear he
        have zp : ((p + 1 : Nat) : Int) - 1 = (p : Int) := by omega
        have zp' : (p : Int) + 1 - 1 = (p : Int) := by omega
        by_cases h2 : win < e
        · have HBe : Hid (Mm.Best (byt s) win a most L) := (unhide HL).doneW (by have := unhide HEe; omega)
          have g2 : decide ((e : Int) > (win : Int)) = true := decide_eq_true (by omega)
          have g2' : decide ((win : Int) < (e : Int)) = true := g2
          have g2n : decide (win < e) = true := decide_eq_true h2
          clear h0 h1 h2
          go_wp2
          go_ret2
          exact ⟨L, b, rfl, unhide HGD, unhide HBe, unhide HBf⟩
        have g2 : decide ((e : Int) > (win : Int)) = false := decide_eq_false (by omega)
        have g2' : decide ((win : Int) < (e : Int)) = false := g2
        have g2n : decide (win < e) = false := decide_eq_false h2
        obtain ⟨hpa, hkey⟩ := (unhide HL).key p rfl
        obtain ⟨qf, hqf⟩ : ∃ q, q = p + L := ⟨_, rfl⟩
        obtain ⟨qa, hqa⟩ : ∃ q, q = a + L := ⟨_, rfl⟩
        have zqf : (p : Int) + (L : Int) = (qf : Int) := by omega
        have zqa : (a : Int) + (L : Int) = (qa : Int) := by omega
        have lqf : qf < s.size := by omega
        have lqa : qa < s.size := by omega
        have lqfi : (qf : Int) < (s.size : Int) := by omega
        have lqai : (qa : Int) < (s.size : Int) := by omega
        have wqf : IntKind.i64.wrap (qf : Int) = (qf : Int) := by rw [IntKind.wrap_i64]; omega
        have wqa : IntKind.i64.wrap (qa : Int) = (qa : Int) := by rw [IntKind.wrap_i64]; omega
        have bqf := byt_at s qf lqf
        have bqa := byt_at s qa lqa
        obtain ⟨v, hv⟩ : ∃ v, v = prev (byt s) s.size (keyAt (byt s) p) p := ⟨_, rfl⟩
        have hvp : v ≤ p := by rw [hv]; exact prev_le _ _
        have hrow := (unhide HROW p (by omega)).1
        have hbef : befN s a p = v := by unfold befN; rw [if_pos ⟨hpa, by omega⟩, ← hv]
        rw [hbef] at hrow
        have hpi2 : (p : Int) < (s.size : Int) := by omega
        have HNX : Hid (∀ L' b', L ≤ L' → Mm.Good (byt s) win a most L' b' → (∀ k, k ≤ most → (∀ i, i < k → byt s (p + i) = byt s (a + i)) → 3 ≤ k → k ≤ L') → Lg (byt s) s.size win a most v L' b') := fun L' b' h1 h2 h3 => by
          rw [hv]
          exact (unhide HL).next hn h1 h2 h3
        have HQF := hide hqf
        have HQA := hide hqa
        have HBQF := hide bqf
        have HBQA := hide bqa
        have HKEY := hide hkey
        have Hv := hide hv
        have hle2 : e ≤ win := by omega
        have hea : 1 ≤ e ∧ e ≤ a := by have := unhide HEe; omega
        have hpe : a - e = p := by have := unhide HEe; omega
        have HPE := hide hpe
        have hLm2 : L < most := by omega
        have hsm := hide (fun nz => unhide HSAME p nz (by omega))
        clear h0 h1 h2 hqf hqa bqf bqa hv hbef hkey hpe HROW
        by_cases hby : s[qf].toNat = s[qa].toNat
        · have g3 : ((s[qf].toNat : Int) == (s[qa].toNat : Int)) = true := by rw [hby]; simp
          clear hby
          go_wp2
          go_quiet (fail)
          go_wp2_with fail
          refine (unhide hsm _).mono ?_; rintro e' w5 ⟨m, rfl, hcl, nn, rfl⟩
          have hm3 : 3 ≤ m := hcl.max (by omega) (key_three (unhide HKEY))
          have hmm := hcl.1
          have HCL := hide hcl
          clear hcl
          by_cases hml : L < m
          · have g4 : decide ((m : Int) > (L : Int)) = true := decide_eq_true (by omega)
            have g4' : decide ((L : Int) < (m : Int)) = true := g4
            have g4n : decide (L < m) = true := decide_eq_true hml
            have HLN : Hid (Lg (byt s) s.size win a most v m e) := unhide HNX m e (by omega) (.inr ⟨hm3, hmm, hea.1, hle2, hea.2, by rw [unhide HPE]; exact (unhide HCL).2.1⟩) (fun k h1 h2 _ => (unhide HCL).max h1 h2)
            clear hml
            go_wp2
            go_roundw
            case rel => exact ⟨i + 1, m, e, v, _, rfl, rfl, rfl, by go_num, by omega, hmm, by omega, HLN, rfl⟩
            case measure => simp [intOf]; omega
          · have g4 : decide ((m : Int) > (L : Int)) = false := decide_eq_false (by omega)
            have g4' : decide ((L : Int) < (m : Int)) = false := g4
            have g4n : decide (L < m) = false := decide_eq_false hml
            have HLN : Hid (Lg (byt s) s.size win a most v L b) := unhide HNX L b (Nat.le_refl _) (unhide HGD) (fun k h1 h2 _ => by have := (unhide HCL).max h1 h2; omega)
            clear hml
            go_wp2
            go_roundw
            case rel => exact ⟨i + 1, L, b, v, _, rfl, rfl, rfl, by go_num, by omega, hLm, by omega, HLN, rfl⟩
            case measure => simp [intOf]; omega
        · have g3 : ((s[qf].toNat : Int) == (s[qa].toNat : Int)) = false := by rw [beq_eq_false_iff_ne]; omega
          have HLN : Hid (Lg (byt s) s.size win a most v L b) := unhide HNX L b (Nat.le_refl _) (unhide HGD) (fun k h1 h2 _ => by
            rcases Nat.lt_or_ge L k with q | q
            · have h3 := h2 L q
              rw [← unhide HQF, ← unhide HQA, unhide HBQF, unhide HBQA] at h3
              exact absurd h3 hby
            · exact q)
          clear hby
          go_wp2
          go_quiet (fail)
          go_wp2
          go_roundw
          case rel => exact ⟨i + 1, L, b, v, _, rfl, rfl, rfl, by go_num, by omega, hLm, by omega, HLN, rfl⟩
          case measure => simp [intOf]; omega
end Go.Proofs.YtlnglpphlcebdadDoor
