/- Chains of places in memory: the longest match at a place. Chains of places in memory: the token at a place. The fewest tokens of a text: the program's. -/
import Derived.Test.YtfeljhikeddodaeGreatDoorMz3
import Derived.Deep.QuietTactic
import Derived.Deep.DeepCutAuto
import Derived.Laws.ResultCell
namespace Go.Proofs.YtfeljhikeddodaeGreatDoor
open Go.RowKit Mm

theorem key_three {s : Nat → Nat} {p a : Nat} (h : keyAt s p = keyAt s a) : ∀ i, i < 3 → s (p + i) = s (a + i) := by
  unfold keyAt at h
  injection h with h1 h2
  injection h2 with h2 h3
  intro i hi
  obtain rfl | rfl | rfl : i = 0 ∨ i = 1 ∨ i = 2 := by omega
  · exact h1
  · exact h2
  · exact h3
theorem longest_no (c bm gb win a : Nat) (s : ByteArray) (w : World) (h : CH w c bm gb s win a) (hs : s.size ≤ 20000) (ha : a ≤ s.size) (hn : s.size < a + 3) :
    Calls Tryz.prog 32 #[.pointer (some ⟨c, 0, none⟩), .int .i64 (a : Int)] w fun e w' => e = .returned (.tuple #[.int .i64 0, .int .i64 0]) ∧ w' = w := by
  have HB := hide (begins_any c a s w h.c0 (by omega) ha)
  rw [decide_eq_false (by omega)] at HB
  clear h
  go_enter Tryz.func32, Tryz.ntmps32
  go_wp2_with fail
  refine (unhide HB).mono ?_; rintro e w1 ⟨rfl, rfl⟩
  go_wp2
  go_ret2
  exact ⟨rfl, rfl⟩
set_option maxHeartbeats 4000000 in
set_option maxRecDepth 100000 in
theorem longest_yes (c bm gb win a : Nat) (s : ByteArray) (w : World) (h : CH w c bm gb s win a) (hs : s.size ≤ 20000) (hn : a + 3 ≤ s.size) (hwin : win ≤ 32768) :
    Calls Tryz.prog 32 #[.pointer (some ⟨c, 0, none⟩), .int .i64 (a : Int)] w fun e w' => ∃ l b : Nat, e = .returned (.tuple #[.int .i64 (l : Int), .int .i64 (b : Int)]) ∧ Mm.Good (byt s) win a (min 258 (s.size - a)) l b ∧ (s.size ≤ 3000 → Mm.Best (byt s) win a (min 258 (s.size - a)) l) ∧ Below w.heap.size w w' := by
  have HB := hide (begins_any c a s w h.c0 (by omega) (by omega))
  rw [decide_eq_true hn] at HB
  obtain ⟨x, hx⟩ : ∃ x, x = byt s a := ⟨_, rfl⟩
  obtain ⟨y, hy⟩ : ∃ y, y = byt s (a + 1) := ⟨_, rfl⟩
  obtain ⟨z, hz⟩ : ∃ z, z = byt s (a + 2) := ⟨_, rfl⟩
  have HK := hide (key_any c a s w.drew h.c0 (by omega) hn)
  rw [← hx, ← hy, ← hz] at HK
  have hxl : x < 256 := by rw [hx]; exact byt_lt _ _
  have hyl : y < 256 := by rw [hy]; exact byt_lt _ _
  have hzl : z < 256 := by rw [hz]; exact byt_lt _ _
  obtain ⟨pl0, hpl0⟩ : ∃ q, q = prev (byt s) s.size (x, y, z) a := ⟨_, rfl⟩
  have HLK : Hid (∀ w', Below w.heap.size w w' → CH w' c bm gb s win a ∧ (Instr.lookup 59 (.map (some bm)) (keyV x y z) false).run Tryz.prog w' = .ok (.int .i64 (pl0 : Int)) w') := fun w' hb => by
    have hC := h.below hb
    obtain ⟨nn, _, hM⟩ := hC.map
    have := hM.look x y z hxl hyl hzl
    rw [← hpl0] at this
    exact ⟨hC, this⟩
  obtain ⟨most, hmost⟩ : ∃ most, most = min 258 (s.size - a) := ⟨_, rfl⟩
  rw [← hmost]
  have hm3 : 3 ≤ most := by omega
  have hm258 : most ≤ 258 := by omega
  have hma : a + most ≤ s.size := by omega
  obtain ⟨d, hd⟩ : ∃ d, d = s.size - a := ⟨_, rfl⟩
  have zd : (s.size : Int) - (a : Int) = (d : Int) := by omega
  have zmin : min (258 : Int) (d : Int) = (most : Int) := by omega
  have hd3 : d ≤ 20000 := by omega
  obtain ⟨tr, htr⟩ : ∃ tr, tr = trs s.size := ⟨_, rfl⟩
  have htr3 : tr ≤ 3000 := by rw [htr]; exact trs_le _
  have HTF : Hid (s.size ≤ 3000 → tr = 3000) := fun h => by rw [htr]; exact trs_few h
  have HLG : Hid (Lg (byt s) s.size win a most pl0 0 0) := by
    have := Lg.start (s := byt s) (n := s.size) (W := win) (at_ := a) (most := most) hn
    unfold keyAt at this
    rw [← hx, ← hy, ← hz, ← hpl0] at this
    exact this
  have s0 := h.c0
  have s3 := h.c3
  have hpl0a : pl0 ≤ a := by rw [hpl0]; exact prev_le _ _
  unfold keyV at HK HLK
  have Hd := hide hd
  have Hmost := hide hmost
  clear hx hy hz hpl0 h hd hmost
  go_enter Tryz.func32, Tryz.ntmps32
  go_wp2_with fail
  refine (unhide HB).mono ?_; rintro e w0 ⟨rfl, rfl⟩
  go_upto_region 3 with fail
  go_cut [6] (fun v wz => v = .int .i64 (most : Int) ∧ wz = w0)
  case first =>
    go_wp2
    all_goals
      go_meet
      case rel => exact ⟨by congr 1 <;> omega, rfl⟩
  case rest =>
    obtain ⟨rfl, rfl⟩ := hcut
    clear zmin zd Hd hd3
    obtain ⟨wk, hwk⟩ : ∃ wk, wk = wc := ⟨_, rfl⟩
    subst hwk
    go_upto_region 4 with fail
    go_cut [7] (fun v wz => v = .int .i64 (pl0 : Int) ∧ Hid (CH wz c bm gb s win a) ∧ Hid (Below wk.heap.size wk wz))
    case first =>
      go_wp2_with fail
      go_region_with (first | (go_at_call 34; refine (unhide HK).mono ?_; rintro e w1 ⟨rfl, hb1⟩; have hbb := (Below.refl wk.heap.size wk).drew.trans hb1; have hC1 := unhide HLK w1 hbb; have hlk := hC1.2; have s31 := hC1.1.c3; have HC1 := hide hC1.1; clear hC1))
      all_goals
        have HBB := hide hbb
        clear hbb hb1
        go_wp2
        go_meet
        case rel => exact ⟨rfl, HC1, HBB⟩
    case rest =>
      obtain ⟨rfl, HC, HBw⟩ := hcut
      clear HK HLK s0 s3 HB
      obtain ⟨w2, hw2⟩ : ∃ w2, w2 = wc := ⟨_, rfl⟩
      subst hw2
      have s0 := (unhide HC).c0
      have s1 := (unhide HC).c1
      have s2 := (unhide HC).c2
      rw [← htr] at s2
      clear htr
      have s4 := (unhide HC).c4
      have HROW := hide (unhide HC).row
      have HSAME := hide (fun (f : Nat) (n : Nat) (hf : f ≤ a) => csame_any c f a most s (w2.drewN n) s0 (by omega) hf (by omega))
      go_wp2
      go_loopw [4, 5, 7, 34] (fun lv bv pv iv wr => ∃ i L b pl n : Nat, lv = .int .i64 (L : Int) ∧ bv = .int .i64 (b : Int) ∧ pv = .int .i64 (pl : Int) ∧ iv = .int .i64 (i : Int) ∧ i ≤ tr ∧ L ≤ most ∧ pl + i ≤ a ∧ Hid (Lg (byt s) s.size win a most pl L b) ∧ wr = w2.drewN n) (fun _ _ _ iv _ => tr - (intOf iv).toNat)
      case atStart => exact ⟨0, 0, 0, pl0, 0, rfl, rfl, rfl, rfl, by omega, by omega, by omega, HLG, rfl⟩
      case round =>
        clear HLG
        obtain ⟨i, L, b, pl, n, rfl, rfl, rfl, rfl, hi, hLm, hpi, HL, rfl⟩ := hrel
        have hgood := (unhide HL).ok
        have HGD := hide hgood
        have HBf := hide (below_drewN (unhide HBw) n)
        clear hgood
        by_cases hit : i < tr
        rotate_left
        · have d1 : decide ((i : Int) < (tr : Int)) = false := decide_eq_false (by omega)
          have d1n : decide (i < tr) = false := decide_eq_false hit
          have HBe : Hid (s.size ≤ 3000 → Mm.Best (byt s) win a most L) := fun h => by
            have := unhide HTF h
            have h0 : pl = 0 := by omega
            subst h0
            exact (unhide HL).done0
          go_wp2
          go_ret2
          exact ⟨L, b, rfl, unhide HGD, unhide HBe, unhide HBf⟩
        have d1 : decide ((i : Int) < (tr : Int)) = true := decide_eq_true (by omega)
        have d1n : decide (i < tr) = true := decide_eq_true hit
        by_cases h0 : pl = 0
        · subst h0
          have HBe : Hid (Mm.Best (byt s) win a most L) := (unhide HL).done0
          go_wp2
          go_ret2
          exact ⟨L, b, rfl, unhide HGD, fun _ => unhide HBe, unhide HBf⟩
        obtain ⟨p, rfl⟩ : ∃ p, pl = p + 1 := ⟨pl - 1, by omega⟩
        have g0 : (((p + 1 : Nat) : Int) == 0) = false := by rw [beq_eq_false_iff_ne]; omega
        have g0' : ((p : Int) + 1 == 0) = false := by rw [beq_eq_false_iff_ne]; omega
        by_cases h1 : L = most
        · have HBe : Hid (Mm.Best (byt s) win a most L) := Lg.doneM h1
          have g1 : ((L : Int) == (most : Int)) = true := by rw [h1]; simp
          clear h0
          go_wp2
          go_ret2
          exact ⟨L, b, rfl, unhide HGD, fun _ => unhide HBe, unhide HBf⟩
        have g1 : ((L : Int) == (most : Int)) = false := by rw [beq_eq_false_iff_ne]; omega
        obtain ⟨e, he⟩ : ∃ e, e = a - p := ⟨_, rfl⟩
        have ze : (a : Int) - (p : Int) = (e : Int) := by omega
        have HEe := hide he
        clear he
        have zp : ((p + 1 : Nat) : Int) - 1 = (p : Int) := by omega
        have zp' : (p : Int) + 1 - 1 = (p : Int) := by omega
        by_cases h2 : win < e
        · have HBe : Hid (Mm.Best (byt s) win a most L) := (unhide HL).doneW (by have := unhide HEe; omega)
          have g2 : decide ((e : Int) > (win : Int)) = true := decide_eq_true (by omega)
          have g2' : decide ((win : Int) < (e : Int)) = true := g2
          have g2n : decide (win < e) = true := decide_eq_true h2
          clear h0 h1 h2
          go_wp2
          go_ret2
          exact ⟨L, b, rfl, unhide HGD, fun _ => unhide HBe, unhide HBf⟩
        have g2 : decide ((e : Int) > (win : Int)) = false := decide_eq_false (by omega)
        have g2' : decide ((win : Int) < (e : Int)) = false := g2
        have g2n : decide (win < e) = false := decide_eq_false h2
        obtain ⟨hpa, hkey⟩ := (unhide HL).key p rfl
        obtain ⟨qf, hqf⟩ : ∃ q, q = p + L := ⟨_, rfl⟩
        obtain ⟨qa, hqa⟩ : ∃ q, q = a + L := ⟨_, rfl⟩
        have zqf : (p : Int) + (L : Int) = (qf : Int) := by omega
        have zqa : (a : Int) + (L : Int) = (qa : Int) := by omega
        have lqf : qf < s.size := by omega
        have lqa : qa < s.size := by omega
        have lqfi : (qf : Int) < (s.size : Int) := by omega
        have lqai : (qa : Int) < (s.size : Int) := by omega
        have wqf : IntKind.i64.wrap (qf : Int) = (qf : Int) := by rw [IntKind.wrap_i64]; omega
        have wqa : IntKind.i64.wrap (qa : Int) = (qa : Int) := by rw [IntKind.wrap_i64]; omega
        have bqf := byt_at s qf lqf
        have bqa := byt_at s qa lqa
        obtain ⟨v, hv⟩ : ∃ v, v = prev (byt s) s.size (keyAt (byt s) p) p := ⟨_, rfl⟩
        have hvp : v ≤ p := by rw [hv]; exact prev_le _ _
        have hrow := (unhide HROW p (by omega)).1
        have hbef : befN s a p = v := by unfold befN; rw [if_pos ⟨hpa, by omega⟩, ← hv]
        rw [hbef] at hrow
        have hpi2 : (p : Int) < (s.size : Int) := by omega
        have HNX : Hid (∀ L' b', L ≤ L' → Mm.Good (byt s) win a most L' b' → (∀ k, k ≤ most → (∀ i, i < k → byt s (p + i) = byt s (a + i)) → 3 ≤ k → k ≤ L') → Lg (byt s) s.size win a most v L' b') := fun L' b' h1 h2 h3 => by
          rw [hv]
          exact (unhide HL).next hn h1 h2 h3
        have HQF := hide hqf
        have HQA := hide hqa
        have HBQF := hide bqf
        have HBQA := hide bqa
        have HKEY := hide hkey
        have Hv := hide hv
        have hle2 : e ≤ win := by omega
        have hea : 1 ≤ e ∧ e ≤ a := by have := unhide HEe; omega
        have hpe : a - e = p := by have := unhide HEe; omega
        have HPE := hide hpe
        have hLm2 : L < most := by omega
        have hsm := hide (fun nz => unhide HSAME p nz (by omega))
        clear h0 h1 h2 hqf hqa bqf bqa hv hbef hkey hpe HROW
        by_cases hby : s[qf].toNat = s[qa].toNat
        · have g3 : ((s[qf].toNat : Int) == (s[qa].toNat : Int)) = true := by rw [hby]; simp
          clear hby
          go_wp2
          go_quiet (fail)
          go_wp2_with fail
          refine (unhide hsm _).mono ?_; rintro e' w5 ⟨m, rfl, hcl, nn, rfl⟩
          have hm3 : 3 ≤ m := hcl.max (by omega) (key_three (unhide HKEY))
          have hmm := hcl.1
          have HCL := hide hcl
          clear hcl
          by_cases hml : L < m
          · have g4 : decide ((m : Int) > (L : Int)) = true := decide_eq_true (by omega)
            have g4' : decide ((L : Int) < (m : Int)) = true := g4
            have g4n : decide (L < m) = true := decide_eq_true hml
            have HLN : Hid (Lg (byt s) s.size win a most v m e) := unhide HNX m e (by omega) (.inr ⟨hm3, hmm, hea.1, hle2, hea.2, by rw [unhide HPE]; exact (unhide HCL).2.1⟩) (fun k h1 h2 _ => (unhide HCL).max h1 h2)
            clear hml
            go_wp2
            go_roundw
            case rel => exact ⟨i + 1, m, e, v, _, rfl, rfl, rfl, by go_num, by omega, hmm, by omega, HLN, rfl⟩
            case measure => simp [intOf]; omega
          · have g4 : decide ((m : Int) > (L : Int)) = false := decide_eq_false (by omega)
            have g4' : decide ((L : Int) < (m : Int)) = false := g4
            have g4n : decide (L < m) = false := decide_eq_false hml
            have HLN : Hid (Lg (byt s) s.size win a most v L b) := unhide HNX L b (Nat.le_refl _) (unhide HGD) (fun k h1 h2 _ => by have := (unhide HCL).max h1 h2; omega)
            clear hml
            go_wp2
            go_roundw
            case rel => exact ⟨i + 1, L, b, v, _, rfl, rfl, rfl, by go_num, by omega, hLm, by omega, HLN, rfl⟩
            case measure => simp [intOf]; omega
        · have g3 : ((s[qf].toNat : Int) == (s[qa].toNat : Int)) = false := by rw [beq_eq_false_iff_ne]; omega
          have HLN : Hid (Lg (byt s) s.size win a most v L b) := unhide HNX L b (Nat.le_refl _) (unhide HGD) (fun k h1 h2 _ => by
            rcases Nat.lt_or_ge L k with q | q
            · have h3 := h2 L q
              rw [← unhide HQF, ← unhide HQA, unhide HBQF, unhide HBQA] at h3
              exact absurd h3 hby
            · exact q)
          clear hby
          go_wp2
          go_quiet (fail)
          go_wp2
          go_roundw
          case rel => exact ⟨i + 1, L, b, v, _, rfl, rfl, rfl, by go_num, by omega, hLm, by omega, HLN, rfl⟩
          case measure => simp [intOf]; omega
end Go.Proofs.YtfeljhikeddodaeGreatDoor
namespace Go.Proofs.YtfeljhikeddodaeGreatDoor
open Go.RowKit Mm

/-- What a place's longest match is. -/
structure LgOk (s : ByteArray) (win a l b : Nat) : Prop where
  good : Mm.Good (byt s) win a (min 258 (s.size - a)) l b
  best : s.size ≤ 3000 → Mm.Best (byt s) win a (min 258 (s.size - a)) l
theorem longest_any (c bm gb win a : Nat) (s : ByteArray) (w : World) (h : CH w c bm gb s win a) (hs : s.size ≤ 20000) (ha : a ≤ s.size) (hwin : win ≤ 32768) :
    Calls Tryz.prog 32 #[.pointer (some ⟨c, 0, none⟩), .int .i64 (a : Int)] w fun e w' => ∃ l b : Nat, e = .returned (.tuple #[.int .i64 (l : Int), .int .i64 (b : Int)]) ∧ LgOk s win a l b ∧ Below w.heap.size w w' := by
  by_cases hn : a + 3 ≤ s.size
  · refine (longest_yes c bm gb win a s w h hs hn hwin).mono ?_
    rintro e w' ⟨l, b, rfl, h1, h2, hb⟩
    exact ⟨l, b, rfl, ⟨h1, h2⟩, hb⟩
  · refine (longest_no c bm gb win a s w h hs ha (by omega)).mono ?_
    rintro e w' ⟨rfl, rfl⟩
    exact ⟨0, 0, rfl, ⟨.inl ⟨rfl, rfl⟩, fun _ f _ _ k hk _ h3 => by omega⟩, Below.refl _ _⟩
theorem add_any (c bm gb win a : Nat) (s : ByteArray) (w : World) (h : CH w c bm gb s win a) (hs : s.size ≤ 20000) (ha : a ≤ s.size) :
    Calls Tryz.prog 16 #[.pointer (some ⟨c, 0, none⟩), .int .i64 (a : Int)] w fun e w' => e = .returned (.tuple #[]) ∧ CH w' c bm gb s win (a + 1) ∧ But (fun k => k = bm ∨ k = gb) w w' := by
  by_cases hn : a + 3 ≤ s.size
  · exact add_yes c bm gb win a s w h hs hn
  · exact add_no c bm gb win a s w h hs ha (by omega)
theorem results_cellTm {fn : Func} {p : Tmp} {ty : TypeId} (h : fn.results = #[.cell p ty]) (tmps : Array Value) (P : Program) (w : World) :
    (results fn tmps).run P w = ((asAddr (tmps.getD p undef)).run P w).andThen fun a w₁ => (loadVar ty a).run P w₁ := by
  simp only [results, h]
  simp [Sem.run_bind, Result.andThen]
theorem three_at (w : World) (x y z : Value) (t : TypeId) : (w.alloc (.cells #[x, y, z] t)).cell? ⟨w.heap.size, 0, none⟩ = some x ∧ (w.alloc (.cells #[x, y, z] t)).cell? ⟨w.heap.size, 1, none⟩ = some y ∧ (w.alloc (.cells #[x, y, z] t)).cell? ⟨w.heap.size, 2, none⟩ = some z ∧ (w.alloc (.cells #[x, y, z] t)).frozen? ⟨w.heap.size, 0, none⟩ = false ∧ (w.alloc (.cells #[x, y, z] t)).frozen? ⟨w.heap.size, 1, none⟩ = false ∧ (w.alloc (.cells #[x, y, z] t)).frozen? ⟨w.heap.size, 2, none⟩ = false ∧ (w.alloc (.cells #[x, y, z] t)).heap.size = w.heap.size + 1 := by simp
/-- A token as a value. -/
def tokV (s : ByteArray) (a l b : Nat) : Value := if l = 0 then .agg #[.int .u8 (byt s a : Int), .int .i64 0, .int .i64 0] else .agg #[.int .u8 0, .int .i64 (l : Int), .int .i64 (b : Int)]
set_option maxHeartbeats 2000000 in
set_option maxRecDepth 100000 in
theorem token_any (c bm gb win a : Nat) (s : ByteArray) (w : World) (h : CH w c bm gb s win a) (hs : s.size ≤ 20000) (ha : a < s.size) (hwin : win ≤ 32768) :
    Calls Tryz.prog 14 #[.pointer (some ⟨c, 0, none⟩), .int .i64 (a : Int)] w fun e w' => ∃ l b : Nat, e = .returned (tokV s a l b) ∧ LgOk s win a l b ∧ Below w.heap.size w w' := by
  obtain ⟨k0, k1, k2, f0, f1, f2, hz⟩ := three_at w (.int .u8 0) (.int .i64 0) (.int .i64 0) 38
  have hb0 : Below w.heap.size w (w.alloc (.cells #[.int .u8 0, .int .i64 0, .int .i64 0] 38)) := (Below.refl _ _).alloc (Nat.le_refl _) _
  have hC := h.below hb0
  have HL := hide (longest_any c bm gb win a s _ hC hs (by omega) hwin)
  have HC := hide hC
  have HB0 := hide hb0
  have hai : (a : Int) < (s.size : Int) := by omega
  have hba := byt_at s a ha
  have hx := s[a].toNat_lt
  have hgl : ∀ l b, LgOk s win a l b → l ≤ 20000 ∧ b ≤ 20000 := fun l b hl => by
    rcases hl.good with ⟨h1, h2⟩ | ⟨_, h1, _, _, h2, _⟩ <;> omega
  have HGL := hide hgl
  have Hba := hide hba
  clear h hC hb0 hgl hba
  go_enter Tryz.func14, Tryz.ntmps14
  go_wp2_with fail
  refine (unhide HL).mono ?_
  generalize hwa : w.alloc (.cells #[.int .u8 0, .int .i64 0, .int .i64 0] 38) = wa at *
  generalize hp : w.heap.size = p at *
  rintro e w1 ⟨l, b, rfl, hok, hb1⟩
  have hpl : p < wa.heap.size := by omega
  have m0 := (hb1.cell (p := ⟨p, 0, none⟩) hpl).trans k0
  have m1 := (hb1.cell (p := ⟨p, 1, none⟩) hpl).trans k1
  have m2 := (hb1.cell (p := ⟨p, 2, none⟩) hpl).trans k2
  have e0 := (hb1.frozen (p := ⟨p, 0, none⟩) hpl).trans f0
  have e1 := (hb1.frozen (p := ⟨p, 1, none⟩) hpl).trans f1
  have e2 := (hb1.frozen (p := ⟨p, 2, none⟩) hpl).trans f2
  have s0 := ((unhide HC).below hb1).c0
  obtain ⟨hl3, hb3⟩ := unhide HGL l b hok
  have HOK := hide hok
  have HB1 := hide ((unhide HB0).trans (hb1.mono (by omega)))
  have Hp := hide hp
  clear hok hb1 HL HC HB0 k0 k1 k2 f0 f1 f2 hwa hz hp hpl HGL
  by_cases h0 : l = 0
  · subst h0
    go_wp2
    refine bodyPost_ret (v := .agg #[.int .u8 (s[a].toNat : Int), .int .i64 0, .int .i64 0]) ?_ rfl ⟨0, b, by unfold tokV; rw [if_pos rfl, unhide Hba], unhide HOK, ?_⟩
    · rw [results_cellTm (p := 4) (ty := 38) (by kernel_rfl)]
      go_simp
    · first
      | exact (((unhide HB1).setCell (p := ⟨p, 0, none⟩) (Nat.le_refl _) _).setCell (p := ⟨p, 1, none⟩) (Nat.le_refl _) _).setCell (p := ⟨p, 2, none⟩) (Nat.le_refl _) _
      | (rw [unhide Hp]; exact (((unhide HB1).setCell (p := ⟨p, 0, none⟩) (Nat.le_refl _) _).setCell (p := ⟨p, 1, none⟩) (Nat.le_refl _) _).setCell (p := ⟨p, 2, none⟩) (Nat.le_refl _) _)
  · have g0 : decide ((l : Int) > 0) = true := decide_eq_true (by omega)
    have g0' : decide ((0 : Int) < (l : Int)) = true := g0
    have g0n : decide (0 < l) = true := decide_eq_true (by omega)
    go_wp2
    refine bodyPost_ret (v := .agg #[.int .u8 0, .int .i64 (l : Int), .int .i64 (b : Int)]) ?_ rfl ⟨l, b, by unfold tokV; rw [if_neg h0], unhide HOK, ?_⟩
    · rw [results_cellTm (p := 4) (ty := 38) (by kernel_rfl)]
      go_simp
    · first
      | exact (((unhide HB1).setCell (p := ⟨p, 0, none⟩) (Nat.le_refl _) _).setCell (p := ⟨p, 1, none⟩) (Nat.le_refl _) _).setCell (p := ⟨p, 2, none⟩) (Nat.le_refl _) _
      | (rw [unhide Hp]; exact (((unhide HB1).setCell (p := ⟨p, 0, none⟩) (Nat.le_refl _) _).setCell (p := ⟨p, 1, none⟩) (Nat.le_refl _) _).setCell (p := ⟨p, 2, none⟩) (Nat.le_refl _) _)
end Go.Proofs.YtfeljhikeddodaeGreatDoor
namespace Go.Proofs.YtfeljhikeddodaeGreatDoor
open Go.RowKit Mm

theorem bounded_yes (s : ByteArray) (win : Nat) (w : World) (hs : s.size ≤ 300000) (h1 : 1 ≤ win) (h2 : win ≤ 32768) :
    Calls Tryz.prog 12 #[.string s, .int .i64 (win : Int)] w fun e w' => e = .returned (.bool true) ∧ w' = w := by
  have d1 : decide ((s.size : Int) ≤ 300000) = true := decide_eq_true (by omega)
  have d1n : decide (s.size ≤ 300000) = true := decide_eq_true hs
  have d2 : decide ((win : Int) ≥ 1) = true := decide_eq_true (by omega)
  have d2' : decide ((1 : Int) ≤ (win : Int)) = true := d2
  have d3 : decide ((win : Int) ≤ 32768) = true := decide_eq_true (by omega)
  go_enter Tryz.func12, Tryz.ntmps12
  go_wp2
  go_ret
  exact ⟨rfl, rfl⟩
/-! ### The row of the fewest -/
/-- A row of numbers of a call's own, by cells. -/
structure NR (w : World) (g n : Nat) (f : Nat → Nat) : Prop where
  cell : ∀ j, j < n → w.cell? ⟨g, j, none⟩ = some (.int .i64 (f j : Int))
  free : ∀ j, j < n → w.frozen? ⟨g, j, none⟩ = false
  lt : g < w.heap.size
theorem NR.set {w : World} {g n : Nat} {f : Nat → Nat} (h : NR w g n f) (j v : Nat) (hj : j < n) : NR (w.setCell ⟨g, j, none⟩ (.int .i64 (v : Int))) g n (fun i => if i = j then v else f i) := by
  refine ⟨fun i hi => ?_, fun i hi => ?_, by have := h.lt; simpa [World.setCell] using this⟩
  · by_cases e : i = j
    · subst e
      have hc := h.cell i hj
      rw [if_pos rfl]
      simp [go_sem, hc]
    · rw [if_neg e]
      rw [World.cell?_setCell_other _ _ _ _ (fun q => e (by injection q with _ q; exact q.symm))]
      exact h.cell i hi
  · have := h.free i hi
    simp [go_sem, this]
theorem NR.keep {w w' : World} {g n : Nat} {f : Nat → Nat} (h : NR w g n f) (hb : w'.heap[g]? = w.heap[g]?) (hs : w.heap.size ≤ w'.heap.size) : NR w' g n f :=
  ⟨fun j hj => (World.cell?_of_block (a := ⟨g, j, none⟩) hb).trans (h.cell j hj), fun j hj => (World.frozen?_of_block (a := ⟨g, j, none⟩) hb).trans (h.free j hj), Nat.lt_of_lt_of_le h.lt hs⟩
theorem NR.congr {w : World} {g n : Nat} {f f' : Nat → Nat} (h : NR w g n f) (he : ∀ j, j < n → f j = f' j) : NR w g n f' :=
  ⟨fun j hj => by rw [← he j hj]; exact h.cell j hj, h.free, h.lt⟩
theorem NR.made (w : World) (n : Nat) : NR (w.alloc (.cells (madeCells #[.int .i64 0] n) 3)) w.heap.size n (fun _ => 0) := by
  have h2 := heap_alloc_new w (.cells (madeCells #[.int .i64 0] n) 3)
  refine ⟨fun j hj => ?_, fun j _ => ?_, by simp⟩
  · simp only [World.cell?, h2]
    show (madeCells #[.int .i64 0] n)[j]? = _
    rw [made_at _ _ hj]
    rfl
  · simp only [World.frozen?, h2]
    simp
/-! ### Plainly: the fewest up to each place, going forward -/
/-- What stands in the row: of places up to a all that leads there from places before at is counted. -/
structure Fw (s : Nat → Nat) (n W at_ : Nat) (f : Nat → Nat) : Prop where
  path : ∀ j, j ≤ n → Path s n W 0 j (f j)
  least : ∀ j, j ≤ n → ∀ p, p < at_ → ∀ k, Path s n W 0 p k → Stp s n W p j → f j ≤ k + 1
theorem last_step {s : Nat → Nat} {n W a b c : Nat} (h : Path s n W a b c) : a < b → ∃ p c', c = c' + 1 ∧ Path s n W a p c' ∧ Stp s n W p b := by
  induction h with
  | nil => intro q; omega
  | @cons a m b k h t ih =>
    intro _
    rcases Nat.lt_or_ge m b with q | q
    · obtain ⟨p, c', rfl, h1, h2⟩ := ih q
      exact ⟨p, c' + 1, rfl, .cons h h1, h2⟩
    · have h1 := t.le
      have hk : k = 0 := by omega
      subst hk
      cases t with
      | nil => exact ⟨a, 0, rfl, .nil _, h⟩
theorem Fw.done {s : Nat → Nat} {n W at_ : Nat} {f : Nat → Nat} (h : Fw s n W at_ f) (j : Nat) (hj : j ≤ at_) (hn : j ≤ n) : Least (s := s) (n := n) (W := W) 0 j (f j) := by
  refine ⟨h.path j hn, fun c hc => ?_⟩
  rcases Nat.eq_zero_or_pos j with q | q
  · subst q
    have := (h.path 0 hn).le
    omega
  · obtain ⟨p, c', rfl, h1, h2⟩ := last_step hc q
    exact h.least j hn p (by have := h2.lt; omega) c' h1 h2
theorem Fw.start (s : Nat → Nat) (n W : Nat) : Fw s n W 0 (fun j => j) :=
  ⟨fun j hj => by have := path_bytes (s := s) (n := n) (W := W) 0 j (by omega); rwa [Nat.zero_add] at this, fun j _ p hp => by omega⟩
/-- A place more: what it leads to. -/
def upd (f : Nat → Nat) (a l m : Nat) (j : Nat) : Nat := if j = a + 1 ∨ (a + 3 ≤ j ∧ j ≤ a + l) then min (f j) m else f j
theorem upd_le (f : Nat → Nat) (a l m j : Nat) : upd f a l m j ≤ f j := by unfold upd; split <;> omega
theorem Fw.next {s : Nat → Nat} {n W a l b : Nat} {f : Nat → Nat} (h : Fw s n W a f) (ha : a < n) (hg : Mm.Good s W a (min 258 (n - a)) l b) (hb : Mm.Best s W a (min 258 (n - a)) l) : Fw s n W (a + 1) (upd f a l (f a + 1)) := by
  have hl := h.done a (Nat.le_refl _) (by omega)
  refine ⟨fun j hj => ?_, fun j hj p hp k hk hst => ?_⟩
  · unfold upd
    split
    · rename_i hc
      rcases Nat.le_total (f j) (f a + 1) with q | q
      · rw [Nat.min_eq_left q]; exact h.path j hj
      · rw [Nat.min_eq_right q]
        refine (h.path a (by omega)).snoc ?_
        rcases hc with rfl | ⟨h1, h2⟩
        · exact .inl ⟨ha, rfl⟩
        · rcases hg with ⟨e1, e2⟩ | ⟨g1, g2, g3, g4, g5, g6⟩
          · omega
          · exact .inr ⟨j - a, by omega, ⟨a - b, by omega, by omega, by omega, by omega, fun i hi => g6 i (by omega)⟩, by omega⟩
    · exact h.path j hj
  · rcases Nat.lt_or_ge p a with q | q
    · exact Nat.le_trans (upd_le _ _ _ _ _) (h.least j hj p q k hk hst)
    · obtain rfl : p = a := by omega
      have hle := hl.2 k hk
      have hin : j = p + 1 ∨ (p + 3 ≤ j ∧ j ≤ p + l) := by
        rcases hst with ⟨_, rfl⟩ | ⟨r, hr, ⟨f', f1, f2, f3, f4, f5⟩, rfl⟩
        · exact .inl rfl
        · have := hb f' f1 f2 r (by omega) f5 hr
          exact .inr ⟨by omega, by omega⟩
      unfold upd
      rw [if_pos hin]
      omega
end Go.Proofs.YtfeljhikeddodaeGreatDoor
