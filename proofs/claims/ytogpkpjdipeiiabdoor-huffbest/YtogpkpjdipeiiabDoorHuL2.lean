/- Walks of the program's best lengths. -/
import Derived.Test.YtogpkpjdipeiiabDoorHuL
import Derived.Test.YtogpkpjdipeiiabDoorHuB
import Derived.Test.YtogpkpjdipeiiabDoorBu
namespace Go.Proofs.YtogpkpjdipeiiabDoor
open Go.Shelf Go.RowKit Go.Lib Go.Sort St Pm

theorem one_shl (m : Nat) (h : m ≤ 15) : (1 : Int) * 2 ^ m = ((2 ^ m : Nat) : Int) ∧ 2 ^ m ≤ 32768 := ⟨by simp, Nat.pow_le_pow_right (n := 2) (j := 15) (by omega) h⟩

set_option maxHeartbeats 1000000 in
set_option maxRecDepth 100000 in
theorem lengths_bad (ao : Option Addr) (len cap : Nat) (most : Int) (z : Nat → Int) (v1 : Value) (w : World) (hP : IsInts w ao len z) (hlen : len ≤ 100000) (h1 : w.cell? ⟨0, 0, none⟩ = some v1)
    (hbad : 300 < len ∨ most < 1 ∨ 15 < most ∨ ∃ i, i < len ∧ badC (z i) = true) :
    Calls Tryd.prog 30 #[.slice ao len cap, .int .i64 most] w fun e w' => e = .returned (.tuple #[.slice none 0 0, v1]) ∧ Below w.heap.size w w' := by
  by_cases b1 : 300 < len
  · have d1 : decide ((len : Int) > 300) = true := by simp; omega
    have d2 : decide ((300 : Int) < (len : Int)) = true := by simp; omega
    clear hP hbad
    go_enter Tryd.func30, Tryd.ntmps30
    go_wp2
    go_quiet (fail)
    go_wp2
    go_ret2
    exact ⟨rfl, below_drewN (Below.refl _ _) nq⟩
  have d1 : decide ((len : Int) > 300) = false := by simp; omega
  have d2 : decide ((300 : Int) < (len : Int)) = false := by simp; omega
  by_cases b2 : most < 1
  · have d3 : decide (most < 1) = true := by simpa using b2
    clear hP hbad
    go_enter Tryd.func30, Tryd.ntmps30
    go_wp2
    go_quiet (fail)
    go_wp2
    go_ret2
    exact ⟨rfl, below_drewN (Below.refl _ _) nq⟩
  have d3 : decide (most < 1) = false := by simpa using b2
  by_cases b3 : 15 < most
  · have d4 : decide (15 < most) = true := by simpa using b3
    have d5 : decide (most > 15) = true := by simpa using b3
    clear hP hbad
    go_enter Tryd.func30, Tryd.ntmps30
    go_wp2
    go_quiet (fail)
    go_wp2
    go_ret2
    exact ⟨rfl, below_drewN (Below.refl _ _) nq⟩
  have d4 : decide (15 < most) = false := by simpa using b3
  have d5 : decide (most > 15) = false := by simpa using b3
  have hb : ∃ i, i < len ∧ badC (z i) = true := by
    rcases hbad with h | h | h | h
    · omega
    · omega
    · omega
    · exact h
  have HB := hide hb
  have HC := hide (countable_any ao len cap z w hP hlen)
  clear hP hbad hb
  go_enter Tryd.func30, Tryd.ntmps30
  go_wp2_with fail
  refine (unhide HC).mono ?_; rintro e w1 ⟨b, rfl, hb, rfl⟩
  have hbf : b = false := by
    cases b with
    | false => rfl
    | true =>
      obtain ⟨i, hi, h⟩ := unhide HB
      have := hb.1 rfl i hi
      rw [h] at this; cases this
  subst hbf
  clear hb HC HB
  go_wp2
  go_quiet (fail)
  go_wp2
  go_ret2
  exact ⟨rfl, below_drewN (Below.refl _ _) nq⟩

set_option maxHeartbeats 1000000 in
set_option maxRecDepth 100000 in
theorem lengths_shape (ao : Option Addr) (len cap most : Nat) (z : Nat → Int) (v2 : Value) (w : World) (hP : IsInts w ao len z) (hlen : len ≤ 300) (h2 : w.cell? ⟨2, 0, none⟩ = some v2)
    (hm1 : 1 ≤ most) (hm : most ≤ 15) (hz : ∀ i, i < len → badC (z i) = false) (hn : 2 ^ most < (syms z len).length) :
    Calls Tryd.prog 30 #[.slice ao len cap, .int .i64 (most : Int)] w fun e w' => e = .returned (.tuple #[.slice none 0 0, v2]) ∧ Below w.heap.size w w' := by
  have d1 : decide ((len : Int) > 300) = false := by simp; omega
  have d2 : decide ((300 : Int) < (len : Int)) = false := by simp; omega
  have d3 : decide ((most : Int) < 1) = false := by simp; omega
  have d4 : decide ((15 : Int) < (most : Int)) = false := by simp; omega
  have d5 : decide ((most : Int) > 15) = false := by simp; omega
  have HZ := hide hz
  have HC := hide (countable_any ao len cap z w hP (by omega))
  have HA := hide (above0_any ao len cap z w hP (by omega))
  obtain ⟨o1, o2⟩ := one_shl most hm
  have hn' := hide hn
  have hnl := syms_length z len
  have hgl := World.block_lt_of_cell? _ _ h2
  clear hP hz hn
  go_enter Tryd.func30, Tryd.ntmps30
  go_wp2_with fail
  refine (unhide HC).mono ?_; rintro e w1 ⟨b, rfl, hb, rfl⟩
  obtain rfl : b = true := hb.2 (unhide HZ)
  clear hb HC
  go_wp2_with fail
  refine (unhide HA).mono ?_; rintro e w2 ⟨v, rfl, hown, hb2⟩
  obtain ⟨a0, c0, rfl, _⟩ := own_shape hown
  have c2 := (hb2.cell (p := ⟨2, 0, none⟩) hgl).trans h2
  have d6 : decide (((syms z len).length : Int) > ((2 ^ most : Nat) : Int)) = true := by have := unhide hn'; simp only [decide_eq_true_eq]; omega
  have d7 : decide (((2 ^ most : Nat) : Int) < ((syms z len).length : Int)) = true := by have := unhide hn'; simp only [decide_eq_true_eq]; omega
  generalize (syms z len).length = n at *
  generalize 2 ^ most = p2 at *
  clear hown HA
  go_wp2
  go_quiet (fail)
  go_wp2
  go_ret2
  exact ⟨rfl, below_drewN hb2 nq⟩

theorem cheapest_none (ao bo : Option Addr) (len ca cb : Nat) (most : Int) (w : World) :
    Calls Tryd.prog 43 #[.slice ao len ca, .slice bo 0 cb, .int .i64 most] w fun e w' => e = .returned (.slice none 0 0) ∧ w' = w := by
  go_enter Tryd.func43, Tryd.ntmps43
  go_wp2
  go_ret
  exact ⟨rfl, rfl⟩

/-- How often symbols are met. -/
def cz (sg : Nat → Nat) (F : List Nat) (x : Nat) : Int := ((F.map sg).count x : Nat)
theorem cz_nil (sg : Nat → Nat) : cz sg [] = fun _ => 0 := by funext x; simp [cz]
theorem cz_snoc (sg : Nat → Nat) (F : List Nat) (a : Nat) : (fun j => if j = sg a then cz sg F (sg a) + 1 else cz sg F j) = cz sg (F ++ [a]) := by
  funext j
  unfold cz
  rw [List.map_append, List.count_append]
  by_cases e : j = sg a
  · subst e; simp
  · rw [if_neg e]
    have : [a].map sg = [sg a] := rfl
    rw [this, List.count_singleton, if_neg (by simpa using fun h => e h.symm)]
    simp
theorem cz_le (sg : Nat → Nat) (F : List Nat) (x : Nat) : 0 ≤ cz sg F x ∧ cz sg F x ≤ F.length := by
  unfold cz
  have := List.count_le_length (a := x) (l := F.map sg)
  rw [List.length_map] at this
  omega

theorem own_ints {w : World} {base : Nat} {v : Value} {F : List Nat} (h : w.ownsRow base 3 1 v F.length (natVals F)) (hF : ∀ x ∈ F, x ≤ 1000000) : ∃ a c, v = .slice a F.length c ∧ IsInts w a F.length (fun i => (F.getD i 0 : Int)) := by
  have e : natVals F = intVals (fun i => (F.getD i 0 : Int)) F.length := by
    apply List.ext_getElem?
    intro j
    by_cases hj : j < F.length
    · rw [intVals_at _ _ _ hj, natVals_at, List.getElem?_eq_getElem hj, getD_at hj]; rfl
    · rw [List.getElem?_eq_none (by rw [natVals_length]; omega), List.getElem?_eq_none (by rw [intVals_length]; omega)]
  rw [e] at h
  refine ints_own h (fun i hi => ?_)
  have := hF _ (List.getElem_mem hi)
  rw [getD_at hi]
  omega

set_option maxHeartbeats 4000000 in
set_option maxRecDepth 100000 in
theorem lengths_good (ao : Option Addr) (len cap most : Nat) (z : Nat → Int) (w : World) (hP : IsInts w ao len z) (hlen : len ≤ 300)
    (hm1 : 1 ≤ most) (hm : most ≤ 15) (hz : ∀ i, i < len → badC (z i) = false) (hn : (syms z len).length ≤ 2 ^ most) :
    Calls Tryd.prog 30 #[.slice ao len cap, .int .i64 (most : Int)] w fun e w' => ∃ g y, e = .returned (.tuple #[.slice (some ⟨g, 0, none⟩) len len, .nilIface]) ∧ w'.ownsRow w.heap.size 3 1 (.slice (some ⟨g, 0, none⟩) len len) len (intVals y len) ∧ GoodL z y len most ∧ Below w.heap.size w w' := by
  have hz2 : ∀ i, i < len → 0 ≤ z i ∧ z i ≤ 1048576 := fun i hi => by
    have := hz i hi
    unfold badC at this
    simp only [Bool.or_eq_false_iff, decide_eq_false_iff_not] at this
    omega
  have d1 : decide ((len : Int) > 300) = false := by simp; omega
  have d2 : decide ((300 : Int) < (len : Int)) = false := by simp; omega
  have d3 : decide ((most : Int) < 1) = false := by simp; omega
  have d4 : decide ((15 : Int) < (most : Int)) = false := by simp; omega
  have d5 : decide ((most : Int) > 15) = false := by simp; omega
  have HZ := hide hz
  have HZ2 := hide hz2
  have HP := hide hP
  have HC := hide (countable_any ao len cap z w hP (by omega))
  have HA := hide (above0_any ao len cap z w hP (by omega))
  obtain ⟨o1, o2⟩ := one_shl most hm
  have Hn := hide hn
  have hnl := syms_length z len
  have hmk := run_make_row' (P := Tryd.prog) 41 3 (.int .i64 0) 8 Tryd.underlying41 info_i64 rfl .i64 .i64 len (by omega) (by omega)
  clear hP hz hz2 hn
  go_enter Tryd.func30, Tryd.ntmps30
  go_wp2_with fail
  refine (unhide HC).mono ?_; rintro e w1 ⟨b, rfl, hb, rfl⟩
  obtain rfl : b = true := hb.2 (unhide HZ)
  clear hb HC
  go_wp2_with fail
  refine (unhide HA).mono ?_; rintro e w2 ⟨v, rfl, hown, hb2⟩
  have hsm : ∀ x ∈ syms z len, x ≤ 1000000 := fun x hx => by have := (syms_mem z len x).1 hx; omega
  obtain ⟨a0, c0, rfl, hS⟩ := own_ints hown hsm
  have HS := hide hS
  have hown0 := hide (made_own w2 len (by omega))
  have hb3 : Below w2.heap.size w2 (w2.alloc (.cells (madeCells #[.int .i64 0] len) 3)) := (Below.refl _ _).alloc (Nat.le_refl _) _
  have hz3 : (w2.alloc (.cells (madeCells #[.int .i64 0] len) 3)).heap.size = w2.heap.size + 1 := by simp
  have hbs := hb2.size
  have hb4 : Below w1.heap.size w1 (w2.alloc (.cells (madeCells #[.int .i64 0] len) 3)) := hb2.trans (hb3.mono hbs)
  have HS3 := hide (hS.below hb3)
  have HP3 := hide ((unhide HP).below hb4)
  clear hown HA hS hsm
  obtain ⟨n, hn⟩ : ∃ n, n = (syms z len).length := ⟨_, rfl⟩
  rw [← hn] at Hn hnl HS HS3 ⊢
  have HN := hide hn
  have d6 : decide ((n : Int) > ((2 ^ most : Nat) : Int)) = false := by have := unhide Hn; simp only [decide_eq_false_iff_not]; omega
  have d7 : decide (((2 ^ most : Nat) : Int) < (n : Int)) = false := by have := unhide Hn; simp only [decide_eq_false_iff_not]; omega
  have d8 : decide (2 ^ most < n) = false := by have := unhide Hn; simp only [decide_eq_false_iff_not]; omega
  obtain ⟨p2, hp2⟩ : ∃ p, p = 2 ^ most := ⟨_, rfl⟩
  rw [← hp2] at o1 o2 d6 d7 d8 Hn
  have Hp2 := hide hp2
  have hp0 : 1 ≤ p2 := by rw [hp2]; exact Nat.two_pow_pos most
  have da : decide ((p2 : Int) < 0) = false := by simp
  have db : decide ((p2 : Int) < 1) = false := by simp; omega
  have dc : decide (p2 < 1) = false := by simp; omega
  clear hn hp2
  by_cases h1 : n = 1
  · subst h1
    obtain ⟨b, off, rfl, _, hS1⟩ : ∃ b off, a0 = some ⟨b, off, none⟩ ∧ 1 ≤ maxLen ∧ ∀ i, i < 1 → (w2.alloc (.cells (madeCells #[.int .i64 0] len) 3)).cell? ⟨b, off + i, none⟩ = some (.int .i64 ((syms z len).getD i 0 : Int)) ∧ -9223372036854775808 ≤ ((syms z len).getD i 0 : Int) ∧ ((syms z len).getD i 0 : Int) ≤ 9223372036854775807 := by
      rcases unhide HS3 with h | h
      · omega
      · exact h
    have c0' := (hS1 0 (by omega)).1
    have HG := hide (good_one z len most (fun i hi => (unhide HZ2 i hi).1) (unhide HN).symm hm1)
    have hsl := (syms_at z len 0 (by rw [← unhide HN]; omega)).1
    obtain ⟨x0, hx0⟩ : ∃ q, q = (syms z len).getD 0 0 := ⟨_, rfl⟩
    rw [← hx0] at c0' HG hsl
    have hxi : (x0 : Int) < (len : Int) := by omega
    obtain ⟨q, cq⟩ : ∃ q, (w2.alloc (.cells (madeCells #[.int .i64 0] len) 3)).cell? ⟨w2.heap.size, x0, none⟩ = some q := ⟨_, own_int (unhide hown0) x0 hsl⟩
    have fq := (unhide hown0).frozenAt x0
    have hst := ((unhide hown0).stored x0 (.int .i64 1)).1
    rw [intVals_set _ _ _ _ hsl] at hst
    have hw : (w2.alloc (.cells (madeCells #[.int .i64 0] len) 3)).setCell ⟨w2.heap.size, x0, none⟩ (.int .i64 1) = w2.alloc (.cells ((madeCells #[.int .i64 0] len).setIfInBounds x0 (.int .i64 1)) 3) := World.setCell_alloc_at _ _ _ _ _ rfl
    have hb5 := hb4.setCell (p := ⟨w2.heap.size, x0, none⟩) hbs (.int .i64 1)
    rw [hw] at hst hb5
    have Hst := hide hst
    have HB5 := hide hb5
    clear hS1 hx0 hst hown0 hw hb5
    rw [Nat.add_zero] at c0'
    go_wp2
    go_ret2
    exact ⟨_, _, rfl, own_rebase (unhide Hst) hbs, unhide HG, unhide HB5⟩
  · have d9 : ((n : Int) == 1) = false := by simp; omega
    by_cases h0 : n = 0
    · subst h0
      have HG := hide (good_none z len most (fun i hi => (unhide HZ2 i hi).1) (unhide HN).symm)
      go_wp2_with fail
      clear hmk
      refine (cheapest_none ao a0 len cap c0 _ _).mono ?_; rintro e w4 ⟨rfl, rfl⟩
      go_wp2
      go_loop [54] (fun i => i = .int .i64 0) (fun _ => 0)
      case atStart => rfl
      case round =>
        subst hrel
        go_wp2
        go_ret2
        exact ⟨w2.heap.size, rfl, fun _ => 0, own_rebase (unhide hown0) hbs, unhide HG, hb4⟩
    · have HCH := hide (cheapest_any (Bq := w2.heap.size + 1) ao a0 len n cap c0 most z (fun i => (syms z len).getD i 0) (fun i => nat z ((syms z len).getD i 0)) _ (unhide HP3) (unhide HS3) (fun i hi => (syms_at z len i (by rw [← unhide HN]; exact hi)).1) (fun i hi => by
          have h := syms_at z len i (by rw [← unhide HN]; exact hi)
          unfold nat; omega) (fun i hi => by
          have h := syms_at z len i (by rw [← unhide HN]; exact hi)
          have := unhide HZ2 _ h.1
          unfold nat; omega) (by omega) (by omega) hm1 hm (by rw [← unhide Hp2]; exact unhide Hn) (by rw [hz3]; exact Nat.le_refl _))
      go_wp2_with fail
      clear hmk
      refine (unhide HCH).mono ?_; rintro e w4 ⟨v, L, rfl, hch, hpk, hb5⟩
      obtain ⟨D, hD⟩ : ∃ D, most = D + 1 := ⟨most - 1, by omega⟩
      have hTl : ((L most).take (2 * (n - 1))).length = 2 * (n - 1) := by
        subst hD
        obtain ⟨Q, hQ1, hQ2, hQ3, _⟩ := hch.whole
        have hen := enough_top n Q hQ2 hQ3 D (by rw [← unhide Hp2]; exact unhide Hn) (by omega)
        rw [hQ1] at hen
        rw [List.length_take]; omega
      have hsml : ∀ F ∈ (L most).take (2 * (n - 1)), F.length ≤ 32768 ∧ ∀ x ∈ F, x < n := fun F hF => by
        have h := (hch.small (fun i hi => by
          have h := syms_at z len i (by rw [← unhide HN]; exact hi)
          have := unhide HZ2 _ h.1
          unfold nat; omega) most (Nat.le_refl _)).2 F (List.mem_of_mem_take hF)
        have hp : 2 ^ most ≤ 32768 := Nat.pow_le_pow_right (n := 2) (j := 15) (by omega) (by omega)
        exact ⟨by omega, h.2.1⟩
      have HGM : Hid (GoodL z (cz (fun i => (syms z len).getD i 0) ((L most).take (2 * (n - 1))).flatten) len most) := by
        show GoodL _ _ _ _
        subst hD
        rw [unhide HN] at hch ⊢
        exact good_many z len D L (unhide HZ2) hlen (by rw [← unhide HN]; omega) (by omega) (by rw [← unhide HN, ← unhide Hp2]; exact unhide Hn) hch _ (fun x _ => rfl)
      obtain ⟨T, hT⟩ : ∃ T, T = (L most).take (2 * (n - 1)) := ⟨_, rfl⟩
      obtain ⟨sg, hsg⟩ : ∃ f : Nat → Nat, f = fun i => (syms z len).getD i 0 := ⟨_, rfl⟩
      rw [← hT] at hTl hsml HGM hpk
      rw [← hsg] at HGM hpk
      have hsgl : ∀ i, i < n → sg i < len := fun i hi => by rw [hsg]; exact (syms_at z len i (by rw [← unhide HN]; exact hi)).1
      obtain ⟨g, cp, xs, rfl, hgq, hcap, ha, hx⟩ : ∃ g cap xs, v = .slice (some ⟨g, 0, none⟩) xs.length cap ∧ w2.heap.size + 1 ≤ g ∧ xs.length ≤ cap ∧ AllP (w2.heap.size + 1) w4 sg (fun i => nat z ((syms z len).getD i 0)) xs T ∧ ∀ i, (h : i < xs.length) → w4.cell? ⟨g, i * 2, none⟩ = some (.int .i64 xs[i].1) ∧ w4.cell? ⟨g, i * 2 + 1, none⟩ = some (.slice xs[i].2.1 xs[i].2.2.1 xs[i].2.2.2) := by
        rcases hpk with ⟨_, h⟩ | h
        · rw [h] at hTl; simp at hTl; omega
        · exact h
      have hxl := ha.length
      have Hown4 := hide (own_keep (unhide hown0) hb5)
      have hzz := hb5.size
      have hb6 : Below w1.heap.size w1 w4 := hb4.trans (hb5.mono (by rw [hz3]; omega))
      have HX := hide hx
      have HA := hide ha
      have HSM := hide hsml
      have Hsgl := hide hsgl
      have HXL := hide hxl
      have hlx : xs.length ≤ 600 := by omega
      have hsz4 : w2.heap.size < w4.heap.size := by rw [hz3] at hzz; omega
      generalize (fun i => nat z ((syms z len).getD i 0)) = cc at *
      clear hb5 hb4 hb3 hown0 hz3 hch hpk hT hsg hx ha hsml hsgl hxl HCH hTl hzz HS3 HP3
      go_wp2
      go_loopw [54] (fun i wr => ∃ t : Nat, t ≤ xs.length ∧ i = .int .i64 t ∧ Hid (wr.ownsRow w2.heap.size 3 1 (.slice (some ⟨w2.heap.size, 0, none⟩) len len) len (intVals (cz sg (T.take t).flatten) len)) ∧ But (· = w2.heap.size) w4 wr) (fun i _ => xs.length - (intOf i).toNat)
      case atStart =>
        refine ⟨0, by omega, rfl, ?_, But.refl _ _⟩
        show World.ownsRow _ _ _ _ _ _ _
        rw [List.take_zero, List.flatten_nil, cz_nil]; exact Hown4
      case round =>
        clear Hown4
        obtain ⟨t, ht, rfl, Ho, hbu⟩ := hrel
        have hwr := hbu.size
        by_cases hlt : t < xs.length
        · have e1 : decide ((t : Int) < (xs.length : Int)) = true := by simp; omega
          have e2 : (t : Int) < (xs.length : Int) := by omega
          obtain ⟨k1, k2⟩ := unhide HX t hlt
          have htT : t < T.length := by have := unhide HXL; omega
          have pk := (unhide HA).at t hlt htT
          obtain ⟨x, hx⟩ : ∃ x, x = xs[t] := ⟨_, rfl⟩
          obtain ⟨F, hF⟩ : ∃ F, F = T[t] := ⟨_, rfl⟩
          rw [← hx] at k1 k2 pk
          rw [← hF] at pk
          have hFT : F ∈ T := by rw [hF]; exact List.getElem_mem htT
          have HNX : Hid ((T.take (t + 1)).flatten = (T.take t).flatten ++ F) := by
            show _ = _
            rw [List.take_succ_eq_append_getElem htT, List.flatten_append, hF]; simp
          have HFL : Hid ((T.take t).flatten.length ≤ 600 * 32768) := by
            show _ ≤ _
            have key : ∀ (U : List (List Nat)), (∀ F ∈ U, F.length ≤ 32768) → U.flatten.length ≤ U.length * 32768 := fun U => by
              induction U with
              | nil => intro _; simp
              | cons a U ih =>
                intro h
                have h1 := ih (fun F hF => h F (by simp [hF]))
                have h2 := h a (by simp)
                rw [List.flatten_cons, List.length_append, List.length_cons]
                omega
            have h1 := key (T.take t) (fun F hF => (unhide HSM F (List.mem_of_mem_take hF)).1)
            rw [List.length_take] at h1
            omega
          obtain ⟨cx, ax, lx, kx⟩ := x
          obtain ⟨q1, q2, q3, bx, ox, q4, q5, q6⟩ := pk
          simp only at q1 q2 q4 k1 k2
          subst q1 q2 q4
          obtain ⟨s1, s2⟩ := unhide HSM F hFT
          have hgl := World.block_lt_of_cell? _ _ k1
          have hbl := World.block_lt_of_cell? _ _ (q6 0 q3)
          simp only at hgl hbl
          rw [← hbu.cell (p := ⟨g, t * 2, none⟩) hgl (by show ¬ g = _; omega)] at k1
          rw [← hbu.cell (p := ⟨g, t * 2 + 1, none⟩) hgl (by show ¬ g = _; omega)] at k2
          have HQ6 := hide q6
          have HS2 := hide s2
          have hgw : g < wr.heap.size := by omega
          clear hx hF q6 s2
          generalize Pm.load cc F = ld at *
          have hbu1 := hbu.alloc (.cells #[.int .i64 (ld : Int), .slice (some ⟨bx, ox, none⟩) F.length kx] 76)
          have Ho1 := hide ((unhide Ho).alloc (.cells #[.int .i64 (ld : Int), .slice (some ⟨bx, ox, none⟩) F.length kx] 76))
          clear Ho hbu
          go_wp2
          generalize wr.alloc (.cells #[.int .i64 (ld : Int), .slice (some ⟨bx, ox, none⟩) F.length kx] 76) = wa at *
          go_loopw [61] (fun i wj => ∃ j : Nat, j ≤ F.length ∧ i = .int .i64 j ∧ Hid (wj.ownsRow w2.heap.size 3 1 (.slice (some ⟨w2.heap.size, 0, none⟩) len len) len (intVals (cz sg ((T.take t).flatten ++ F.take j)) len)) ∧ But (· = w2.heap.size) w4 wj) (fun i _ => F.length - (intOf i).toNat)
          case atStart => exact ⟨0, by omega, rfl, by rw [List.take_zero, List.append_nil]; exact Ho1, hbu1⟩
          case round =>
            clear Ho1 hbu1
            obtain ⟨j, hj, rfl, Ho, hbu⟩ := hrel
            by_cases hjl : j < F.length
            · have e3 : decide ((j : Int) < (F.length : Int)) = true := by simp; omega
              have e4 : (j : Int) < (F.length : Int) := by omega
              have q6 := unhide HQ6 j hjl
              have hxn := unhide Hsgl F[j] (unhide HS2 F[j] (List.getElem_mem hjl))
              rw [← hbu.cell (p := ⟨bx, ox + j, none⟩) hbl (by show ¬ bx = _; omega)] at q6
              have hst := ((unhide Ho).stored (sg F[j]) (.int .i64 (cz sg ((T.take t).flatten ++ F.take j) (sg F[j]) + 1))).1
              rw [intVals_set _ _ _ _ hxn, cz_snoc, List.append_assoc, ← List.take_succ_eq_append_getElem hjl] at hst
              have cq := own_int (unhide Ho) (sg F[j]) hxn
              have fq := (unhide Ho).frozenAt (sg F[j])
              have hcl := cz_le sg ((T.take t).flatten ++ F.take j) (sg F[j])
              rw [List.length_append, List.length_take] at hcl
              have hcb : cz sg ((T.take t).flatten ++ F.take j) (sg F[j]) ≤ 100000000 := by have := unhide HFL; omega
              have hc0 := hcl.1
              have hbu2 := hbu.setCell (p := ⟨w2.heap.size, sg F[j], none⟩) rfl (.int .i64 (cz sg ((T.take t).flatten ++ F.take j) (sg F[j]) + 1))
              have Hst := hide hst
              have Hbu2 := hide hbu2
              generalize cz sg ((T.take t).flatten ++ F.take j) (sg F[j]) = cv at *
              generalize sg F[j] = sx at *
              have hxi : (sx : Int) < (len : Int) := by omega
              have hw1 : IntKind.i64.wrap (cv + 1) = cv + 1 := by rw [IntKind.wrap_i64]; omega
              clear hst hbu2 hcl Ho hbu
              go_wp2
              go_roundw
              case rel => exact ⟨j + 1, by omega, by go_num, Hst, unhide Hbu2⟩
              case measure => simp [intOf]; omega
            · have : j = F.length := by omega
              subst this
              have e3 : decide ((F.length : Int) < (F.length : Int)) = false := by simp
              rw [List.take_length, ← unhide HNX] at Ho
              go_wp2
              go_roundw
              case rel => exact ⟨t + 1, by omega, by go_num, Ho, hbu⟩
              case measure => simp [intOf]; omega
        · have : t = xs.length := by omega
          subst this
          have e1 : decide ((xs.length : Int) < (xs.length : Int)) = false := by simp
          have hTe : T.take xs.length = T := List.take_of_length_le (by have := unhide HXL; omega)
          rw [hTe] at Ho
          have hbw : Below w1.heap.size w1 wr := hb6.trans (hbu.below (by have := hb6.size; omega) (fun k hk => by omega))
          go_wp2
          go_ret2
          exact ⟨_, _, rfl, own_rebase (unhide Ho) hbs, unhide HGM, hbw⟩
end Go.Proofs.YtogpkpjdipeiiabDoor
