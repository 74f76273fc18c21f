/- Walks of the program's best lengths. Walks of the writer of bits. -/
import Derived.Test.YtfeljhikeddodadGreatDoorMh14
import Derived.Test.YtfeljhikeddodadGreatDoorMh15
import Derived.Test.YtfeljhikeddodadGreatDoorMh4
import Derived.Test.YtfeljhikeddodadGreatDoorChecked
import Derived.Test.YtfeljhikeddodadGreatDoorMh5
import Derived.WalkKit
import Derived.WalkLawsBesides
import Derived.WalkSpells
import Derived.Handy
import Derived.Laws.BitsAllLaws
import Derived.Laws.Shifts
import Derived.Laws.IdiomStrings
import Derived.Deep.LoopGhost
import Derived.Deep.WholeRow
import Derived.Deep.AppendLies
import Derived.BigRegion
import Derived.Laws.ResultCell
namespace Go.Proofs.YtfeljhikeddodadGreatDoor
open Go.Shelf Go.RowKit Go.Lib Go.Sort St Pm

theorem one_shl (m : Nat) (h : m ≤ 15) : (1 : Int) * 2 ^ m = ((2 ^ m : Nat) : Int) ∧ 2 ^ m ≤ 32768 := ⟨by simp, Nat.pow_le_pow_right (n := 2) (j := 15) (by omega) h⟩
theorem cheapest_none (ao bo : Option Addr) (len ca cb : Nat) (most : Int) (w : World) :
    Calls Tryz.prog 86 #[.slice ao len ca, .slice bo 0 cb, .int .i64 most] w fun e w' => e = .returned (.slice none 0 0) ∧ w' = w := by
  go_enter Tryz.func86, Tryz.ntmps86
  go_wp2
  go_ret
  exact ⟨rfl, rfl⟩
/-- How often symbols are met. -/
def cz (sg : Nat → Nat) (F : List Nat) (x : Nat) : Int := ((F.map sg).count x : Nat)
theorem cz_nil (sg : Nat → Nat) : cz sg [] = fun _ => 0 := by funext x; simp [cz]
theorem cz_snoc (sg : Nat → Nat) (F : List Nat) (a : Nat) : (fun j => if j = sg a then cz sg F (sg a) + 1 else cz sg F j) = cz sg (F ++ [a]) := by
  funext j
  unfold cz
  rw [List.map_append, List.count_append]
  by_cases e : j = sg a
  · subst e; simp
  · rw [if_neg e]
    have : [a].map sg = [sg a] := rfl
    rw [this, List.count_singleton, if_neg (by simpa using fun h => e h.symm)]
    simp
theorem cz_le (sg : Nat → Nat) (F : List Nat) (x : Nat) : 0 ≤ cz sg F x ∧ cz sg F x ≤ F.length := by
  unfold cz
  have := List.count_le_length (a := x) (l := F.map sg)
  rw [List.length_map] at this
  omega
theorem own_ints {w : World} {base : Nat} {v : Value} {F : List Nat} (h : w.ownsRow base 3 1 v F.length (natVals F)) (hF : ∀ x ∈ F, x ≤ 1000000) : ∃ a c, v = .slice a F.length c ∧ IsInts w a F.length (fun i => (F.getD i 0 : Int)) := by
  have e : natVals F = intVals (fun i => (F.getD i 0 : Int)) F.length := by
    apply List.ext_getElem?
    intro j
    by_cases hj : j < F.length
    · rw [intVals_at _ _ _ hj, natVals_at, List.getElem?_eq_getElem hj, getD_at hj]; rfl
    · rw [List.getElem?_eq_none (by rw [natVals_length]; omega), List.getElem?_eq_none (by rw [intVals_length]; omega)]
  rw [e] at h
  refine ints_own h (fun i hi => ?_)
  have := hF _ (List.getElem_mem hi)
  rw [getD_at hi]
  omega
set_option maxHeartbeats 4000000 in
set_option maxRecDepth 100000 in
theorem lengths_good (ao : Option Addr) (len cap most : Nat) (z : Nat → Int) (w : World) (hP : IsInts w ao len z) (hlen : len ≤ 300)
    (hm1 : 1 ≤ most) (hm : most ≤ 15) (hz : ∀ i, i < len → badC (z i) = false) (hn : (syms z len).length ≤ 2 ^ most) :
    Calls Tryz.prog 51 #[.slice ao len cap, .int .i64 (most : Int)] w fun e w' => ∃ g y, e = .returned (.tuple #[.slice (some ⟨g, 0, none⟩) len len, .nilIface]) ∧ w'.ownsRow w.heap.size 3 1 (.slice (some ⟨g, 0, none⟩) len len) len (intVals y len) ∧ GoodL z y len most ∧ Below w.heap.size w w' := by
  have hz2 : ∀ i, i < len → 0 ≤ z i ∧ z i ≤ 1048576 := fun i hi => by
    have := hz i hi
    unfold badC at this
    simp only [Bool.or_eq_false_iff, decide_eq_false_iff_not] at this
    omega
  have d1 : decide ((len : Int) > 300) = false := by simp; omega
  have d2 : decide ((300 : Int) < (len : Int)) = false := by simp; omega
  have d3 : decide ((most : Int) < 1) = false := by simp; omega
  have d4 : decide ((15 : Int) < (most : Int)) = false := by simp; omega
  have d5 : decide ((most : Int) > 15) = false := by simp; omega
  have HZ := hide hz
  have HZ2 := hide hz2
  have HP := hide hP
  have HC := hide (countable_any ao len cap z w hP (by omega))
  have HA := hide (above0_any ao len cap z w hP (by omega))
  obtain ⟨o1, o2⟩ := one_shl most hm
  have Hn := hide hn
  have hnl := syms_length z len
  have hmk := run_make_row' (P := Tryz.prog) 38 3 (.int .i64 0) 8 Tryz.underlying38 info_i64 rfl .i64 .i64 len (by omega) (by omega)
  clear hP hz hz2 hn
  go_enter Tryz.func51, Tryz.ntmps51
  go_wp2_with fail
  refine (unhide HC).mono ?_; rintro e w1 ⟨b, rfl, hb, rfl⟩
  obtain rfl : b = true := hb.2 (unhide HZ)
  clear hb HC
  go_wp2_with fail
  refine (unhide HA).mono ?_; rintro e w2 ⟨v, rfl, hown, hb2⟩
  have hsm : ∀ x ∈ syms z len, x ≤ 1000000 := fun x hx => by have := (syms_mem z len x).1 hx; omega
  obtain ⟨a0, c0, rfl, hS⟩ := own_ints hown hsm
  have HS := hide hS
  have hown0 := hide (made_own w2 len (by omega))
  have hb3 : Below w2.heap.size w2 (w2.alloc (.cells (madeCells #[.int .i64 0] len) 3)) := (Below.refl _ _).alloc (Nat.le_refl _) _
  have hz3 : (w2.alloc (.cells (madeCells #[.int .i64 0] len) 3)).heap.size = w2.heap.size + 1 := by simp
  have hbs := hb2.size
  have hb4 : Below w1.heap.size w1 (w2.alloc (.cells (madeCells #[.int .i64 0] len) 3)) := hb2.trans (hb3.mono hbs)
  have HS3 := hide (hS.below hb3)
  have HP3 := hide ((unhide HP).below hb4)
  clear hown HA hS hsm
  obtain ⟨n, hn⟩ : ∃ n, n = (syms z len).length := ⟨_, rfl⟩
  rw [← hn] at Hn hnl HS HS3 ⊢
  have HN := hide hn
  have d6 : decide ((n : Int) > ((2 ^ most : Nat) : Int)) = false := by have := unhide Hn; simp only [decide_eq_false_iff_not]; omega
  have d7 : decide (((2 ^ most : Nat) : Int) < (n : Int)) = false := by have := unhide Hn; simp only [decide_eq_false_iff_not]; omega
  have d8 : decide (2 ^ most < n) = false := by have := unhide Hn; simp only [decide_eq_false_iff_not]; omega
  obtain ⟨p2, hp2⟩ : ∃ p, p = 2 ^ most := ⟨_, rfl⟩
  rw [← hp2] at o1 o2 d6 d7 d8 Hn
  have Hp2 := hide hp2
  have hp0 : 1 ≤ p2 := by rw [hp2]; exact Nat.two_pow_pos most
  have da : decide ((p2 : Int) < 0) = false := by simp
  have db : decide ((p2 : Int) < 1) = false := by simp; omega
  have dc : decide (p2 < 1) = false := by simp; omega
  clear hn hp2
  by_cases h1 : n = 1
  · subst h1
    obtain ⟨b, off, rfl, _, hS1⟩ : ∃ b off, a0 = some ⟨b, off, none⟩ ∧ 1 ≤ maxLen ∧ ∀ i, i < 1 → (w2.alloc (.cells (madeCells #[.int .i64 0] len) 3)).cell? ⟨b, off + i, none⟩ = some (.int .i64 ((syms z len).getD i 0 : Int)) ∧ -9223372036854775808 ≤ ((syms z len).getD i 0 : Int) ∧ ((syms z len).getD i 0 : Int) ≤ 9223372036854775807 := by
      rcases unhide HS3 with h | h
      · omega
      · exact h
    have c0' := (hS1 0 (by omega)).1
    have HG := hide (good_one z len most (fun i hi => (unhide HZ2 i hi).1) (unhide HN).symm hm1)
    have hsl := (syms_at z len 0 (by rw [← unhide HN]; omega)).1
    obtain ⟨x0, hx0⟩ : ∃ q, q = (syms z len).getD 0 0 := ⟨_, rfl⟩
    rw [← hx0] at c0' HG hsl
    have hxi : (x0 : Int) < (len : Int) := by omega
    obtain ⟨q, cq⟩ : ∃ q, (w2.alloc (.cells (madeCells #[.int .i64 0] len) 3)).cell? ⟨w2.heap.size, x0, none⟩ = some q := ⟨_, own_int (unhide hown0) x0 hsl⟩
    have fq := (unhide hown0).frozenAt x0
    have hst := ((unhide hown0).stored x0 (.int .i64 1)).1
    rw [intVals_set _ _ _ _ hsl] at hst
    have hw : (w2.alloc (.cells (madeCells #[.int .i64 0] len) 3)).setCell ⟨w2.heap.size, x0, none⟩ (.int .i64 1) = w2.alloc (.cells ((madeCells #[.int .i64 0] len).setIfInBounds x0 (.int .i64 1)) 3) := World.setCell_alloc_at _ _ _ _ _ rfl
    have hb5 := hb4.setCell (p := ⟨w2.heap.size, x0, none⟩) hbs (.int .i64 1)
    rw [hw] at hst hb5
    have Hst := hide hst
    have HB5 := hide hb5
    clear hS1 hx0 hst hown0 hw hb5
    rw [Nat.add_zero] at c0'
    go_wp2
    go_ret2
    exact ⟨_, _, rfl, own_rebase (unhide Hst) hbs, unhide HG, unhide HB5⟩
  · have d9 : ((n : Int) == 1) = false := by simp; omega
    by_cases h0 : n = 0
    · subst h0
      have HG := hide (good_none z len most (fun i hi => (unhide HZ2 i hi).1) (unhide HN).symm)
      go_wp2_with fail
      clear hmk
      refine (cheapest_none ao a0 len cap c0 _ _).mono ?_; rintro e w4 ⟨rfl, rfl⟩
      go_wp2
      go_loop [54] (fun i => i = .int .i64 0) (fun _ => 0)
      case atStart => rfl
      case round =>
        subst hrel
        go_wp2
        go_ret2
        exact ⟨w2.heap.size, rfl, fun _ => 0, own_rebase (unhide hown0) hbs, unhide HG, hb4⟩
    · have HCH := hide (cheapest_any (Bq := w2.heap.size + 1) ao a0 len n cap c0 most z (fun i => (syms z len).getD i 0) (fun i => nat z ((syms z len).getD i 0)) _ (unhide HP3) (unhide HS3) (fun i hi => (syms_at z len i (by rw [← unhide HN]; exact hi)).1) (fun i hi => by
          have h := syms_at z len i (by rw [← unhide HN]; exact hi)
          unfold nat; omega) (fun i hi => by
          have h := syms_at z len i (by rw [← unhide HN]; exact hi)
          have := unhide HZ2 _ h.1
          unfold nat; omega) (by omega) (by omega) hm1 hm (by rw [← unhide Hp2]; exact unhide Hn) (by rw [hz3]; exact Nat.le_refl _))
      go_wp2_with fail
      clear hmk
      refine (unhide HCH).mono ?_; rintro e w4 ⟨v, L, rfl, hch, hpk, hb5⟩
      obtain ⟨D, hD⟩ : ∃ D, most = D + 1 := ⟨most - 1, by omega⟩
      have hTl : ((L most).take (2 * (n - 1))).length = 2 * (n - 1) := by
        subst hD
        obtain ⟨Q, hQ1, hQ2, hQ3, _⟩ := hch.whole
        have hen := enough_top n Q hQ2 hQ3 D (by rw [← unhide Hp2]; exact unhide Hn) (by omega)
        rw [hQ1] at hen
        rw [List.length_take]; omega
      have hsml : ∀ F ∈ (L most).take (2 * (n - 1)), F.length ≤ 32768 ∧ ∀ x ∈ F, x < n := fun F hF => by
        have h := (hch.small (fun i hi => by
          have h := syms_at z len i (by rw [← unhide HN]; exact hi)
          have := unhide HZ2 _ h.1
          unfold nat; omega) most (Nat.le_refl _)).2 F (List.mem_of_mem_take hF)
        have hp : 2 ^ most ≤ 32768 := Nat.pow_le_pow_right (n := 2) (j := 15) (by omega) (by omega)
        exact ⟨by omega, h.2.1⟩
      have HGM : Hid (GoodL z (cz (fun i => (syms z len).getD i 0) ((L most).take (2 * (n - 1))).flatten) len most) := by
        show GoodL _ _ _ _
        subst hD
        rw [unhide HN] at hch ⊢
        exact good_many z len D L (unhide HZ2) hlen (by rw [← unhide HN]; omega) (by omega) (by rw [← unhide HN, ← unhide Hp2]; exact unhide Hn) hch _ (fun x _ => rfl)
      obtain ⟨T, hT⟩ : ∃ T, T = (L most).take (2 * (n - 1)) := ⟨_, rfl⟩
      obtain ⟨sg, hsg⟩ : ∃ f : Nat → Nat, f = fun i => (syms z len).getD i 0 := ⟨_, rfl⟩
      rw [← hT] at hTl hsml HGM hpk
      rw [← hsg] at HGM hpk
      have hsgl : ∀ i, i < n → sg i < len := fun i hi => by rw [hsg]; exact (syms_at z len i (by rw [← unhide HN]; exact hi)).1
      obtain ⟨g, cp, xs, rfl, hgq, hcap, ha, hx⟩ : ∃ g cap xs, v = .slice (some ⟨g, 0, none⟩) xs.length cap ∧ w2.heap.size + 1 ≤ g ∧ xs.length ≤ cap ∧ AllP (w2.heap.size + 1) w4 sg (fun i => nat z ((syms z len).getD i 0)) xs T ∧ ∀ i, (h : i < xs.length) → w4.cell? ⟨g, i * 2, none⟩ = some (.int .i64 xs[i].1) ∧ w4.cell? ⟨g, i * 2 + 1, none⟩ = some (.slice xs[i].2.1 xs[i].2.2.1 xs[i].2.2.2) := by
        rcases hpk with ⟨_, h⟩ | h
        · rw [h] at hTl; simp at hTl; omega
        · exact h
      have hxl := ha.length
      have Hown4 := hide (own_keep (unhide hown0) hb5)
      have hzz := hb5.size
      have hb6 : Below w1.heap.size w1 w4 := hb4.trans (hb5.mono (by rw [hz3]; omega))
      have HX := hide hx
      have HA := hide ha
      have HSM := hide hsml
      have Hsgl := hide hsgl
      have HXL := hide hxl
      have hlx : xs.length ≤ 600 := by omega
      have hsz4 : w2.heap.size < w4.heap.size := by rw [hz3] at hzz; omega
      generalize (fun i => nat z ((syms z len).getD i 0)) = cc at *
      clear hb5 hb4 hb3 hown0 hz3 hch hpk hT hsg hx ha hsml hsgl hxl HCH hTl hzz HS3 HP3
      go_wp2
      go_loopw [54] (fun i wr => ∃ t : Nat, t ≤ xs.length ∧ i = .int .i64 t ∧ Hid (wr.ownsRow w2.heap.size 3 1 (.slice (some ⟨w2.heap.size, 0, none⟩) len len) len (intVals (cz sg (T.take t).flatten) len)) ∧ But (· = w2.heap.size) w4 wr) (fun i _ => xs.length - (intOf i).toNat)
      case atStart =>
        refine ⟨0, by omega, rfl, ?_, But.refl _ _⟩
        show World.ownsRow _ _ _ _ _ _ _
        rw [List.take_zero, List.flatten_nil, cz_nil]; exact Hown4
      case round =>
        clear Hown4
        obtain ⟨t, ht, rfl, Ho, hbu⟩ := hrel
        have hwr := hbu.size
        by_cases hlt : t < xs.length
        · have e1 : decide ((t : Int) < (xs.length : Int)) = true := by simp; omega
          have e2 : (t : Int) < (xs.length : Int) := by omega
          obtain ⟨k1, k2⟩ := unhide HX t hlt
          have htT : t < T.length := by have := unhide HXL; omega
          have pk := (unhide HA).at t hlt htT
          obtain ⟨x, hx⟩ : ∃ x, x = xs[t] := ⟨_, rfl⟩
          obtain ⟨F, hF⟩ : ∃ F, F = T[t] := ⟨_, rfl⟩
          rw [← hx] at k1 k2 pk
          rw [← hF] at pk
          have hFT : F ∈ T := by rw [hF]; exact List.getElem_mem htT
          have HNX : Hid ((T.take (t + 1)).flatten = (T.take t).flatten ++ F) := by
            show _ = _
            rw [List.take_succ_eq_append_getElem htT, List.flatten_append, hF]; simp
          have HFL : Hid ((T.take t).flatten.length ≤ 600 * 32768) := by
            show _ ≤ _
            have key : ∀ (U : List (List Nat)), (∀ F ∈ U, F.length ≤ 32768) → U.flatten.length ≤ U.length * 32768 := fun U => by
              induction U with
              | nil => intro _; simp
              | cons a U ih =>
                intro h
                have h1 := ih (fun F hF => h F (by simp [hF]))
                have h2 := h a (by simp)
                rw [List.flatten_cons, List.length_append, List.length_cons]
                omega
            have h1 := key (T.take t) (fun F hF => (unhide HSM F (List.mem_of_mem_take hF)).1)
            rw [List.length_take] at h1
            omega
          obtain ⟨cx, ax, lx, kx⟩ := x
          obtain ⟨q1, q2, q3, bx, ox, q4, q5, q6⟩ := pk
          simp only at q1 q2 q4 k1 k2
          subst q1 q2 q4
          obtain ⟨s1, s2⟩ := unhide HSM F hFT
          have hgl := World.block_lt_of_cell? _ _ k1
          have hbl := World.block_lt_of_cell? _ _ (q6 0 q3)
          simp only at hgl hbl
          rw [← hbu.cell (p := ⟨g, t * 2, none⟩) hgl (by show ¬ g = _; omega)] at k1
          rw [← hbu.cell (p := ⟨g, t * 2 + 1, none⟩) hgl (by show ¬ g = _; omega)] at k2
          have HQ6 := hide q6
          have HS2 := hide s2
          have hgw : g < wr.heap.size := by omega
          clear hx hF q6 s2
          generalize Pm.load cc F = ld at *
          have hbu1 := hbu.alloc (.cells #[.int .i64 (ld : Int), .slice (some ⟨bx, ox, none⟩) F.length kx] 125)
          have Ho1 := hide ((unhide Ho).alloc (.cells #[.int .i64 (ld : Int), .slice (some ⟨bx, ox, none⟩) F.length kx] 125))
          clear Ho hbu
          go_wp2
          generalize wr.alloc (.cells #[.int .i64 (ld : Int), .slice (some ⟨bx, ox, none⟩) F.length kx] 125) = wa at *
          go_loopw [61] (fun i wj => ∃ j : Nat, j ≤ F.length ∧ i = .int .i64 j ∧ Hid (wj.ownsRow w2.heap.size 3 1 (.slice (some ⟨w2.heap.size, 0, none⟩) len len) len (intVals (cz sg ((T.take t).flatten ++ F.take j)) len)) ∧ But (· = w2.heap.size) w4 wj) (fun i _ => F.length - (intOf i).toNat)
          case atStart => exact ⟨0, by omega, rfl, by rw [List.take_zero, List.append_nil]; exact Ho1, hbu1⟩
          case round =>
            clear Ho1 hbu1
            obtain ⟨j, hj, rfl, Ho, hbu⟩ := hrel
            by_cases hjl : j < F.length
            · have e3 : decide ((j : Int) < (F.length : Int)) = true := by simp; omega
              have e4 : (j : Int) < (F.length : Int) := by omega
              have q6 := unhide HQ6 j hjl
              have hxn := unhide Hsgl F[j] (unhide HS2 F[j] (List.getElem_mem hjl))
              rw [← hbu.cell (p := ⟨bx, ox + j, none⟩) hbl (by show ¬ bx = _; omega)] at q6
              have hst := ((unhide Ho).stored (sg F[j]) (.int .i64 (cz sg ((T.take t).flatten ++ F.take j) (sg F[j]) + 1))).1
              rw [intVals_set _ _ _ _ hxn, cz_snoc, List.append_assoc, ← List.take_succ_eq_append_getElem hjl] at hst
              have cq := own_int (unhide Ho) (sg F[j]) hxn
              have fq := (unhide Ho).frozenAt (sg F[j])
              have hcl := cz_le sg ((T.take t).flatten ++ F.take j) (sg F[j])
              rw [List.length_append, List.length_take] at hcl
              have hcb : cz sg ((T.take t).flatten ++ F.take j) (sg F[j]) ≤ 100000000 := by have := unhide HFL; omega
              have hc0 := hcl.1
              have hbu2 := hbu.setCell (p := ⟨w2.heap.size, sg F[j], none⟩) rfl (.int .i64 (cz sg ((T.take t).flatten ++ F.take j) (sg F[j]) + 1))
              have Hst := hide hst
              have Hbu2 := hide hbu2
              generalize cz sg ((T.take t).flatten ++ F.take j) (sg F[j]) = cv at *
              generalize sg F[j] = sx at *
              have hxi : (sx : Int) < (len : Int) := by omega
              have hw1 : IntKind.i64.wrap (cv + 1) = cv + 1 := by rw [IntKind.wrap_i64]; omega
              clear hst hbu2 hcl Ho hbu
              go_wp2
              go_roundw
              case rel => exact ⟨j + 1, by omega, by go_num, Hst, unhide Hbu2⟩
              case measure => simp [intOf]; omega
            · have : j = F.length := by omega
              subst this
              have e3 : decide ((F.length : Int) < (F.length : Int)) = false := by simp
              rw [List.take_length, ← unhide HNX] at Ho
              go_wp2
              go_roundw
              case rel => exact ⟨t + 1, by omega, by go_num, Ho, hbu⟩
              case measure => simp [intOf]; omega
        · have : t = xs.length := by omega
          subst this
          have e1 : decide ((xs.length : Int) < (xs.length : Int)) = false := by simp
          have hTe : T.take xs.length = T := List.take_of_length_le (by have := unhide HXL; omega)
          rw [hTe] at Ho
          have hbw : Below w1.heap.size w1 wr := hb6.trans (hbu.below (by have := hb6.size; omega) (fun k hk => by omega))
          go_wp2
          go_ret2
          exact ⟨_, _, rfl, own_rebase (unhide Ho) hbs, unhide HGM, hbw⟩
end Go.Proofs.YtfeljhikeddodadGreatDoor
namespace Go.Proofs.YtfeljhikeddodadGreatDoor
open Go.RowKit

/-- A writer at block p: c bits, the number N. -/
structure WAt (w : World) (p c N : Nat) : Prop where
  whole : ∃ v, w.cell? ⟨p, 0, none⟩ = some v ∧ w.ownsRow (p + 1) 5 1 v ((c + 7) / 8) (byteVals (Bt.yl ((c + 7) / 8) N))
  count : w.cell? ⟨p, 1, none⟩ = some (.int .i64 (c : Int))
  free0 : w.frozen? ⟨p, 0, none⟩ = false
  free1 : w.frozen? ⟨p, 1, none⟩ = false
  fits : N < 2 ^ c
  small : c ≤ 4000000
/-- Where the bytes of the writer at block p lie. -/
def rowOf (w : World) (p : Nat) : Nat :=
  match w.cell? ⟨p, 0, none⟩ with
  | some (.slice (some a) _ _) => a.block
  | _ => p
theorem rowOf_cell {w : World} {p g n c : Nat} (h : w.cell? ⟨p, 0, none⟩ = some (.slice (some ⟨g, 0, none⟩) n c)) : rowOf w p = g := by
  unfold rowOf; rw [h]
theorem rowOf_same {w w' : World} {p : Nat} (h : w'.cell? ⟨p, 0, none⟩ = w.cell? ⟨p, 0, none⟩) : rowOf w' p = rowOf w p := by
  unfold rowOf; rw [h]
theorem rowOf_own {w : World} {p k : Nat} {v : Value} (h : w.cell? ⟨p, 0, none⟩ = some v) (hk : v.ownBlock = some k) : rowOf w p = k := by
  unfold rowOf; rw [h]
  unfold Value.ownBlock at hk
  split at hk
  · simpa using hk
  · simp at hk
/-- All is as it was but for the writer at p and its bytes; and these lie where they lay, or in new memory. -/
structure Kept (p : Nat) (w w' : World) : Prop where
  os : w'.os = w.os
  tape : w'.tape = w.tape
  output : w'.output = w.output
  size : w.heap.size ≤ w'.heap.size
  block : ∀ k, k < w.heap.size → k ≠ p → k ≠ rowOf w p → w'.heap[k]? = w.heap[k]?
  row : rowOf w' p = rowOf w p ∨ w.heap.size ≤ rowOf w' p
  rest : ∀ j, 2 ≤ j → w'.cell? ⟨p, j, none⟩ = w.cell? ⟨p, j, none⟩ ∧ w'.frozen? ⟨p, j, none⟩ = w.frozen? ⟨p, j, none⟩
theorem Kept.refl (p : Nat) (w : World) : Kept p w w := ⟨rfl, rfl, rfl, Nat.le_refl _, fun _ _ _ _ => rfl, .inl rfl, fun _ _ => ⟨rfl, rfl⟩⟩
theorem Kept.trans {p : Nat} {a b c : World} (h : Kept p a b) (k : Kept p b c) : Kept p a c := by
  refine ⟨k.os.trans h.os, k.tape.trans h.tape, k.output.trans h.output, Nat.le_trans h.size k.size, fun i hi h1 h2 => ?_, ?_, fun j hj => ⟨(k.rest j hj).1.trans (h.rest j hj).1, (k.rest j hj).2.trans (h.rest j hj).2⟩⟩
  · have hs := h.size
    rw [k.block i (by omega) h1 (by rcases h.row with e | e <;> omega), h.block i hi h1 h2]
  · have hs := h.size
    rcases k.row with e | e
    · rcases h.row with e' | e'
      · exact .inl (e.trans e')
      · exact .inr (by omega)
    · exact .inr (by omega)
theorem Kept.cell {p : Nat} {w w' : World} (h : Kept p w w') {a : Addr} (h0 : a.block < w.heap.size) (h1 : a.block ≠ p) (h2 : a.block ≠ rowOf w p) : w'.cell? a = w.cell? a := World.cell?_of_block (w := w) (h.block a.block h0 h1 h2)
theorem WAt.lt {w : World} {p c N : Nat} (h : WAt w p c N) : p < w.heap.size := World.block_lt_of_cell? _ _ h.count
theorem WAt.row {w : World} {p c N : Nat} (h : WAt w p c N) : p ≤ rowOf w p ∧ rowOf w p < w.heap.size := by
  have hl := h.lt
  obtain ⟨v, hv, hown⟩ := h.whole
  rcases hown.2 with ⟨e, _⟩ | ⟨g, cap, cur, e, hb, hg, _⟩
  · subst e
    have : rowOf w p = p := by unfold rowOf; rw [hv]
    omega
  · subst e
    rw [rowOf_cell hv]
    have := (hown.lt g rfl).2
    omega
theorem Kept.below {p B c N : Nat} {w w' : World} (h : Kept p w w') (hW : WAt w p c N) (hB : B ≤ p) : Below B w w' :=
  ⟨h.os, h.tape, h.output, h.size, fun k hk => h.block k (by have := hW.lt; omega) (by omega) (by have := hW.row.1; omega)⟩
theorem WAt.below {w w' : World} {p c N : Nat} (h : WAt w p c N) (hb : Below w.heap.size w w') : WAt w' p c N := by
  have hl := h.lt
  obtain ⟨⟨v, hv, hown⟩, hcnt, f0, f1, hfit, hsm⟩ := h
  refine ⟨⟨v, (hb.cell hl).trans hv, ?_⟩, (hb.cell hl).trans hcnt, (hb.frozen hl).trans f0, (hb.frozen hl).trans f1, hfit, hsm⟩
  refine hown.kept (row := none) ⟨hb.os, hb.tape, hb.output, hb.size, fun k hk _ => hb.block k hk⟩ ?_
  cases v.ownBlock with
  | none => exact .inl rfl
  | some k => exact .inr (by simp)
theorem Kept.of_below {w w' : World} {p c N : Nat} (h : WAt w p c N) (hb : Below w.heap.size w w') : Kept p w w' :=
  ⟨hb.os, hb.tape, hb.output, hb.size, fun k hk _ _ => hb.block k hk, .inl (rowOf_same (hb.cell h.lt)), fun _ _ => ⟨hb.cell h.lt, hb.frozen h.lt⟩⟩
theorem readable_yes (n : Nat) (w : World) (h : n ≤ 32) :
    Calls Tryz.prog 145 #[.int .i64 (n : Int)] w fun e w' => e = .returned (.bool true) ∧ w' = w := by
  have h1 : decide ((0 : Int) ≤ (n : Int)) = true := by simp
  have h2 : decide ((n : Int) ≤ 32) = true := by simp; omega
  go_enter Tryz.func145, Tryz.ntmps145
  go_wp2
  go_ret
  exact ⟨rfl, rfl⟩
theorem fits_in (n d : Nat) (b : Bool) (w : World) (hd : d ≤ 32) (hb : decide (n / 2 ^ d = 0) = b) :
    Calls Tryz.prog 160 #[.int .u32 (n : Int), .int .i64 (d : Int)] w fun e w' => e = .returned (.bool b) ∧ w' = w := by
  go_enter Tryz.func160, Tryz.ntmps160
  go_wp2_with fail
  refine (readable_yes d _ hd).mono ?_; rintro e w1 ⟨rfl, rfl⟩
  have hq : (n : Int) / 2 ^ d = ((n / 2 ^ d : Nat) : Int) := by simp
  have hq2 : (((n / 2 ^ d : Nat) : Int) == 0) = b := by
    rw [← hb]
    generalize n / 2 ^ d = q
    by_cases h : q = 0 <;> simp [h]
  clear hb
  generalize n / 2 ^ d = q at *
  go_wp2
  go_ret
  exact ⟨rfl, rfl⟩
theorem and_low (c : Nat) (h : c < 4294967296) : bits .and .u32 (c : Int) 1 = ((c % 2 : Nat) : Int) := by
  have := u32_and_nat c 1 h (by omega)
  rw [nat_mask1] at this
  exact this
/-- What is stored into the byte that is not yet full. -/
theorem bit_in (x r n : Nat) (hr : r < 8) (hx : x < 2 ^ r) (hn : n < 4294967296) :
    bits .or .u8 ((x : Int) % 256) (bits .and .u32 (n : Int) 1 % 256 * 2 ^ r % 256) = ((UInt8.ofNat (x + 2 ^ r * (n % 2))).toNat : Int) := by
  have hp := Bt.pow_le_128 r hr
  rw [and_low n hn]
  have hb : n % 2 < 2 := Nat.mod_lt _ (by omega)
  generalize n % 2 = b at *
  have hor := Bt.or_above x b r hx
  rw [show ((2 : Int) ^ r) = ((2 ^ r : Nat) : Int) from by simp]
  generalize 2 ^ r = p at *
  have hpb : p * b ≤ 128 := by
    have := Nat.mul_le_mul hp (show b ≤ 1 by omega)
    omega
  rw [UInt8.toNat_ofNat', show (x + p * b) % 2 ^ 8 = x + p * b from by omega, ← hor]
  have hc : ((b : Nat) : Int) % 256 * (p : Int) % 256 = ((p * b : Nat) : Int) := by
    rw [show ((b : Nat) : Int) % 256 = ((b : Nat) : Int) from by omega, ← Int.natCast_mul, Nat.mul_comm b p]
    omega
  rw [hc, show (x : Int) % 256 = (x : Int) from by omega]
  exact u8_or_nat x (p * b) (by omega) (by omega)
theorem one_end (w : World) (p c N g q cap n r x : Nat) (hg : p + 1 ≤ g) (hq : q = c / 8) (hr : r = c % 8) (hx : x = N / 256 ^ q) (hn : n < 4294967296) (hc : c < 4000000) (hfit : N < 2 ^ c)
    (hown : w.ownsRow (p + 1) 5 1 (.slice (some ⟨g, 0, none⟩) (q + 1) cap) (q + 1) (byteVals (Bt.yl (q + 1) N)))
    (hv : w.cell? ⟨p, 0, none⟩ = some (.slice (some ⟨g, 0, none⟩) (q + 1) cap)) (hcnt : w.cell? ⟨p, 1, none⟩ = some (.int .i64 (c : Int))) (f0 : w.frozen? ⟨p, 0, none⟩ = false) (f1 : w.frozen? ⟨p, 1, none⟩ = false) :
    WAt ((w.setCell ⟨g, q, none⟩ (.int .u8 (bits .or .u8 ((x : Int) % 256) (bits .and .u32 (n : Int) 1 % 256 * 2 ^ r % 256)))).setCell ⟨p, 1, none⟩ (.int .i64 ((c : Int) + 1))).drew p (c + 1) (N + 2 ^ c * (n % 2)) ∧
      Kept p w ((w.setCell ⟨g, q, none⟩ (.int .u8 (bits .or .u8 ((x : Int) % 256) (bits .and .u32 (n : Int) 1 % 256 * 2 ^ r % 256)))).setCell ⟨p, 1, none⟩ (.int .i64 ((c : Int) + 1))).drew := by
  have hb : n % 2 < 2 := Nat.mod_lt _ (by omega)
  have hdv : x < 2 ^ r := by rw [hx, hr, hq]; exact Bt.div_byte c N hfit
  rw [bit_in x r n (by omega) hdv hn]
  have hst := (hown.stored q (.int .u8 ((UInt8.ofNat (x + 2 ^ r * (n % 2))).toNat : Int))).1
  generalize hW1 : w.setCell ⟨g, q, none⟩ (.int .u8 ((UInt8.ofNat (x + 2 ^ r * (n % 2))).toNat : Int)) = w1 at *
  have k0 : w1.cell? ⟨p, 0, none⟩ = some (.slice (some ⟨g, 0, none⟩) (q + 1) cap) := by
    rw [← hW1, World.cell?_setCell_other _ _ _ _ (by intro e; injection e with e1; omega)]; exact hv
  have k1 : w1.cell? ⟨p, 1, none⟩ = some (.int .i64 (c : Int)) := by
    rw [← hW1, World.cell?_setCell_other _ _ _ _ (by intro e; injection e with e1; omega)]; exact hcnt
  have hblk : ∀ k, k ≠ g → w1.heap[k]? = w.heap[k]? := fun k hk => by rw [← hW1]; exact Below.heap_setCell _ _ _ _ hk
  have hs1 : w1.heap.size = w.heap.size := by rw [← hW1]; simp [World.setCell]
  have ho1 : w1.os = w.os ∧ w1.tape = w.tape ∧ w1.output = w.output := by rw [← hW1]; exact ⟨rfl, rfl, rfl⟩
  have z0 : w1.frozen? ⟨p, 0, none⟩ = false := by rw [← hW1, World.frozen?_setCell]; exact f0
  have z1 : w1.frozen? ⟨p, 1, none⟩ = false := by rw [← hW1, World.frozen?_setCell]; exact f1
  refine ⟨⟨⟨.slice (some ⟨g, 0, none⟩) (q + 1) cap, ?_, ?_⟩, ?_, ?_, ?_, ?_, by omega⟩, ⟨ho1.1, ho1.2.1, ho1.2.2, ?_, ?_, ?_, ?_⟩⟩
  · show (w1.setCell _ _).cell? _ = _
    rw [World.cell?_setCell_other _ _ _ _ (by intro e; injection e with _ e2; omega)]; exact k0
  · show (w1.setCell _ _).ownsRow _ _ _ _ _ _
    rw [show (c + 1 + 7) / 8 = q + 1 from by omega, Bt.yl_bit _ _ _ _ hfit hb, ← byteVals_set, ← hr, ← hq, ← hx]
    exact ownsRow_setCell_below hst (by show p < p + 1; omega) _
  · show (w1.setCell _ _).cell? _ = _
    rw [World.cell?_setCell_same _ _ _ k1]
    rfl
  · show (w1.setCell _ _).frozen? _ = _
    rw [World.frozen?_setCell]; exact z0
  · show (w1.setCell _ _).frozen? _ = _
    rw [World.frozen?_setCell]; exact z1
  · exact Bt.lt_more c 1 N (n % 2) hfit (by simpa using hb)
  · show w.heap.size ≤ (w1.setCell _ _).heap.size
    simp [World.setCell, hs1]
  · intro k hk h1 h2
    rw [rowOf_cell hv] at h2
    show (w1.setCell _ _).heap[k]? = _
    rw [Below.heap_setCell _ _ _ _ h1, hblk k h2]
  · left
    refine rowOf_same ?_
    show (w1.setCell _ _).cell? _ = _
    rw [World.cell?_setCell_other _ _ _ _ (by intro e; injection e with _ e2; omega), k0, hv]
  · intro j hj
    refine ⟨?_, ?_⟩
    · show (w1.setCell _ _).cell? _ = _
      rw [World.cell?_setCell_other _ _ _ _ (by intro e; injection e with _ e2; omega), ← hW1, World.cell?_setCell_other _ _ _ _ (by intro e; injection e with e1; omega)]
    · show (w1.setCell _ _).frozen? _ = _
      rw [World.frozen?_setCell, ← hW1, World.frozen?_setCell]
theorem one_old (p c N n : Nat) (w : World) (hW : WAt w p c N) (h8 : c % 8 ≠ 0) (hn : n < 4294967296) (hc : c < 4000000) :
    Calls Tryz.prog 161 #[.pointer (some ⟨p, 0, none⟩), .int .u32 (n : Int)] w fun e w' => e = .returned (.tuple #[]) ∧ WAt w' p (c + 1) (N + 2 ^ c * (n % 2)) ∧ Kept p w w' := by
  obtain ⟨⟨v, hv, hown⟩, hcnt, f0, f1, hfit, hsm⟩ := hW
  obtain ⟨g, cap, rfl, hg, hgl⟩ := hown.form (by omega)
  obtain ⟨r, hr⟩ : ∃ r, r = c % 8 := ⟨_, rfl⟩
  obtain ⟨q, hq⟩ : ∃ q, q = c / 8 := ⟨_, rfl⟩
  have hr1 : (c : Int) % 8 = (r : Int) := by omega
  have hm : (c + 7) / 8 = q + 1 := by omega
  rw [hm] at hown hv
  have hcell := hown.cellAt q (by omega)
  have hfrz := hown.frozenAt q
  rw [byteVals_at, Bt.yl_at _ _ _ (by omega)] at hcell
  have hne : ((r : Int) == 0) = false := by simp; omega
  have hql : ((q + 1 : Nat) : Int) - 1 = (q : Int) := by omega
  have Hr := hide hr
  have Hq := hide hq
  have Hown := hide hown
  have Hm := hide hm
  have hx : N / 256 ^ q < 2 ^ r := by rw [hr, hq]; exact Bt.div_byte c N hfit
  have hrl : r < 8 := by omega
  have hqb : (q : Int) < 1000000 := by omega
  obtain ⟨x, hxx⟩ : ∃ x, x = N / 256 ^ q := ⟨_, rfl⟩
  have Hxx := hide hxx
  rw [← hxx] at hcell
  clear hr hq hown hm hxx hx
  go_enter Tryz.func161, Tryz.ntmps161
  go_wp2
  go_region
  go_wp2
  go_end0
  exact ⟨rfl, one_end w p c N g q cap n r x hg (unhide Hq) (unhide Hr) (unhide Hxx) hn hc hfit (unhide Hown) hv hcnt f0 f1⟩
theorem one_new (p c N n : Nat) (w : World) (hW : WAt w p c N) (h8 : c % 8 = 0) (hn : n < 4294967296) (hc : c < 4000000) :
    Calls Tryz.prog 161 #[.pointer (some ⟨p, 0, none⟩), .int .u32 (n : Int)] w fun e w' => e = .returned (.tuple #[]) ∧ WAt w' p (c + 1) (N + 2 ^ c * (n % 2)) ∧ Kept p w w' := by
  obtain ⟨i0, hi, hz0, hz1, hz2⟩ := info_parts info_u8
  obtain ⟨⟨v, hv, hown⟩, hcnt, f0, f1, hfit, hsm⟩ := hW
  obtain ⟨q, hq⟩ : ∃ q, q = c / 8 := ⟨_, rfl⟩
  have hm : (c + 7) / 8 = q := by omega
  rw [hm] at hown
  have hp : p < w.heap.size := World.block_lt_of_cell? _ _ hv
  have hr1 : (c : Int) % 8 = 0 := by omega
  have Hown := hide hown
  have hown2 := hown.alloc (.cells #[.int .u8 0] 5)
  have Hq := hide hq
  have Hi := hide hi
  have Hz0 := hide hz0
  have Hz1 := hide hz1
  have Hz2 := hide hz2
  have Hn2 := hide hown2
  have hqb : q < 1000000 := by omega
  clear hown hm hq hi hz0 hz1 hz2 hown2
  go_enter Tryz.func161, Tryz.ntmps161
  go_wp2_with (at_builtin; refine wpList_append_lies _ rfl (.tmp 16) (.tmp 17) 54 rfl (p + 1) 5 i0 (.int .u8 0) 1 1 Tryz.underlying54 (unhide Hi) (unhide Hz0) (unhide Hz1) (unhide Hz2) rfl (by omega) v q _ rfl (unhide Hn2) ⟨w.heap.size, 0, none⟩ 1 1 [.int .u8 0] rfl rfl (by intro j u hj; match j, hj with | 0, hj => simp at hj; subst hj; simp [Addr.add]) (by intro u hu; simp at hu; subst hu; rfl) (by omega) (by unfold maxLen; omega) (by omega) (by simp; omega) _ rfl ?_)
  intro g cap w1 hown1 hgrow hat hlt
  have hgp : p + 1 ≤ g := by
    rcases hat with e | e
    · exact ((unhide Hown).lt g e).1
    · omega
  have hrow : ∀ k, v.ownBlock = some k → p + 1 ≤ k := fun k e => ((unhide Hown).lt k e).1
  have hnp : some p ≠ v.ownBlock := fun e => by have := hrow p e.symm; omega
  have hsz1 : (w.alloc (.cells #[.int .u8 0] 5)).heap.size = w.heap.size + 1 := by simp
  have cell1 : ∀ j, w1.cell? ⟨p, j, none⟩ = w.cell? ⟨p, j, none⟩ := fun j => by
    rw [hgrow.cell_far ⟨p, j, none⟩ (by rw [hsz1]; show p < _; omega) hnp]
    exact World.cell?_of_block (Below.heap_alloc _ _ _ hp)
  have frz1 : ∀ j, w1.frozen? ⟨p, j, none⟩ = w.frozen? ⟨p, j, none⟩ := fun j => by
    rw [hgrow.frozen_far ⟨p, j, none⟩ (by rw [hsz1]; show p < _; omega) hnp]
    exact World.frozen?_of_block (Below.heap_alloc _ _ _ hp)
  have c0 := (cell1 0).trans hv
  have c1 := (cell1 1).trans hcnt
  have z0 := (frz1 0).trans f0
  have z1 := (frz1 1).trans f1
  have hblk1 : ∀ k, k < w.heap.size → k ≠ rowOf w p → w1.heap[k]? = w.heap[k]? := fun k hk h2 => by
    rw [hgrow.block k (by rw [hsz1]; omega) (fun e => h2 (rowOf_own hv e.symm).symm)]
    exact Below.heap_alloc _ _ _ hk
  have hrow1 : g = rowOf w p ∨ w.heap.size ≤ g := by
    rcases hat with e | e
    · exact .inl (rowOf_own hv e).symm
    · exact .inr (by omega)
  have hsz2 : w.heap.size ≤ w1.heap.size := by have := hgrow.size; omega
  have hos1 : w1.os = w.os ∧ w1.tape = w.tape ∧ w1.output = w.output := ⟨hgrow.os, hgrow.tape, hgrow.output⟩
  have hpow : N < 256 ^ q := by rw [Bt.pow256, show 8 * q = c from by have := unhide Hq; omega]; exact hfit
  have hy : byteVals (Bt.yl q N) ++ [Value.int .u8 0] = byteVals (Bt.yl (q + 1) N) := by
    rw [← Bt.yl_nought q N hpow, byteVals_append]; rfl
  rw [hy] at hown1
  have hown3 := ownsRow_setCell_below hown1 (show (⟨p, 0, none⟩ : Addr).block < p + 1 by show p < p + 1; omega) (.slice (some ⟨g, 0, none⟩) (q + 1) cap)
  have hcell := hown3.cellAt q (by omega)
  have hfrz := hown3.frozenAt q
  rw [byteVals_at, Bt.yl_at _ _ _ (by omega), Nat.div_eq_of_lt hpow] at hcell
  have hcell : (w1.setCell ⟨p, 0, none⟩ (.slice (some ⟨g, 0, none⟩) (q + 1) cap)).cell? ⟨g, q, none⟩ = some (.int .u8 0) := hcell
  have Hown3 := hide hown3
  have hrest : ∀ j, 2 ≤ j → (w1.setCell ⟨p, 0, none⟩ (.slice (some ⟨g, 0, none⟩) (q + 1) cap)).cell? ⟨p, j, none⟩ = w.cell? ⟨p, j, none⟩ ∧ (w1.setCell ⟨p, 0, none⟩ (.slice (some ⟨g, 0, none⟩) (q + 1) cap)).frozen? ⟨p, j, none⟩ = w.frozen? ⟨p, j, none⟩ := fun j hj => by
    rw [World.cell?_setCell_other _ _ _ _ (by intro e; injection e with _ e2; omega), World.frozen?_setCell]
    exact ⟨cell1 j, frz1 j⟩
  clear cell1 frz1 hown1 hown3 hgrow hat hlt hrow hnp hy hv hcnt f0 f1
  have d0 : (w1.setCell ⟨p, 0, none⟩ (.slice (some ⟨g, 0, none⟩) (q + 1) cap)).cell? ⟨p, 0, none⟩ = some (.slice (some ⟨g, 0, none⟩) (q + 1) cap) := World.cell?_setCell_same _ _ _ c0
  have d1 : (w1.setCell ⟨p, 0, none⟩ (.slice (some ⟨g, 0, none⟩) (q + 1) cap)).cell? ⟨p, 1, none⟩ = some (.int .i64 (c : Int)) := by rw [World.cell?_setCell_other _ _ _ _ (by intro e; injection e with _ e2; omega)]; exact c1
  have y0 : (w1.setCell ⟨p, 0, none⟩ (.slice (some ⟨g, 0, none⟩) (q + 1) cap)).frozen? ⟨p, 0, none⟩ = false := by rw [World.frozen?_setCell]; exact z0
  have y1 : (w1.setCell ⟨p, 0, none⟩ (.slice (some ⟨g, 0, none⟩) (q + 1) cap)).frozen? ⟨p, 1, none⟩ = false := by rw [World.frozen?_setCell]; exact z1
  have hbel3 : Kept p w (w1.setCell ⟨p, 0, none⟩ (.slice (some ⟨g, 0, none⟩) (q + 1) cap)) := by
    refine ⟨hos1.1, hos1.2.1, hos1.2.2, by simpa [World.setCell] using hsz2, fun k hk h1 h2 => ?_, ?_, hrest⟩
    · rw [Below.heap_setCell _ _ _ _ h1, hblk1 k hk h2]
    · rw [rowOf_cell d0]; exact hrow1
  clear hblk1 hrow1 hsz2 hos1 hrest
  have hql : ((q + 1 : Nat) : Int) - 1 = (q : Int) := by omega
  have hqi : (q : Int) < 1000000 := by omega
  go_wp2
  clear c0 c1 z0 z1
  generalize w1.setCell ⟨p, 0, none⟩ (.slice (some ⟨g, 0, none⟩) (q + 1) cap) = w2 at *
  go_region
  go_wp2
  go_end0
  have hx : (0 : Nat) = N / 256 ^ q := (Nat.div_eq_of_lt hpow).symm
  obtain ⟨h1, h2⟩ := one_end w2 p c N g q cap n 0 0 hgp (unhide Hq) h8.symm hx hn hc hfit (unhide Hown3) d0 d1 y0 y1
  have e1 : bits .and .u32 (n : Int) 1 % 256 * 2 ^ 0 % 256 = bits .and .u32 (n : Int) 1 % 256 := by
    generalize bits .and .u32 (n : Int) 1 = y
    simp
  have e2 : ((0 : Nat) : Int) % 256 = 0 := rfl
  rw [e1, e2] at h1 h2
  exact ⟨rfl, h1, hbel3.trans h2⟩
theorem one_any (p c N n : Nat) (w : World) (hW : WAt w p c N) (hn : n < 4294967296) (hc : c < 4000000) :
    Calls Tryz.prog 161 #[.pointer (some ⟨p, 0, none⟩), .int .u32 (n : Int)] w fun e w' => e = .returned (.tuple #[]) ∧ WAt w' p (c + 1) (N + 2 ^ c * (n % 2)) ∧ Kept p w w' := by
  by_cases h8 : c % 8 = 0
  · exact one_new p c N n w hW h8 hn hc
  · exact one_old p c N n w hW h8 hn hc
end Go.Proofs.YtfeljhikeddodadGreatDoor
