/- Unlike pixels counted: the program's. -/
import Derived.Test.YtjcoahahponabaaGreatDoorMh17
import Derived.Test.YtjcoahahponabaaGreatDoorTk1
import Derived.Test.YtjcoahahponabaaGreatDoorMh19
import Derived.Deep.CutBlock
namespace Go.Proofs.YtjcoahahponabaaGreatDoor
open Go.RowKit

theorem make_n0 (n : Nat) (hn : n ≤ 100000) (w : World) : (Instr.makeSlice 96 (.int .i64 0) (.int .i64 (n : Int))).run Tryz.prog w = .ok (.slice (some ⟨w.heap.size, 0, none⟩) 0 n) (w.alloc (.cells (madeCells #[.int .i64 0] n) 3)) := by
  obtain ⟨i0, hi, hz0, hz1, hz2⟩ := info_parts info_int
  have hr := run_make (P := Tryz.prog) w 96 3 i0 (.int .i64 0) Tryz.underlying96 hi hz0 .i64 .i64 0 n (by omega) (by omega) (by rw [hz2]; omega) (by omega)
  rw [hz1] at hr
  simpa [Value.cells] using hr
/-- What a round ends in: one more use stored. -/
structure Put1 (w w' : World) (B g : Nat) (p : Nat → Px) (i : Nat) (lu : Nat) (c : Nat) : Prop where
  row : w'.ownsRow (B + 1) 212 5 (.slice (some ⟨g, 0, none⟩) lu c) lu (usL (ucnt p (i + 1)))
  grown : w.grownBy w' (some g)
theorem put1 {w : World} {B g lu c i k t : Nat} {p : Nat → Px} (h : w.ownsRow (B + 1) 212 5 (.slice (some ⟨g, 0, none⟩) lu c) lu (usL (cntH p (i + 1) i))) (hk : nmb p i = k) (ht : tms p i (p i) = t) :
    Put1 w (w.setCell ⟨g, k * 5 + 4, none⟩ (.int .i64 ((t : Int) + 1))) B g p i lu c := by
  obtain ⟨h1, h2⟩ := h.stored (k * 5 + 4) (.int .i64 ((t : Int) + 1))
  refine ⟨?_, h2⟩
  have hl := cntH_lt p i
  rw [hk] at hl
  have e := usL_set (cntH p (i + 1) i) k (t + 1) hl
  have e2 : (.int .i64 (((t + 1 : Nat)) : Int) : Value) = .int .i64 ((t : Int) + 1) := rfl
  rw [e2] at e
  rw [e] at h1
  have e3 := ucnt_succ p i
  have ha := cntH_at p i
  rw [hk, List.getElem?_eq_getElem hl] at ha
  injection ha with ha
  rw [hk, ht] at e3
  rw [ha] at h1
  rw [e3] at h1
  exact h1
theorem at_use {w : World} {B g lu c i k t : Nat} {p : Nat → Px} (h : w.ownsRow (B + 1) 212 5 (.slice (some ⟨g, 0, none⟩) lu c) lu (usL (cntH p (i + 1) i))) (hk : nmb p i = k) (ht : tms p i (p i) = t) (hl : lu = (ulk p (i + 1)).length) :
    k < lu ∧ w.cell? ⟨g, k * 5 + 4, none⟩ = some (.int .i64 (t : Int)) ∧ w.frozen? ⟨g, k * 5 + 4, none⟩ = false := by
  have hlt := cntH_lt p i
  rw [hk] at hlt
  have hll : (cntH p (i + 1) i).length = lu := by rw [cntH_length, hl]
  refine ⟨by omega, ?_, h.frozenAt _⟩
  have hu := (own_usAt h k hlt hll).t
  have ha := cntH_at p i
  rw [hk, List.getElem?_eq_getElem hlt] at ha
  injection ha with ha
  rw [ha] at hu
  rw [hu, ← ht]
theorem grown_to {w w' : World} {B : Nat} {row : Option Nat} {w0 : World} (hb : Below B w0 w) (hg : w.grownBy w' row) (hr : ∀ k, row = some k → B < k) (hB : B + 1 ≤ w.heap.size) : Below B w0 w' ∧ B + 1 ≤ w'.heap.size := by
  refine ⟨hb.grown hg (by omega) (fun k e => by have := hr k e; omega), ?_⟩
  have := hg.size
  omega

set_option maxHeartbeats 4000000 in
set_option maxRecDepth 100000 in
theorem counted_any (a : Option Addr) (n c : Nat) (p : Nat → Px) (w : World) (hP : IsPx w a n p) (hn : n ≤ 70000) :
    Calls Tryz.prog 118 #[.slice a n c] w fun e w' => ∃ a1 c1 a2 c2, e = .returned (.tuple #[.slice a1 (ulk p n).length c1, .slice a2 n c2]) ∧ (w'.ownsRow w.heap.size 212 5 (.slice a1 (ulk p n).length c1) (ulk p n).length (usL (ucnt p n)) ∧ w'.ownsRow w.heap.size 3 1 (.slice a2 n c2) n (nV (nmL p n))) ∧ Below w.heap.size w w' := by
  have hmm := @run_makeMap Tryz.prog
  have hmk := make_n0 n (by omega)
  have HP := hide (fun w1 (h : Below w.heap.size w w1) => hP.below h)
  have HA := hide (al2 w (.map #[] 0) (.cells (madeCells #[.int .i64 0] n) 3))
  have HM0 : Hid (LQ ((w.alloc (.map #[] 0)).alloc (.cells (madeCells #[.int .i64 0] n) 3)) w.heap.size 0 (told1 (ulk p 0))) := (LQ.made w).same (Below.heap_alloc _ _ _ (by simp))
  have HN0 : Hid (((w.alloc (.map #[] 0)).alloc (.cells (madeCells #[.int .i64 0] n) 3)).ownsRow (w.heap.size + 1) 3 1 (.slice (some ⟨w.heap.size + 1, 0, none⟩) 0 n) (nmL p 0).length (nV (nmL p 0))) := by
    have h := World.ownsRow_made (w.alloc (.map #[] 0)) (madeCells #[.int .i64 0] n) n (base := w.heap.size + 1) (e := 3) (size := 1) (by simp) (by unfold maxLen; omega) (by simp [madeCells])
    have e : (w.alloc (.map #[] 0)).heap.size = w.heap.size + 1 := by simp
    rw [e] at h
    exact h
  obtain ⟨B, hB⟩ : ∃ B, B = w.heap.size := ⟨_, rfl⟩
  clear hP
  go_enter Tryz.func118, Tryz.ntmps118
  go_wp2
  generalize (w.alloc (.map #[] 0)).alloc (.cells (madeCells #[.int .i64 0] n) 3) = w2 at *
  rw [← hB] at HA HP HM0 HN0 ⊢
  obtain ⟨hs2, _, _, hb2⟩ := unhide HA
  have HU0 : Hid (w2.ownsRow (B + 1) 212 5 (.slice none 0 0) (ulk p 0).length (usL (ucnt p 0))) := World.ownsRow_nil _ _ _ _
  have HAP0 : Hid (∀ g, (Value.slice none 0 0).ownBlock = some g → (Value.slice (some ⟨B + 1, 0, none⟩) 0 n).ownBlock ≠ some g) := fun g e => by simp [Value.ownBlock] at e
  have HB0 := hide hb2
  have HBE := hide hB
  have hz2 : B + 1 ≤ w2.heap.size := by omega
  clear HA hb2 hB hs2 hmm hmk
  go_loopw [2, 3, 15] (fun uv nv iv wr => ∃ i nn : Nat, i ≤ n ∧ nn ≤ i ∧ iv = .int .i64 (i : Int) ∧ Hid (wr.ownsRow (B + 1) 212 5 uv (ulk p i).length (usL (ucnt p i))) ∧ Hid (wr.ownsRow (B + 1) 3 1 nv (nmL p i).length (nV (nmL p i))) ∧ Hid (LQ wr B nn (told1 (ulk p i))) ∧ Hid (∀ g, uv.ownBlock = some g → nv.ownBlock ≠ some g) ∧ Hid (Below B w wr) ∧ B + 1 ≤ wr.heap.size) (fun _ _ iv _ => n - (intOf iv).toNat)
  case atStart => exact ⟨0, 0, Nat.zero_le _, Nat.le_refl _, rfl, HU0, HN0, HM0, HAP0, HB0, hz2⟩
  case round =>
    clear HU0 HN0 HM0 HAP0 HB0 hz2
    obtain ⟨i, nn, hi, hnn, rfl, HU, HN, HM, HAP, HB, hz⟩ := hrel
    obtain ⟨ua, uc, rfl⟩ := own_shape5 (unhide HU)
    obtain ⟨na, nc, rfl, _⟩ := own_shape (unhide HN)
    have hul := ulk_len p i
    by_cases hlt : i < n
    · have d1 : decide ((i : Int) < (n : Int)) = true := decide_eq_true (by omega)
      have d1n : decide (i < n) = true := decide_eq_true hlt
      have hii : (i : Int) < (n : Int) := by omega
      obtain ⟨ni, hni⟩ : ∃ ni, ni = (nmL p i).length := ⟨_, rfl⟩
      rw [← hni] at HN HAP ⊢
      have HNI := hide hni
      have hnib : ni ≤ 70000 := by rw [hni, nmL_length]; omega
      clear hni
      obtain ⟨bP, oP, rfl, _, hcP⟩ := (unhide HP wr (unhide HB)).resolve_left (by omega)
      have hX := hcP i hlt
      obtain ⟨x0, x1, x2, x3⟩ := hX
      obtain ⟨k, hk⟩ : ∃ k, nmb p i = k := ⟨_, rfl⟩
      obtain ⟨t, ht⟩ : ∃ t, tms p i (p i) = t := ⟨_, rfl⟩
      have htb : t ≤ 70000 := by have := tms_le p i (p i); omega
      have HK := hide hk
      have HT := hide ht
      have HUN : Hid (ulk p (i + 1) = addP (ulk p i) (p i)) := rfl
      have HNS := hide (nmL_succ p i)
      obtain ⟨x, hx⟩ : ∃ x, x = p i := ⟨_, rfl⟩
      have HX := hide hx
      rw [← hx] at x0 x1 x2 x3
      have HA1 := hide (al1 wr (.cells #[.int .u8 (x.r.toNat : Int), .int .u8 (x.g.toNat : Int), .int .u8 (x.b.toNat : Int), .int .u8 (x.a.toNat : Int)] 78))
      have hMA := (unhide HM).same (w' := wr.alloc (.cells #[.int .u8 (x.r.toNat : Int), .int .u8 (x.g.toNat : Int), .int .u8 (x.b.toNat : Int), .int .u8 (x.a.toNat : Int)] 78)) (Below.heap_alloc _ _ _ (unhide HM).lt)
      have hlk := hMA.look x
      unfold Px.val at hlk
      have HMA := hide hMA
      obtain ⟨y0, y1, y2, y3⟩ := four_new wr x 78
      clear hcP hMA hk ht
      by_cases hm : x ∈ ulk p i
      · have hku : (ulk p i).idxOf x = k := by
          have := unhide HK
          unfold nmb at this
          rw [unhide HUN, ← hx] at this
          rw [addP_keep hm] at this
          exact this
        rw [told1_old _ x hm, hku] at hlk
        simp only [Option.getD_some, Option.isSome_some] at hlk
        have hulE : ulk p (i + 1) = ulk p i := by rw [unhide HUN, ← hx]; unfold addP; rw [if_pos hm]
        have hcH : cntH p (i + 1) i = ucnt p i := cntH_old p i (by rw [← hx]; exact hm)
        obtain ⟨lu, hlu⟩ : ∃ lu, lu = (ulk p i).length := ⟨_, rfl⟩
        have hl0 : 0 < (ulk p i).length := List.length_pos_of_mem hm
        obtain ⟨g, rfl, _, _⟩ := own_some (unhide HU) hl0
        have HL : Hid (lu = (ulk p (i + 1)).length) := by show _ = _; rw [hulE]; exact hlu
        have HU3 : Hid ((wr.alloc (.cells #[.int .u8 (x.r.toNat : Int), .int .u8 (x.g.toNat : Int), .int .u8 (x.b.toNat : Int), .int .u8 (x.a.toNat : Int)] 78)).ownsRow (B + 1) 212 5 (.slice (some ⟨g, 0, none⟩) lu uc) lu (usL (cntH p (i + 1) i))) := by
          have h := (unhide HU).alloc (.cells #[.int .u8 (x.r.toNat : Int), .int .u8 (x.g.toNat : Int), .int .u8 (x.b.toNat : Int), .int .u8 (x.a.toNat : Int)] 78)
          show World.ownsRow _ _ _ _ _ _ _
          rw [hcH, hlu]
          exact h
        have HN3 := hide ((unhide HN).alloc (.cells #[.int .u8 (x.r.toNat : Int), .int .u8 (x.g.toNat : Int), .int .u8 (x.b.toNat : Int), .int .u8 (x.a.toNat : Int)] 78))
        have HM3 : Hid (LQ (wr.alloc (.cells #[.int .u8 (x.r.toNat : Int), .int .u8 (x.g.toNat : Int), .int .u8 (x.b.toNat : Int), .int .u8 (x.a.toNat : Int)] 78)) B nn (told1 (ulk p (i + 1)))) := by show LQ _ _ _ _; rw [hulE]; exact unhide HMA
        have HB3 : Hid (Below B w (wr.alloc (.cells #[.int .u8 (x.r.toNat : Int), .int .u8 (x.g.toNat : Int), .int .u8 (x.b.toNat : Int), .int .u8 (x.a.toNat : Int)] 78))) := (unhide HB).alloc (by omega) _
        have hz3 : B + 1 ≤ (wr.alloc (.cells #[.int .u8 (x.r.toNat : Int), .int .u8 (x.g.toNat : Int), .int .u8 (x.b.toNat : Int), .int .u8 (x.a.toNat : Int)] 78)).heap.size := by simp; omega
        have HKN : Hid (nmb p i = k) := HK
        rw [← hlu] at HAP ⊢
        have HAP3 := HAP
        obtain ⟨cu, hcu⟩ : ∃ cu, cu = uc := ⟨_, rfl⟩
        subst hcu
        obtain ⟨nn3, hn3⟩ : ∃ q, q = nn := ⟨_, rfl⟩
        subst hn3
        clear hm hku hulE hcH hlu hl0 HU HN HM HMA HB HAP HUN HX hx
        go_upto_region 11 with fail
        generalize (wr.alloc (.cells #[.int .u8 (x.r.toNat : Int), .int .u8 (x.g.toNat : Int), .int .u8 (x.b.toNat : Int), .int .u8 (x.a.toNat : Int)] 78)) = wA at *
        obtain ⟨hk3, ct, cf⟩ := at_use (unhide HU3) (unhide HK) (unhide HT) (unhide HL)
        have hki : (k : Int) < (lu : Int) := by omega
        have dk : decide ((k : Int) < (lu : Int)) = true := decide_eq_true hki
        have HP1 := hide (put1 (unhide HU3) (unhide HK) (unhide HT))
        have HP2 := hide (put1 (unhide HU3) (unhide HK) (unhide HT))
        have hg3 := own_some (unhide HU3) (by omega)
        obtain ⟨g', hg', hgB, hgs⟩ := hg3
        obtain rfl : g = g' := by injection hg' with hg'; injection hg'
        clear hg'
        have hag : ∀ q, (Value.slice na ni nc).ownBlock = some q → q ≠ g := fun q e e2 => unhide HAP3 g rfl (by rw [e, e2])
        have HNP : Hid ((wA.setCell ⟨g, k * 5 + 4, none⟩ (.int .i64 ((t : Int) + 1))).ownsRow (B + 1) 3 1 (.slice na ni nc) ni (nV (nmL p i))) := own_stay (unhide HN3) (fun q e => (unhide HP1).grown.block q ((unhide HN3).lt q e).2 (fun e2 => hag q e (by injection e2)))
        have HMP : Hid (LQ (wA.setCell ⟨g, k * 5 + 4, none⟩ (.int .i64 ((t : Int) + 1))) B nn3 (told1 (ulk p (i + 1)))) := (unhide HM3).same ((unhide HP1).grown.block B (unhide HM3).lt (fun e => by injection e with e; omega))
        have HBP := hide (grown_to (unhide HB3) (unhide HP1).grown (fun q e => by injection e with e; omega) hz3)
        clear HP2
        have HRP : Hid ((wA.setCell ⟨g, k * 5 + 4, none⟩ (.int .i64 ((t : Int) + 1))).ownsRow (B + 1) 212 5 (.slice (some ⟨g, 0, none⟩) lu cu) lu (usL (ucnt p (i + 1)))) := (unhide HP1).row
        have hzs : (wA.setCell ⟨g, k * 5 + 4, none⟩ (.int .i64 ((t : Int) + 1))).heap.size = wA.heap.size := by simp [World.setCell]
        have HZS := hide hzs
        have HA4 := hide (al1 (wA.setCell ⟨g, k * 5 + 4, none⟩ (.int .i64 ((t : Int) + 1))) (.cells #[.int .i64 (k : Int)] 3))
        have HQ : Hid (((wA.setCell ⟨g, k * 5 + 4, none⟩ (.int .i64 ((t : Int) + 1))).alloc (.cells #[.int .i64 (k : Int)] 3)).cell? ⟨wA.heap.size, 0, none⟩ = some (.int .i64 (k : Int))) := by
          show _ = _
          rw [← unhide HZS, World.cell?_alloc_mark]
          rfl
        have HNQ := hide ((unhide HNP).alloc (.cells #[.int .i64 (k : Int)] 3))
        have hkb : k ≤ 70000 := by have := unhide HL; have := ulk_len p (i + 1); omega
        have htw : IntKind.i64.wrap ((t : Int) + 1) = (t : Int) + 1 := by rw [IntKind.wrap_i64]; omega
        clear HP1 hzs HU3 HN3 HM3 HB3 hag HK HT
        go_wp2_with (at_builtin; go_loud (refine wpList_appN2 _ rfl (.tmp 45) (.tmp 47) rfl (B + 1) wA.heap.size (.slice na ni nc) (nmL p i) k rfl rfl (by rw [← unhide HNI]; exact unhide HNQ) (unhide HQ) (by rw [← unhide HNI]; omega) (by have := (unhide HA4).size; have := unhide HZS; omega) ?_))
        intro v6 w6 ho6 hg6 hat6
        obtain ⟨hs4, _, hb4⟩ := unhide HA4
        rw [unhide HZS] at hs4
        have hz6 := hg6.size
        have hno : ∀ q, (Value.slice na ni nc).ownBlock = some q → B < q := fun q e => ((unhide HNP).lt q e).1
        have HN6 : Hid (w6.ownsRow (B + 1) 3 1 v6 (nmL p (i + 1)).length (nV (nmL p (i + 1)))) := by
          show World.ownsRow _ _ _ _ _ _ _
          rw [unhide HNS, unhide HKN]
          first | exact ho6 | (rw [List.length_append]; exact ho6)
        have hU5 := (unhide HRP).alloc (.cells #[.int .i64 (k : Int)] 3)
        have HU6 : Hid (w6.ownsRow (B + 1) 212 5 (.slice (some ⟨g, 0, none⟩) lu cu) (ulk p (i + 1)).length (usL (ucnt p (i + 1)))) := by
          show World.ownsRow _ _ _ _ _ _ _
          rw [← unhide HL]
          exact own_stay hU5 (fun q e => hg6.block q (hU5.lt q e).2 (fun e2 => unhide HAP3 q e e2.symm))
        have HM6 : Hid (LQ w6 B nn3 (told1 (ulk p (i + 1)))) := ((unhide HMP).same (Below.heap_alloc _ _ _ (unhide HMP).lt)).same (hg6.block B (by omega) (fun e => by have := hno B e.symm; omega))
        have hB5 := (unhide HBP).1.trans (hb4.mono (by have := (unhide HBP).2; omega))
        have HB6 : Hid (Below B w w6) := hB5.grown hg6 (by omega) (fun z e => by have := hno z e; omega)
        have HAP6 : Hid (∀ q, (Value.slice (some ⟨g, 0, none⟩) lu cu).ownBlock = some q → v6.ownBlock ≠ some q) := fun q e e6 => by
          rcases hat6 with z | z
          · rw [z] at e6; exact unhide HAP3 q e e6
          · rw [z] at e6
            injection e6 with e6
            have := (hU5.lt q e).2
            omega
        have hz7 : B + 1 ≤ w6.heap.size := by omega
        clear ho6 hg6 hat6 HNP HMP HBP HRP HZS HA4 HQ HNQ hU5 hB5 hno ct cf HAP3 hb4 hs4 hz6 HKN HL HNS HNI
        go_wp2
        go_roundw
        case rel => exact ⟨i + 1, nn3, by omega, by omega, by go_num, HU6, HN6, HM6, HAP6, HB6, hz7⟩
        case measure => simp [intOf]; omega
      · have hku : k = (ulk p i).length := by
          have := unhide HK
          unfold nmb at this
          rw [unhide HUN, ← hx] at this
          unfold addP at this
          rw [if_neg hm, idx_new hm] at this
          exact this.symm
        rw [told1_no _ x hm] at hlk
        simp only [Option.getD_none, Option.isSome_none, Int.natCast_zero] at hlk
        have hulE : ulk p (i + 1) = ulk p i ++ [x] := by rw [unhide HUN, ← hx]; unfold addP; rw [if_neg hm]
        have hcH : cntH p (i + 1) i = ucnt p i ++ [⟨x, 0⟩] := by rw [hx]; exact cntH_new p i (by rw [← hx]; exact hm)
        obtain ⟨wA, hwA⟩ : ∃ q, q = (wr.alloc (.cells #[.int .u8 (x.r.toNat : Int), .int .u8 (x.g.toNat : Int), .int .u8 (x.b.toNat : Int), .int .u8 (x.a.toNat : Int)] 78)) := ⟨_, rfl⟩
        obtain ⟨hsA, _, hbA⟩ := unhide HA1
        have hMA := unhide HMA
        rw [← hwA] at hMA hsA hbA
        obtain ⟨w4, hput, hM4, hg4⟩ := hMA.put x k (by omega) (by omega)
        unfold Px.val at hput
        have hM5 : LQ w4 B (nn + 1) (told1 (ulk p (i + 1))) := by
          refine hM4.congr (fun y => ?_)
          rw [unhide HUN, ← hx, told1_new _ x y hm, ← hku]
        have hA4 : ∀ q, q < wA.heap.size → q ≠ B → w4.heap[q]? = wA.heap[q]? := fun q h1 h2 => hg4.block q h1 (fun e => h2 (by injection e))
        have hz4 := hg4.size
        have y0 : w4.cell? ⟨wr.heap.size, 0, none⟩ = some (.int .u8 (x.r.toNat : Int)) := (World.cell?_of_block (a := ⟨wr.heap.size, 0, none⟩) (hA4 wr.heap.size (by omega) (by omega))).trans (by rw [hwA]; exact y0)
        have y1 : w4.cell? ⟨wr.heap.size, 1, none⟩ = some (.int .u8 (x.g.toNat : Int)) := (World.cell?_of_block (a := ⟨wr.heap.size, 1, none⟩) (hA4 wr.heap.size (by omega) (by omega))).trans (by rw [hwA]; exact y1)
        have y2 : w4.cell? ⟨wr.heap.size, 2, none⟩ = some (.int .u8 (x.b.toNat : Int)) := (World.cell?_of_block (a := ⟨wr.heap.size, 2, none⟩) (hA4 wr.heap.size (by omega) (by omega))).trans (by rw [hwA]; exact y2)
        have y3 : w4.cell? ⟨wr.heap.size, 3, none⟩ = some (.int .u8 (x.a.toNat : Int)) := (World.cell?_of_block (a := ⟨wr.heap.size, 3, none⟩) (hA4 wr.heap.size (by omega) (by omega))).trans (by rw [hwA]; exact y3)
        rw [hwA] at hput
        have hU4 : w4.ownsRow (B + 1) 212 5 (.slice ua (ulk p i).length uc) (ucnt p i).length (usL (ucnt p i)) := by
          rw [ucnt_length]
          exact own_stay (unhide HU) (fun q e => (hA4 q (by have := ((unhide HU).lt q e).2; omega) (by have := ((unhide HU).lt q e).1; omega)).trans (hbA.block q ((unhide HU).lt q e).2))
        have hN4 : w4.ownsRow (B + 1) 3 1 (.slice na ni nc) ni (nV (nmL p i)) := own_stay (unhide HN) (fun q e => (hA4 q (by have := ((unhide HN).lt q e).2; omega) (by have := ((unhide HN).lt q e).1; omega)).trans (hbA.block q ((unhide HN).lt q e).2))
        have hB4 : Below B w w4 := ((unhide HB).trans (hbA.mono (by omega))).grown hg4 (by omega) (fun z e => by injection e with e; omega)
        have HA5 := hide (al1 w4 (.cells #[.int .u8 (x.r.toNat : Int), .int .u8 (x.g.toNat : Int), .int .u8 (x.b.toNat : Int), .int .u8 (x.a.toNat : Int), .int .i64 0] 212))
        have HF5 : Hid (UsAt (w4.alloc (.cells #[.int .u8 (x.r.toNat : Int), .int .u8 (x.g.toNat : Int), .int .u8 (x.b.toNat : Int), .int .u8 (x.a.toNat : Int), .int .i64 0] 212)) w4.heap.size 0 ⟨x, 0⟩) := five_new w4 ⟨x, 0⟩ 212
        have HU4 := hide (hU4.alloc (.cells #[.int .u8 (x.r.toNat : Int), .int .u8 (x.g.toNat : Int), .int .u8 (x.b.toNat : Int), .int .u8 (x.a.toNat : Int), .int .i64 0] 212))
        have HN4 := hide (hN4.alloc (.cells #[.int .u8 (x.r.toNat : Int), .int .u8 (x.g.toNat : Int), .int .u8 (x.b.toNat : Int), .int .u8 (x.a.toNat : Int), .int .i64 0] 212))
        have HM4 : Hid (LQ (w4.alloc (.cells #[.int .u8 (x.r.toNat : Int), .int .u8 (x.g.toNat : Int), .int .u8 (x.b.toNat : Int), .int .u8 (x.a.toNat : Int), .int .i64 0] 212)) B (nn + 1) (told1 (ulk p (i + 1)))) := hM5.same (Below.heap_alloc _ _ _ hM5.lt)
        have HB4 : Hid (Below B w (w4.alloc (.cells #[.int .u8 (x.r.toNat : Int), .int .u8 (x.g.toNat : Int), .int .u8 (x.b.toNat : Int), .int .u8 (x.a.toNat : Int), .int .i64 0] 212))) := hB4.alloc (by omega) _
        have hz5 : B + 1 ≤ w4.heap.size := by omega
        have HNL : Hid (∀ q, (Value.slice na ni nc).ownBlock = some q → q < w4.heap.size) := fun q e => (hN4.lt q e).2
        have HCH := hide hcH
        have HUE := hide hulE
        have HKN : Hid (nmb p i = k) := HK
        have hkw : IntKind.i64.wrap (k : Int) = (k : Int) := by rw [IntKind.wrap_i64]; omega
        obtain ⟨lo, hlo⟩ : ∃ lo, lo = (ulk p i).length := ⟨_, rfl⟩
        have hkb0 : k ≤ 70000 := by omega
        rw [← hlo] at hku HU4 HAP ⊢
        subst hku
        have HLO := hide hlo
        clear hlo hwA hMA hM4 hM5 hg4 hA4 hsA hbA hU4 hN4 hB4 hcH hulE hm HU HN HM HMA HB HUN HX hx hz4 HA1
        go_wp2_with (at_builtin; go_loud (refine wpList_appUs _ rfl (.tmp 32) (.tmp 35) rfl (B + 1) w4.heap.size (.slice ua k uc) (ucnt p i) ⟨x, 0⟩ rfl rfl (unhide HU4) (unhide HF5) (by rw [ucnt_length, ← unhide HLO]; exact Nat.le_trans hkb0 (by omega)) (by have := (unhide HA5).size; omega) ?_))
        intro v5 w5 ho5 hg5 hat5
        obtain ⟨hs5, _, hb5⟩ := unhide HA5
        have hz6 := hg5.size
        obtain ⟨lu, hlu⟩ : ∃ lu, lu = (ulk p (i + 1)).length := ⟨_, rfl⟩
        have hll : (ucnt p i ++ [(⟨x, 0⟩ : Us)]).length = lu := by rw [← unhide HCH, cntH_length, hlu]
        have hl2 : (ucnt p i).length + 1 = lu := by rw [← hll]; simp
        first | rw [hll, ← unhide HCH] at ho5 | rw [hl2, ← unhide HCH] at ho5
        obtain ⟨a5, cu, rfl⟩ := own_shape5 ho5
        have hlp : 0 < lu := by rw [← hll]; simp
        obtain ⟨g, rfl, _, _⟩ := own_some ho5 hlp
        have HL := hide hlu
        have hno : ∀ q, (Value.slice ua k uc).ownBlock = some q → B < q := fun q e => ((unhide HU4).lt q e).1
        have HU3 := hide ho5
        have HN3 : Hid (w5.ownsRow (B + 1) 3 1 (.slice na ni nc) ni (nV (nmL p i))) := own_stay (unhide HN4) (fun q e => hg5.block q ((unhide HN4).lt q e).2 (fun e2 => unhide HAP q e2.symm e))
        have HM3 : Hid (LQ w5 B (nn + 1) (told1 (ulk p (i + 1)))) := (unhide HM4).same (hg5.block B (by omega) (fun e => by have := hno B e.symm; omega))
        have HB3 : Hid (Below B w w5) := (unhide HB4).grown hg5 (by omega) (fun z e => by have := hno z e; omega)
        have hz3 : B + 1 ≤ w5.heap.size := by omega
        have HAP3 : Hid (∀ q, (Value.slice (some ⟨g, 0, none⟩) lu cu).ownBlock = some q → (Value.slice na ni nc).ownBlock ≠ some q) := fun q e e6 => by
          rcases hat5 with z | z
          · rw [z] at e; exact unhide HAP q e e6
          · rw [z] at e
            injection e with e
            have := ((unhide HNL) q e6)
            omega
        obtain ⟨nn3, hn3⟩ : ∃ q, q = nn + 1 := ⟨_, rfl⟩
        rw [← hn3] at HM3
        clear ho5 hg5 hat5 hno HU4 HN4 HM4 HB4 HF5 HA5 HAP hs5 hb5 hz6 hll hl2 hlp hlu HCH HUE HLO y0 y1 y2 y3 hput
        obtain ⟨hk3, ct, cf⟩ := at_use (unhide HU3) (unhide HK) (unhide HT) (unhide HL)
        have hki : (k : Int) < (lu : Int) := by omega
        have dk : decide ((k : Int) < (lu : Int)) = true := decide_eq_true hki
        have HP1 := hide (put1 (unhide HU3) (unhide HK) (unhide HT))
        have HP2 := hide (put1 (unhide HU3) (unhide HK) (unhide HT))
        have hg3 := own_some (unhide HU3) (by omega)
        obtain ⟨g', hg', hgB, hgs⟩ := hg3
        obtain rfl : g = g' := by injection hg' with hg'; injection hg'
        clear hg'
        have hag : ∀ q, (Value.slice na ni nc).ownBlock = some q → q ≠ g := fun q e e2 => unhide HAP3 g rfl (by rw [e, e2])
        have HNP : Hid ((w5.setCell ⟨g, k * 5 + 4, none⟩ (.int .i64 ((t : Int) + 1))).ownsRow (B + 1) 3 1 (.slice na ni nc) ni (nV (nmL p i))) := own_stay (unhide HN3) (fun q e => (unhide HP1).grown.block q ((unhide HN3).lt q e).2 (fun e2 => hag q e (by injection e2)))
        have HMP : Hid (LQ (w5.setCell ⟨g, k * 5 + 4, none⟩ (.int .i64 ((t : Int) + 1))) B nn3 (told1 (ulk p (i + 1)))) := (unhide HM3).same ((unhide HP1).grown.block B (unhide HM3).lt (fun e => by injection e with e; omega))
        have HBP := hide (grown_to (unhide HB3) (unhide HP1).grown (fun q e => by injection e with e; omega) hz3)
        clear HP2
        have HRP : Hid ((w5.setCell ⟨g, k * 5 + 4, none⟩ (.int .i64 ((t : Int) + 1))).ownsRow (B + 1) 212 5 (.slice (some ⟨g, 0, none⟩) lu cu) lu (usL (ucnt p (i + 1)))) := (unhide HP1).row
        have hzs : (w5.setCell ⟨g, k * 5 + 4, none⟩ (.int .i64 ((t : Int) + 1))).heap.size = w5.heap.size := by simp [World.setCell]
        have HZS := hide hzs
        have HA4 := hide (al1 (w5.setCell ⟨g, k * 5 + 4, none⟩ (.int .i64 ((t : Int) + 1))) (.cells #[.int .i64 (k : Int)] 3))
        have HQ : Hid (((w5.setCell ⟨g, k * 5 + 4, none⟩ (.int .i64 ((t : Int) + 1))).alloc (.cells #[.int .i64 (k : Int)] 3)).cell? ⟨w5.heap.size, 0, none⟩ = some (.int .i64 (k : Int))) := by
          show _ = _
          rw [← unhide HZS, World.cell?_alloc_mark]
          rfl
        have HNQ := hide ((unhide HNP).alloc (.cells #[.int .i64 (k : Int)] 3))
        have hkb : k ≤ 70000 := by have := unhide HL; have := ulk_len p (i + 1); omega
        have htw : IntKind.i64.wrap ((t : Int) + 1) = (t : Int) + 1 := by rw [IntKind.wrap_i64]; omega
        clear HP1 hzs HU3 HN3 HM3 HB3 hag HK HT
        go_wp2_with (at_builtin; go_loud (refine wpList_appN2 _ rfl (.tmp 45) (.tmp 47) rfl (B + 1) w5.heap.size (.slice na ni nc) (nmL p i) k rfl rfl (by rw [← unhide HNI]; exact unhide HNQ) (unhide HQ) (by rw [← unhide HNI]; omega) (by have := (unhide HA4).size; have := unhide HZS; omega) ?_))
        intro v6 w6 ho6 hg6 hat6
        obtain ⟨hs4, _, hb4⟩ := unhide HA4
        rw [unhide HZS] at hs4
        have hz6 := hg6.size
        have hno : ∀ q, (Value.slice na ni nc).ownBlock = some q → B < q := fun q e => ((unhide HNP).lt q e).1
        have HN6 : Hid (w6.ownsRow (B + 1) 3 1 v6 (nmL p (i + 1)).length (nV (nmL p (i + 1)))) := by
          show World.ownsRow _ _ _ _ _ _ _
          rw [unhide HNS, unhide HKN]
          first | exact ho6 | (rw [List.length_append]; exact ho6)
        have hU5 := (unhide HRP).alloc (.cells #[.int .i64 (k : Int)] 3)
        have HU6 : Hid (w6.ownsRow (B + 1) 212 5 (.slice (some ⟨g, 0, none⟩) lu cu) (ulk p (i + 1)).length (usL (ucnt p (i + 1)))) := by
          show World.ownsRow _ _ _ _ _ _ _
          rw [← unhide HL]
          exact own_stay hU5 (fun q e => hg6.block q (hU5.lt q e).2 (fun e2 => unhide HAP3 q e e2.symm))
        have HM6 : Hid (LQ w6 B nn3 (told1 (ulk p (i + 1)))) := ((unhide HMP).same (Below.heap_alloc _ _ _ (unhide HMP).lt)).same (hg6.block B (by omega) (fun e => by have := hno B e.symm; omega))
        have hB5 := (unhide HBP).1.trans (hb4.mono (by have := (unhide HBP).2; omega))
        have HB6 : Hid (Below B w w6) := hB5.grown hg6 (by omega) (fun z e => by have := hno z e; omega)
        have HAP6 : Hid (∀ q, (Value.slice (some ⟨g, 0, none⟩) lu cu).ownBlock = some q → v6.ownBlock ≠ some q) := fun q e e6 => by
          rcases hat6 with z | z
          · rw [z] at e6; exact unhide HAP3 q e e6
          · rw [z] at e6
            injection e6 with e6
            have := (hU5.lt q e).2
            omega
        have hz7 : B + 1 ≤ w6.heap.size := by omega
        clear ho6 hg6 hat6 HNP HMP HBP HRP HZS HA4 HQ HNQ hU5 hB5 hno ct cf HAP3 hb4 hs4 hz6 HKN HL HNS HNI
        go_wp2
        go_roundw
        case rel => exact ⟨i + 1, nn3, by omega, by omega, by go_num, HU6, HN6, HM6, HAP6, HB6, hz7⟩
        case measure => simp [intOf]; omega
    · obtain rfl : i = n := by omega
      have d1 : decide ((i : Int) < (i : Int)) = false := by simp
      have hnl := nmL_length p i
      rw [hnl] at HN
      have HF := hide (show wr.ownsRow B 212 5 (.slice ua (ulk p i).length uc) (ulk p i).length (usL (ucnt p i)) ∧ wr.ownsRow B 3 1 (.slice na i nc) i (nV (nmL p i)) from ⟨own_rebase (unhide HU) (Nat.le_succ B), own_rebase (unhide HN) (Nat.le_succ B)⟩)
      clear HU HN
      go_wp2
      go_ret2
      rw [← unhide HBE]
      exact ⟨ua, uc, na, nc, by first | rfl | (simp only [hnl]; rfl), unhide HF, unhide HB⟩
end Go.Proofs.YtjcoahahponabaaGreatDoor
