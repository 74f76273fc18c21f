/- Unlike pixels counted: the document's. -/
import Derived.Test.YtpfobocdbmiagaaDoorCu2
import Derived.Test.YtpfobocdbmiagaaDoorRo0
namespace Go.Proofs.YtpfobocdbmiagaaDoor
open Go.RowKit

theorem cntH_next (p : Nat → Px) {n i : Nat} (h : i < n) : (cntH p n i).set (nmb p i) ⟨p i, tms p i (p i) + 1⟩ = cntH p n (i + 1) := by
  have hm : p i ∈ ulk p n := ulk_has p h
  have e := map_set_at (f := fun x => (⟨x, tms p i x⟩ : Us)) (g := fun x => (⟨x, tms p i x + 1⟩ : Us)) (ulk p n) (p i) (ulk_nodup p _) hm
  rw [nmb_is p h]
  unfold cntH
  rw [e]
  refine List.map_congr_left (fun y _ => ?_)
  by_cases q : y = p i
  · rw [if_pos q]
    show (⟨y, tms p i y + 1⟩ : Us) = ⟨y, tms p i y + if y = p i then 1 else 0⟩
    rw [if_pos q]
  · rw [if_neg q]
    show (⟨y, tms p i y⟩ : Us) = ⟨y, tms p i y + if y = p i then 1 else 0⟩
    rw [if_neg q]
    rfl
theorem cntH_nth (p : Nat → Px) {n i : Nat} (h : i < n) : (cntH p n i)[nmb p i]? = some ⟨p i, tms p i (p i)⟩ := by
  unfold cntH
  rw [List.getElem?_map, nmb_at p h]
  rfl
/-- The colors of the first, and none behind them. -/
def rowC (U : List Px) (i : Nat) : List Us := (List.range U.length).map fun j => ⟨if j < i then U.getD j default else px0, 0⟩
theorem rowC_length (U : List Px) (i : Nat) : (rowC U i).length = U.length := by unfold rowC; rw [List.length_map, List.length_range]
theorem rowC_get (U : List Px) (i j : Nat) (h : j < U.length) : (rowC U i)[j]? = some ⟨if j < i then U.getD j default else px0, 0⟩ := by
  unfold rowC
  rw [List.getElem?_map, List.getElem?_range h]
  rfl
theorem rowC_at (U : List Px) (i j : Nat) (h : j < (rowC U i).length) : (rowC U i)[j] = ⟨if j < i then U.getD j default else px0, 0⟩ := by
  have e := rowC_get U i j (by rw [rowC_length] at h; exact h)
  rw [List.getElem?_eq_getElem h] at e
  exact Option.some.inj e
theorem rowC_next (U : List Px) (i : Nat) : (rowC U i).set i ⟨U.getD i default, 0⟩ = rowC U (i + 1) := by
  refine List.ext_getElem (by rw [List.length_set, rowC_length, rowC_length]) (fun j h1 h2 => ?_)
  rw [List.getElem_set]
  by_cases e : i = j
  · subst e
    rw [if_pos rfl, rowC_at, if_pos (by omega)]
  · rw [if_neg e, rowC_at, rowC_at]
    by_cases q : j < i
    · rw [if_pos q, if_pos (by omega)]
    · rw [if_neg q, if_neg (by omega)]
theorem rowC_all (p : Nat → Px) (n : Nat) : rowC (ulk p n) (ulk p n).length = cntH p n 0 := by
  refine List.ext_getElem? (fun j => ?_)
  rcases Nat.lt_or_ge j (ulk p n).length with h | h
  · rw [rowC_get _ _ _ h, if_pos h]
    unfold cntH
    rw [List.getElem?_map, List.getD_eq_getElem?_getD, List.getElem?_eq_getElem h]
    rfl
  · rw [List.getElem?_eq_none (by rw [rowC_length]; exact h), List.getElem?_eq_none (by rw [cntH_length]; exact h)]
theorem zero_row (U : List Px) : (madeCells #[.int .u8 0, .int .u8 0, .int .u8 0, .int .u8 0, .int .i64 0] (U.length * 5)).toList = usL (rowC U 0) := by
  refine List.ext_getElem? (fun j => ?_)
  rcases Nat.lt_or_ge j (U.length * 5) with h | h
  · have e := usL_at (rowC U 0) (j / 5) (j % 5) (by rw [rowC_length]; omega) (by omega)
    rw [show j / 5 * 5 + j % 5 = j by omega, rowC_at, if_neg (Nat.not_lt_zero _)] at e
    rw [e]
    rcases (show j % 5 = 0 ∨ j % 5 = 1 ∨ j % 5 = 2 ∨ j % 5 = 3 ∨ j % 5 = 4 by omega) with q | q | q | q | q <;> simp [madeCells, h, q, Us.cells, px0]
  · rw [List.getElem?_eq_none (l := usL (rowC U 0)) (by rw [usL_length, rowC_length]; exact h), List.getElem?_eq_none (by simp only [madeCells, Array.length_toList, Array.size_map, Array.size_range]; exact h)]
theorem usr_info : (Tryd.prog.info? 43).map (fun i => (i.zero, i.size, i.bytes)) = some (some (.agg #[.int .u8 0, .int .u8 0, .int .u8 0, .int .u8 0, .int .i64 0]), 5, 16) := by kernel_rfl
theorem make_us (n : Nat) (hn : n ≤ 100000) (w : World) : (Instr.makeSlice 37 (.int .i64 (n : Int)) (.int .i64 (n : Int))).run Tryd.prog w = .ok (.slice (some ⟨w.heap.size, 0, none⟩) n n) (w.alloc (.cells (madeCells #[.int .u8 0, .int .u8 0, .int .u8 0, .int .u8 0, .int .i64 0] (n * 5)) 43)) := by
  obtain ⟨i0, hi, hz0, hz1, hz2⟩ := info_parts usr_info
  have hr := run_make (P := Tryd.prog) w 37 43 i0 (.agg #[.int .u8 0, .int .u8 0, .int .u8 0, .int .u8 0, .int .i64 0]) Tryd.underlying37 hi hz0 .i64 .i64 n n (by omega) (by omega) (by rw [hz2]; omega) (by omega)
  simp only [Int.toNat_natCast, hz1] at hr
  exact hr
theorem own_put5 {w : World} {B k c G : Nat} {T : TypeId} {l : List Us} (h : w.ownsRow B T 5 (.slice (some ⟨G, 0, none⟩) k c) k (usL l)) (i : Nat) (hi : i < l.length) (x : Px) :
    (put4 w G (i * 5) x).ownsRow B T 5 (.slice (some ⟨G, 0, none⟩) k c) k (usL (l.set i ⟨x, (l[i]).t⟩)) := by
  rw [← usL_put l i x hi]
  unfold put4
  exact ((((h.stored _ _).1.stored _ _).1.stored _ _).1.stored _ _).1
theorem own_put1 {w : World} {B k c G : Nat} {T : TypeId} {p : Nat → Px} {n i j t : Nat} (h : w.ownsRow B T 5 (.slice (some ⟨G, 0, none⟩) k c) k (usL (cntH p n i))) (hi : i < n) (hj : nmb p i = j) (ht : tms p i (p i) = t) :
    (w.setCell ⟨G, j * 5 + 4, none⟩ (.int .i64 ((t : Int) + 1))).ownsRow B T 5 (.slice (some ⟨G, 0, none⟩) k c) k (usL (cntH p n (i + 1))) := by
  have h1 := (h.stored (j * 5 + 4) (.int .i64 ((t : Int) + 1))).1
  have hl : j < (cntH p n i).length := by rw [cntH_length, ← hj]; exact nmb_lt p hi
  have e := usL_set (cntH p n i) j (t + 1) hl
  have e2 : (.int .i64 (((t + 1 : Nat)) : Int) : Value) = .int .i64 ((t : Int) + 1) := rfl
  rw [e2] at e
  rw [e] at h1
  have ha := cntH_nth p hi
  rw [hj, List.getElem?_eq_getElem hl] at ha
  injection ha with ha
  rw [ha] at h1
  have e3 := cntH_next p hi
  rw [hj, ht] at e3
  rw [e3] at h1
  exact h1

set_option maxHeartbeats 4000000 in
set_option maxRecDepth 100000 in
theorem countOf_any (W H : Int) (a : Option Addr) (n c : Nat) (p : Nat → Px) (w : World) (hP : IsPx w a n p) (hn : n ≤ 70000) :
    Calls Tryd.prog 14 #[.agg #[.int .i64 W, .int .i64 H, .slice a n c]] w fun e w' => ∃ a1 c1, e = .returned (.slice a1 (ulk p n).length c1) ∧ w'.ownsRow w.heap.size 43 5 (.slice a1 (ulk p n).length c1) (ulk p n).length (usL (ucnt p n)) ∧ Below w.heap.size w w' := by
  have hul := ulk_len p n
  have HA := hide (al1 w (.cells #[.int .i64 W, .int .i64 H, .slice a n c] 24))
  have HC := hide (fun w' (hb : Below w.heap.size w w') => unlike_any W H a n c p w' (hP.below hb) (by omega))
  obtain ⟨B, hB⟩ : ∃ B, B = w.heap.size := ⟨_, rfl⟩
  clear hP
  go_enter Tryd.func14, Tryd.ntmps14
  go_wp2_with fail
  generalize w.alloc (.cells #[.int .i64 W, .int .i64 H, .slice a n c] 24) = w1 at *
  rw [← hB] at HA HC ⊢
  obtain ⟨hs1, _, hb1⟩ := unhide HA
  have HBE := hide hB
  refine (unhide HC _ hb1).mono ?_
  rintro e w2 ⟨a1, c1, a2, c2, rfl, ⟨ho1, ho2⟩, hb2⟩
  have hz2 := hb2.size
  have HB2 := hide (hb1.trans (hb2.mono (by omega)))
  have HO1 := hide ho1
  have HO2 := hide ho2
  obtain ⟨k, hk⟩ : ∃ k, k = (ulk p n).length := ⟨_, rfl⟩
  rw [← hk] at HO1 hul ⊢
  have hmk := make_us k (by omega)
  have HA2 := hide (al1 w2 (.cells (madeCells #[.int .u8 0, .int .u8 0, .int .u8 0, .int .u8 0, .int .i64 0] (k * 5)) 43))
  have HR0 : Hid ((w2.alloc (.cells (madeCells #[.int .u8 0, .int .u8 0, .int .u8 0, .int .u8 0, .int .i64 0] (k * 5)) 43)).ownsRow w2.heap.size 43 5 (.slice (some ⟨w2.heap.size, 0, none⟩) k k) k (usL (rowC (ulk p n) 0))) := by
    have h := World.ownsRow_lit (base := w2.heap.size) (e := 43) (size := 5) w2 (madeCells #[.int .u8 0, .int .u8 0, .int .u8 0, .int .u8 0, .int .i64 0] (k * 5)) k (Nat.le_refl _) (by unfold maxLen; omega) (by simp [madeCells])
    rw [hk, zero_row, ← hk] at h
    exact h
  have HKE := hide hk
  clear HA hb1 hB ho1 ho2 hb2 HC hk
  go_wp2
  generalize hg : w2.alloc (.cells (madeCells #[.int .u8 0, .int .u8 0, .int .u8 0, .int .u8 0, .int .i64 0] (k * 5)) 43) = w3 at *
  obtain ⟨hs3, _, hb3⟩ := unhide HA2
  obtain ⟨G, hG⟩ : ∃ G, G = w2.heap.size := ⟨_, rfl⟩
  rw [← hG] at HR0 hs3 hb3 ⊢
  have hBG : B + 1 ≤ G := by omega
  have HOL := hide (fun wr (h : Below G w3 wr) => own_belowP (unhide HO1) ((hG ▸ hb3 : Below w2.heap.size w2 w3).trans (hG ▸ h : Below w2.heap.size w3 wr)))
  have HON := hide (fun wr (h : Below G w3 wr) => own_belowP (unhide HO2) ((hG ▸ hb3 : Below w2.heap.size w2 w3).trans (hG ▸ h : Below w2.heap.size w3 wr)))
  have HBW := hide (fun wr (h : Below G w3 wr) => (unhide HB2).trans ((hb3.trans h).mono (show B ≤ G by omega)))
  clear HA2 HO1 HO2 HB2 hG hb3 hg hmk
  go_loopw [6] (fun iv wr => ∃ i : Nat, i ≤ k ∧ iv = .int .i64 (i : Int) ∧ Hid (wr.ownsRow G 43 5 (.slice (some ⟨G, 0, none⟩) k k) k (usL (rowC (ulk p n) i))) ∧ Hid (Below G w3 wr)) (fun iv _ => k - (intOf iv).toNat)
  case atStart => exact ⟨0, Nat.zero_le _, rfl, HR0, Below.refl _ _⟩
  case round =>
    clear HR0
    obtain ⟨i, hi, rfl, HR, HB⟩ := hrel
    by_cases hlt : i < k
    · have d1 : decide ((i : Int) < (k : Int)) = true := decide_eq_true (by omega)
      have d1n : decide (i < k) = true := decide_eq_true hlt
      have hii : (i : Int) < (k : Int) := by omega
      have hlk : i < (ulk p n).length := by rw [← unhide HKE]; exact hlt
      have hO := unhide HOL wr (unhide HB)
      obtain ⟨gl, rfl, _, _⟩ := own_some hO (by omega)
      rw [pxL_vals, ← unhide HKE] at hO
      obtain ⟨b', o', hb', _, hpx⟩ := (own_px hO (by unfold maxLen; omega)).resolve_left (by omega)
      injection hb' with hb'
      injection hb' with e1 e2 _
      subst e1 e2
      have hx : PxAt wr gl (0 + i * 4) ((ulk p n).getD i default) := hpx i (by omega)
      rw [Nat.zero_add] at hx
      obtain ⟨x0, x1, x2, x3⟩ := hx
      have hrl : i < (rowC (ulk p n) i).length := by rw [rowC_length]; exact hlk
      have hu := own_usAt (unhide HR) i hrl (by rw [rowC_length, unhide HKE])
      obtain ⟨⟨t0, t1, t2, t3⟩, _⟩ := hu
      have f0 := (unhide HR).frozenAt (i * 5)
      have f1 := (unhide HR).frozenAt (i * 5 + 1)
      have f2 := (unhide HR).frozenAt (i * 5 + 2)
      have f3 := (unhide HR).frozenAt (i * 5 + 3)
      have hq := own_put5 (unhide HR) i hrl ((ulk p n).getD i default)
      rw [rowC_at] at hq
      have hqn := rowC_next (ulk p n) i
      rw [show (⟨(ulk p n).getD i default, (⟨if i < i then (ulk p n).getD i default else px0, 0⟩ : Us).t⟩ : Us) = ⟨(ulk p n).getD i default, 0⟩ from rfl, hqn] at hq
      have HQ := hide hq
      have HB' := hide (put4_below (unhide HB) (Nat.le_refl G) ((ulk p n).getD i default) (o := i * 5))
      generalize (rowC (ulk p n) i)[i] = old at *
      generalize (ulk p n).getD i default = x at *
      clear hO hq hqn hrl hlk hpx HR HB
      go_wp2
      go_roundw
      case rel => exact ⟨i + 1, by omega, by go_num, HQ, HB'⟩
      case measure => simp [intOf]; omega
    · obtain rfl : i = k := by omega
      have d1 : decide ((i : Int) < (i : Int)) = false := by simp
      have HR2 : Hid (wr.ownsRow G 43 5 (.slice (some ⟨G, 0, none⟩) i i) i (usL (cntH p n 0))) := by
        have h := unhide HR
        rw [unhide HKE, rowC_all, ← unhide HKE] at h
        exact h
      clear HR HOL
      go_wp2
      go_loopw [7] (fun jv wq => ∃ j : Nat, j ≤ n ∧ jv = .int .i64 (j : Int) ∧ Hid (wq.ownsRow G 43 5 (.slice (some ⟨G, 0, none⟩) i i) i (usL (cntH p n j))) ∧ Hid (Below G w3 wq)) (fun jv _ => n - (intOf jv).toNat)
      case atStart => exact ⟨0, Nat.zero_le _, rfl, HR2, HB⟩
      case round =>
        clear HR2 HB
        obtain ⟨j, hj, rfl, HR, HB⟩ := hrel
        by_cases hlt2 : j < n
        · have d2 : decide ((j : Int) < (n : Int)) = true := decide_eq_true (by omega)
          have d2n : decide (j < n) = true := decide_eq_true hlt2
          have hjj : (j : Int) < (n : Int) := by omega
          have hO := unhide HON wr (unhide HB)
          obtain ⟨gn, rfl, _, _⟩ := own_some hO (by omega)
          obtain ⟨m, hm⟩ : ∃ m, nmb p j = m := ⟨_, rfl⟩
          obtain ⟨t, ht⟩ : ∃ t, tms p j (p j) = t := ⟨_, rfl⟩
          have htb : t ≤ 70000 := by have := tms_le p j (p j); omega
          have hnv : wr.cell? ⟨gn, j, none⟩ = some (.int .i64 (m : Int)) := by
            rw [hO.cellAt j (by omega), nV_at _ _ (by rw [nmL_length]; exact hlt2)]
            unfold nmL
            rw [List.getD_eq_getElem?_getD, List.getElem?_map, List.getElem?_range hlt2]
            show some (Value.int .i64 ((nmb p j : Nat) : Int)) = _
            rw [hm]
          have hml : m < i := by have := nmb_lt p hlt2; rw [hm] at this; rw [unhide HKE]; exact this
          have hmi : (m : Int) < (i : Int) := by omega
          have hll : m < (cntH p n j).length := by rw [cntH_length, ← unhide HKE]; exact hml
          have hu := (own_usAt (unhide HR) m hll (by rw [cntH_length, unhide HKE])).t
          have ha := cntH_nth p hlt2
          rw [hm, List.getElem?_eq_getElem hll] at ha
          injection ha with ha
          rw [ha] at hu
          have hu' : wr.cell? ⟨G, m * 5 + 4, none⟩ = some (.int .i64 (t : Int)) := by rw [hu, ← ht]
          have hf := (unhide HR).frozenAt (m * 5 + 4)
          have HQ := hide (own_put1 (unhide HR) hlt2 hm ht)
          have HB' := hide ((unhide HB).setCell (p := ⟨G, m * 5 + 4, none⟩) (Nat.le_refl G) (.int .i64 ((t : Int) + 1)))
          have htw : IntKind.i64.wrap ((t : Int) + 1) = (t : Int) + 1 := by rw [IntKind.wrap_i64]; omega
          clear hO hm ht hll hu ha HR HB hml
          go_wp2
          go_roundw
          case rel => exact ⟨j + 1, by omega, by go_num, HQ, HB'⟩
          case measure => simp [intOf]; omega
        · obtain rfl : j = n := by omega
          have d2 : decide ((j : Int) < (j : Int)) = false := by simp
          have HF := hide (And.intro (own_rebase (unhide HR) (show B ≤ G by omega)) (unhide HBW _ (unhide HB)))
          clear HR HB HON HBW
          go_wp2
          go_ret
          rw [← unhide HBE, ← unhide HKE]
          exact ⟨some ⟨G, 0, none⟩, i, rfl, (unhide HF).1, (unhide HF).2⟩
end Go.Proofs.YtpfobocdbmiagaaDoor
