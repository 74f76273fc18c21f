/- Layers deleted: slices.Delete. -/
import Derived.Test.YtkdckcengmkhhajDoorLyG
import Derived.Test.YtkdckcengmkhhajDoorMg14
import Derived.Deep.RegionLaw
namespace Go.Proofs.YtkdckcengmkhhajDoor
open Go.RowKit

theorem setCells_far (b k : Nat) (h : k ≠ b) : ∀ (vs : List Value) (o : Nat) (w : World), (w.setCells b o vs).heap[k]? = w.heap[k]?
  | [], _, _ => rfl
  | v :: vs, o, w => by
    show ((w.setCell ⟨b, o, none⟩ v).setCells b (o + 1) vs).heap[k]? = _
    rw [setCells_far b k h vs, setB _ _ _ _ _ h]
theorem setCells_size (b : Nat) : ∀ (vs : List Value) (o : Nat) (w : World), (w.setCells b o vs).heap.size = w.heap.size
  | [], _, _ => rfl
  | v :: vs, o, w => by
    show ((w.setCell ⟨b, o, none⟩ v).setCells b (o + 1) vs).heap.size = _
    rw [setCells_size b vs]
    simp [World.setCell]
theorem setCells_row (b : Nat) {t : TypeId} : ∀ (vs : List Value) (o : Nat) (w : World) (cur : Array Value), w.heap[b]? = some (.cells cur t) →
    ∃ cur' : Array Value, (w.setCells b o vs).heap[b]? = some (.cells cur' t) ∧ cur'.size = cur.size ∧ ∀ j, j < cur.size → cur'[j]? = if o ≤ j ∧ j < o + vs.length then vs[j - o]? else cur[j]?
  | [], o, w, cur, h => ⟨cur, h, rfl, fun j _ => by rw [if_neg (by simp)]⟩
  | v :: vs, o, w, cur, h => by
    obtain ⟨c, h1, h2, h3⟩ := setCells_row b vs (o + 1) (w.setCell ⟨b, o, none⟩ v) (cur.setIfInBounds o v) (set_cells h v)
    refine ⟨c, h1, by rw [h2]; simp, fun j hj => ?_⟩
    rw [h3 j (by simpa using hj)]
    by_cases e : j = o
    · subst e
      rw [if_neg (by omega), if_pos ⟨Nat.le_refl _, by simp⟩, Nat.sub_self]
      simp [hj]
    · by_cases q : o + 1 ≤ j ∧ j < o + 1 + vs.length
      · rw [if_pos q, if_pos ⟨by omega, by simp; omega⟩, show j - o = (j - (o + 1)) + 1 by omega]
        rfl
      · rw [if_neg q, if_neg (by simp; omega), Array.getElem?_setIfInBounds_ne (Ne.symm e)]
theorem below_setCells {B b : Nat} {w0 : World} (hb : B ≤ b) : ∀ (vs : List Value) (o : Nat) (w : World), Below B w0 w → Below B w0 (w.setCells b o vs)
  | [], _, _, h => h
  | v :: vs, o, w, h => below_setCells hb vs (o + 1) (w.setCell ⟨b, o, none⟩ v) (h.setCell (p := ⟨b, o, none⟩) hb v)
/-- A row of a call's own, whose block is known. -/
structure Row9 (w : World) (g n cap : Nat) (t : TypeId) (xs : List Value) : Prop where
  ex : ∃ cur : Array Value, w.heap[g]? = some (.cells cur t) ∧ cur.size = cap * 9 ∧ ∀ j, j < n * 9 → cur[j]? = xs[j]?
  len : xs.length = n * 9
  le : n ≤ cap
theorem row9_of {w : World} {base g n cap : Nat} {t : TypeId} {xs : List Value} (h : w.ownsRow base t 9 (.slice (some ⟨g, 0, none⟩) n cap) n xs) : Row9 w g n cap t xs ∧ base ≤ g ∧ cap ≤ maxLen := by
  rcases h.2 with ⟨e, _⟩ | ⟨g', cap', cur, e, hb, hc, hn, hm, hs, ht⟩
  · cases e
  · injection e with e1 _ e3
    injection e1 with e1
    injection e1 with e1
    subst e1 e3
    exact ⟨⟨⟨cur, hc, hs, fun j hj => by rw [← ht, List.getElem?_take_of_lt hj, Array.getElem?_toList]⟩, h.1, hn⟩, hb, hm⟩
theorem row9_own {w : World} {base g n cap : Nat} {t : TypeId} {xs : List Value} (h : Row9 w g n cap t xs) (hb : base ≤ g) (hm : cap ≤ maxLen) : w.ownsRow base t 9 (.slice (some ⟨g, 0, none⟩) n cap) n xs := by
  obtain ⟨cur, hc, hs, hx⟩ := h.ex
  refine ⟨h.len, .inr ⟨g, cap, cur, rfl, hb, hc, h.le, hm, hs, ?_⟩⟩
  have hle : n * 9 ≤ cap * 9 := Nat.mul_le_mul_right 9 h.le
  apply List.ext_getElem?
  intro j
  by_cases hj : j < n * 9
  · rw [List.getElem?_take_of_lt hj, Array.getElem?_toList, hx j hj]
  · rw [List.getElem?_eq_none (by simp; omega), List.getElem?_eq_none (by rw [h.len]; omega)]
theorem Row9.cell {w : World} {g n cap : Nat} {t : TypeId} {xs : List Value} (h : Row9 w g n cap t xs) (j : Nat) (hj : j < n * 9) : w.cell? ⟨g, j, none⟩ = xs[j]? := by
  obtain ⟨cur, hc, _, hx⟩ := h.ex
  rw [blk_cell hc, hx j hj]
theorem Row9.there {w : World} {g n cap : Nat} {t : TypeId} {xs : List Value} (h : Row9 w g n cap t xs) (j : Nat) (hj : j < cap * 9) : (w.cell? ⟨g, j, none⟩).isSome = true ∧ w.frozen? ⟨g, j, none⟩ = false := by
  obtain ⟨cur, hc, hs, _⟩ := h.ex
  refine ⟨?_, blk_frozen hc j⟩
  rw [blk_cell hc, Array.getElem?_eq_getElem (by omega)]
  rfl
theorem rmL_vals (L : Nat → Ly) (a : Nat → Option Addr) (c : Nat → Nat) (k : Nat) : ∀ n, k ≤ n → ∀ j, j < n * 9 → (lyVals (rmL L k) (rmL a k) (rmL c k) n)[j]? = if j < k * 9 then (lyVals L a c (n + 1))[j]? else (lyVals L a c (n + 1))[j + 9]? := by
  intro n hn j hj
  have e1 := lyVals_at (rmL L k) (rmL a k) (rmL c k) n (j / 9) (j % 9) (by omega) (by omega)
  rw [show j / 9 * 9 + j % 9 = j by omega] at e1
  rw [e1]
  by_cases h : j < k * 9
  · have e2 := lyVals_at L a c (n + 1) (j / 9) (j % 9) (by omega) (by omega)
    rw [show j / 9 * 9 + j % 9 = j by omega] at e2
    rw [if_pos h, e2]
    unfold rmL
    rw [if_pos (by omega), if_pos (by omega), if_pos (by omega)]
  · have e2 := lyVals_at L a c (n + 1) (j / 9 + 1) (j % 9) (by omega) (by omega)
    rw [show (j / 9 + 1) * 9 + j % 9 = j + 9 by omega] at e2
    rw [if_neg h, e2]
    unfold rmL
    rw [if_neg (by omega), if_neg (by omega), if_neg (by omega)]

/-- A layer that is nothing. -/
def zl9 : List Value := [.string ⟨#[]⟩, .int .i64 0, .int .i64 0, .bool false, .int .i64 0, .int .i64 0, .int .i64 0, .int .i64 0, .slice none 0 0]
theorem run_clear9 (w : World) (ty : TypeId) (b o c : Nat) (hc : ∀ j, j < 9 → (w.cell? ⟨b, o + j, none⟩).isSome = true) (hf : ∀ j, j < 9 → w.frozen? ⟨b, o + j, none⟩ = false) :
    (Builtin.clear_ #[37] ty #[.slice (some ⟨b, o, none⟩) 1 c]).run Tryd.prog w = .ok (.tuple #[]) (w.setCells b o zl9) := by
  have hzc : (Builtin.zeroCells (Value.agg #[.string ⟨#[]⟩, .int .i64 0, .int .i64 0, .bool false, .int .i64 0, .int .i64 0, .int .i64 0, .int .i64 0, .slice none 0 0]).cells 1).toList = zl9 := by kernel_rfl
  have hst := run_storeCells_cells (P := Tryd.prog) b o zl9 0 w (by simpa [zl9] using hc) (by simpa [zl9] using hf) (by intro v hv'; simp only [zl9, List.mem_cons, List.not_mem_nil, or_false] at hv'; rcases hv' with rfl | rfl | rfl | rfl | rfl | rfl | rfl | rfl | rfl <;> rfl)
  simp only [Nat.add_zero] at hst
  simp [Builtin.clear_, run_underlying Tryd.underlying37, Tryd.zeroValue54, hzc, hst]

set_option maxHeartbeats 4000000 in
set_option maxRecDepth 100000 in
theorem delete_any (g n cap k : Nat) (L : Nat → Ly) (a : Nat → Option Addr) (c : Nat → Nat) (w : World) (hR : Row9 w g (n + 1) cap 54 (lyVals L a c (n + 1))) (hk : k ≤ n) (hn : n ≤ 1000) (hcap : cap ≤ maxLen) :
    Calls Tryd.prog 48 #[.slice (some ⟨g, 0, none⟩) (n + 1) cap, .int .i64 (k : Int), .int .i64 ((k + 1 : Nat) : Int)] w fun e w' => e = .returned (.slice (some ⟨g, 0, none⟩) n cap) ∧ Row9 w' g n cap 54 (lyVals (rmL L k) (rmL a k) (rmL c k) n) ∧ (∀ b, b ≠ g → w'.heap[b]? = w.heap[b]?) ∧ w'.heap.size = w.heap.size ∧ Below g w w' := by
  obtain ⟨i0, hi, hz0, hz1, hz2⟩ := info_parts ly_info
  have Hi := hide hi
  have Hz1 := hide hz1
  clear hi hz0 hz2
  have hle := hR.le
  unfold maxLen at hcap
  have d0 : ((k : Int) == ((k + 1 : Nat) : Int)) = false := by simp; omega
  have HR := hide hR
  clear hR hz1
  go_enter Tryd.func48, Tryd.ntmps48
  go_wp2_with fail
  obtain ⟨news, hnews⟩ : ∃ news, news = (lyVals L a c (n + 1)).drop ((k + 1) * 9) := ⟨_, rfl⟩
  have hlen : news.length = (n - k) * 9 := by rw [hnews, List.length_drop, lyVals_length]; omega
  have hone : ∀ u ∈ news, u.oneCell' = true := fun u hu => by rw [hnews] at hu; exact lyVals_one (List.mem_of_mem_drop hu)
  obtain ⟨of, hof, hif⟩ : ∃ of, (cap ≠ k + 1 → of = (k + 1) * 9) ∧ (if cap = k + 1 then some (⟨g, 0, none⟩ : Addr) else some ⟨g, (k + 1) * 9, none⟩) = some ⟨g, of, none⟩ := by
    by_cases h : cap = k + 1
    · exact ⟨0, fun q => absurd h q, by rw [if_pos h]⟩
    · exact ⟨(k + 1) * 9, fun _ => rfl, by rw [if_neg h]⟩
  have hcel : ∀ j u, news[j]? = some u → w.drew.cell? ((⟨g, of, none⟩ : Addr).add j) = some u := fun j u hj => by
    have hadd : (⟨g, of, none⟩ : Addr).add j = ⟨g, of + j, none⟩ := by unfold Addr.add; split <;> simp_all
    rw [hadd]
    have hjl : j < news.length := (List.getElem?_eq_some_iff.1 hj).1
    rw [hof (by omega)]
    show w.cell? _ = _
    rw [(unhide HR).cell _ (by omega), ← hj, hnews, List.getElem?_drop]
  have hthe : ∀ j, j < news.length → (w.drew.cell? ⟨g, 0 + k * 9 + j, none⟩).isSome = true ∧ w.drew.frozen? ⟨g, 0 + k * 9 + j, none⟩ = false := fun j hj => by
    rw [Nat.zero_add]
    exact (unhide HR).there _ (by omega)
  have Hlen := hide hlen
  have Hone := hide hone
  have Hcel := hide hcel
  have Hthe := hide hthe
  have HNE := hide hnews
  clear hlen hone hcel hthe hnews
  have hkn : k + (n - k) = n := by omega
  have h0k : 0 ≤ (k : Int) + 1 := by omega
  clear hof
  have hkc : (k : Int) ≤ (cap : Int) := by omega
  have hk1 : ((k + 1 : Nat) : Int) ≤ ((n + 1 : Nat) : Int) := by omega
  go_region_law (first | (refine step_append_room rfl (.tmp 22) (.tmp 25) 37 rfl 54 i0 9 Tryd.underlying37 (unhide Hi) (unhide Hz1) g 0 k cap (by simp [Act.eval, Act.put]) ⟨g, of, none⟩ (n - k) (cap - (k + 1)) news (by simp [Act.eval, Act.put]) (unhide Hlen) (unhide Hcel) (unhide Hone) (by omega) (unhide Hthe) ?_))
  all_goals
    obtain ⟨cur, hc, hsz, hx⟩ := (unhide HR).ex
    obtain ⟨cur1, hc1, hs1, hx1⟩ := setCells_row g news (k * 9) w.drew cur hc
    have hf1 : ∀ b, b ≠ g → (w.drew.setCells g (k * 9) news).heap[b]? = w.heap[b]? := fun b h => setCells_far g b h news (k * 9) w.drew
    have hz1 : (w.drew.setCells g (k * 9) news).heap.size = w.heap.size := setCells_size g news (k * 9) w.drew
    have HB1 := hide (below_setCells (Nat.le_refl g) news (k * 9) w.drew ((Below.refl g w).drew))
    have HC1 := hide hc1
    have HF1 := hide hf1
    have HZ1 := hide hz1
    have HX1 := hide hx1
    have HX := hide hx
    generalize w.drew.setCells g (k * 9) news = w1 at *
    clear hc hc1 hf1 hz1 hx1 hx
    have hno : (n : Int) ≤ (cap : Int) := by omega
    have h1n : ((n : Int) + 1) ≤ (cap : Int) := by omega
    have hn1 : (n : Int) ≤ (n : Int) + 1 := by omega
    have h0n : 0 ≤ (n : Int) + 1 := by omega
    have hle9 : n * 9 + 9 ≤ cap * 9 := by omega
    have hclr := run_clear9 w1 0 g (n * 9) (cap - n) (fun j hj => by rw [blk_cell (unhide HC1), Array.getElem?_eq_getElem (by omega)]; rfl) (fun j _ => blk_frozen (unhide HC1) _)
    obtain ⟨cur2, hc2, hs2, hx2⟩ := setCells_row g zl9 (n * 9) w1 cur1 (unhide HC1)
    have hf2 : ∀ b, b ≠ g → (w1.setCells g (n * 9) zl9).heap[b]? = w.heap[b]? := fun b h => (setCells_far g b h zl9 (n * 9) w1).trans (unhide HF1 b h)
    have hz2 : (w1.setCells g (n * 9) zl9).heap.size = w.heap.size := (setCells_size g zl9 (n * 9) w1).trans (unhide HZ1)
    have hrow : Row9 (w1.setCells g (n * 9) zl9) g n cap 54 (lyVals (rmL L k) (rmL a k) (rmL c k) n) := by
      refine ⟨⟨cur2, hc2, by rw [hs2, hs1, hsz], fun j hj => ?_⟩, lyVals_length _ _ _ n, by omega⟩
      rw [hx2 j (by omega), if_neg (by omega), unhide HX1 j (by omega), rmL_vals L a c k n hk j hj]
      by_cases h : j < k * 9
      · rw [if_neg (by omega), if_pos h, unhide HX j (by omega)]
      · rw [if_pos ⟨by omega, by have := unhide Hlen; omega⟩, if_neg h, unhide HNE, List.getElem?_drop, show (k + 1) * 9 + (j - k * 9) = j + 9 by omega]
    have HB2 := hide (below_setCells (Nat.le_refl g) zl9 (n * 9) w1 (unhide HB1))
    have HRW := hide hrow
    have HF2 := hide hf2
    have HZ2 := hide hz2
    generalize w1.setCells g (n * 9) zl9 = w2 at *
    clear hrow hf2 hz2 hc2 hs2 hx2 HB1 HC1 HF1 HZ1 HX1 HX Hlen Hone Hcel Hthe HNE hs1 hsz hle9
    go_wp2
    go_ret
    exact ⟨rfl, unhide HRW, unhide HF2, unhide HZ2, unhide HB2⟩
end Go.Proofs.YtkdckcengmkhhajDoor
