/- A past of numbers: Do. -/
import Derived.Test.YtkdckcengmkhhajDoorPa1
namespace Go.Proofs.YtkdckcengmkhhajDoor
open Go.RowKit

theorem run_max0 (w : World) (t : TypeId) (u v : Int) : (Builtin.max_ #[3, 3] t #[.int .i64 u, .int .i64 v]).run Tryd.prog w = .ok (.int .i64 (if u < v then v else u)) w := by
  simp [Builtin.max_, Builtin.max2]
theorem wpList_max0 (w : World) {ops : Array Oper} {rest : List Oper} {o : Oper} {a : Act} {Q : Exit → Act → World → Prop} (hgd : o.guard = none) (s x : Operand)
    (ho : o.op = .call { callee := .builtin .max, args := #[s, x], argTypes := #[3, 3] }) (u v r : Int) (hs : a.eval s = .int .i64 u) (hx : a.eval x = .int .i64 v) (hr : (if u < v then v else u) = r)
    (h : wpList Tryd.prog ops Q rest (a.put o.dst (.int .i64 r)) w) : wpList Tryd.prog ops Q (o :: rest) a w := by
  subst hr
  have h1 := run_max0 w o.type u v
  refine wpList_plain hgd fun _ hK => ?_
  unfold Oper.wp execOp
  simp only [ho, resolve, invoke, builtin, Sem.run_bind, Sem.run_pure, Result.andThen_ok, List.map_toArray, List.map_cons, List.map_nil, hs, hx, h1]
  exact hK _ _ h

theorem row1_of {w : World} {base g n cap : Nat} {xs : List Value} (h : w.ownsRow base 3 1 (.slice (some ⟨g, 0, none⟩) n cap) n xs) : (∃ cur : Array Value, w.heap[g]? = some (.cells cur 3) ∧ ∀ j, j < n → cur[j]? = xs[j]?) ∧ base ≤ g ∧ n ≤ cap ∧ cap ≤ maxLen := by
  rcases h.2 with ⟨e, _⟩ | ⟨g', cap', cur, e, hb, hc, hn, hm, hs, ht⟩
  · cases e
  · injection e with e1 _ e3
    injection e1 with e1
    injection e1 with e1
    subst e1 e3
    exact ⟨⟨cur, hc, fun j hj => by rw [← ht, List.getElem?_take_of_lt (by omega), Array.getElem?_toList]⟩, hb, hn, hm⟩

set_option maxHeartbeats 2000000 in
set_option maxRecDepth 100000 in
theorem pdo_any (base q g c at_ most : Nat) (Z : List Int) (x : Int) (w : World) (h : PastAt w base q g c Z at_ most) (hZ : Z.length ≤ 1000) (hm : most ≤ 20) :
    Calls Tryd.prog 24 #[.pointer (some ⟨q, 0, none⟩), .int .i64 x] w fun e w' => e = .returned (.tuple #[]) ∧ ∃ g' c', w.heap.size ≤ g' ∧ c' ≤ maxLen ∧
      PastAt w' base q g' c' ((Z.take (at_ + 1)).drop (at_ + 1 - most) ++ [x]) (at_ + 1 - (at_ + 1 - most)) most ∧ But (· = q) w w' := by
  obtain ⟨c0, c1, c2, cf, hq⟩ := h.cells
  have l1 := h.lt
  have l2 := h.le
  have H := hide h
  have z1 : (at_ : Int) + 1 = ((at_ + 1 : Nat) : Int) := by omega
  clear h cf
  generalize hk : at_ + 1 = k at *
  obtain ⟨f, hf⟩ : ∃ f, f = k - most := ⟨_, rfl⟩
  rw [← hf]
  have hmx : Hid ((if (0 : Int) < (k : Int) - (most : Int) then (k : Int) - (most : Int) else 0) = (f : Int)) := by
    unfold Hid
    split <;> omega
  have hfk : f ≤ k := by omega
  have hkZ : k ≤ Z.length := by omega
  have HA := hide (al2 w (.cells #[.int .i64 x] 3) (.cells #[.slice (some ⟨g, 0, none⟩) (k - f) 0, .slice (some ⟨w.heap.size, 0, none⟩) 1 1] 63))
  have HA2 := hide (al2 w (.cells #[.int .i64 x] 3) (.cells #[.slice (some ⟨g, f, none⟩) (k - f) (c - f), .slice (some ⟨w.heap.size, 0, none⟩) 1 1] 63))
  have HF := hide hf
  have HK := hide hk
  clear hf hk
  generalize hZn : Z.length = n at *
  have HZ := hide hZn
  clear hZn
  go_enter Tryd.func24, Tryd.ntmps24
  go_wp2_with fail
  go_region
  go_wp2_with (first | refine wpList_max0 _ rfl (.const (.int .i64 0)) (.tmp 23) rfl 0 ((k : Int) - (most : Int)) (f : Int) rfl rfl (unhide hmx) ?_)
  · have hA := unhide HA
    clear HA HA2
    generalize (w.alloc (.cells #[.int .i64 x] 3)).alloc (.cells #[.slice (some ⟨g, 0, none⟩) (k - f) 0, .slice (some ⟨w.heap.size, 0, none⟩) 1 1] 63) = w1 at *
    obtain ⟨hs1, k0, k1, hb1⟩ := hA
    have hP1 := (unhide H).below hb1
    have q0 : w1.drew.cell? ⟨w.heap.size + 1, 0, none⟩ = some (.slice (some ⟨g, 0, none⟩) (k - f) 0) := blk_cell k1 0
    have q1 : w1.drew.cell? ⟨w.heap.size + 1, 1, none⟩ = some (.slice (some ⟨w.heap.size, 0, none⟩) 1 1) := blk_cell k1 1
    have hZn := unhide HZ
    have lt : ((Z.take k).drop f).length = k - f := by rw [List.length_drop, List.length_take]; omega
    have s1 : SrcC w1.drew (.slice (some ⟨g, 0, none⟩) (k - f) 0) 1 (k - f) (zVals ((Z.take k).drop f)) := by
      refine .inr ⟨_, _, rfl, by rw [zVals_length, lt, Nat.mul_one], fun j v hj => ?_⟩
      have hjl : j < k - f := by
        have := (List.getElem?_eq_some_iff.1 hj).1
        rwa [zVals_length, lt] at this
      exact absurd hjl (by omega)
    have s2 : SrcC w1.drew (.slice (some ⟨w.heap.size, 0, none⟩) 1 1) 1 1 (zVals [x]) := by
      refine .inr ⟨_, _, rfl, rfl, fun j v hj => ?_⟩
      match j with
      | 0 =>
        rw [addr_add]
        show w1.cell? _ = _
        rw [blk_cell k0]
        exact hj
      | j + 1 => simp [zVals] at hj
    have HP1 := hide hP1
    have HB1 := hide hb1
    clear hP1 c0 c1 c2
    refine (concatI_any (w.heap.size + 1) _ _ (k - f) 1 (zVals ((Z.take k).drop f)) (zVals [x]) _ q0 q1 s1 s2 (zVals_one _) (zVals_one _) (by omega) (by omega)).mono ?_
    rintro e w2 ⟨v, rfl, hown, hb2⟩
    obtain ⟨g', c', rfl, _, hgl⟩ := hown.form (by omega)
    obtain ⟨⟨cur, hcur, hrow⟩, hgb, hnc, hcm⟩ := row1_of hown
    have hgb1 : w1.heap.size ≤ g' := hgb
    have hb2' : Below w1.heap.size w1 w2 := ⟨hb2.os, hb2.tape, hb2.output, hb2.size, hb2.block⟩
    have hP2 := (unhide HP1).below hb2'
    obtain ⟨c0, c1, c2, cf, hq2⟩ := hP2.cells
    have f0 := cf 0
    have f1 := cf 1
    have hne : g' ≠ q := by omega
    have HB2 := hide hb2'
    have HP2 := hide hP2
    have hlt2 : k - f < k - f + 1 := Nat.lt_succ_self _
    have HR := hide hrow
    have HC := hide hcur
    clear hown hb2 hb2' hb1 hP2 q0 q1 s1 s2 k0 k1 cf hrow hcur
    rw [hZn] at c0
    go_wp2
    go_end0
    refine ⟨rfl, g', c', by omega, hcm, ⟨?_, ⟨cur, ?_, ?_⟩, (unhide H).bq, ?_, hne, ?_, ?_⟩, ?_⟩
    · simp [World.setCell, Array.getElem?_modify, (unhide HP2).box]
      omega
    · rw [Below.heap_setCell _ _ _ _ hne, Below.heap_setCell _ _ _ _ hne]
      exact unhide HC
    · intro j hj
      rw [List.length_append, lt, List.length_singleton] at hj
      rw [unhide HR j hj, zVals_append]
    · have := (unhide H).bq
      omega
    · rw [List.length_append, lt]
      exact hnc
    · rw [List.length_append, lt]
      exact hlt2
    · refine ((But.of_below (But.of_below (But.refl (· = q) _) (unhide HB1) (fun k h1 h2 => absurd h1 (by omega))) (unhide HB2) (fun k h1 h2 => absurd h1 (by omega))).setCell (p := ⟨q, 0, none⟩) rfl _).setCell (p := ⟨q, 1, none⟩) rfl _
  · have hA := unhide HA2
    clear HA HA2
    generalize (w.alloc (.cells #[.int .i64 x] 3)).alloc (.cells #[.slice (some ⟨g, f, none⟩) (k - f) (c - f), .slice (some ⟨w.heap.size, 0, none⟩) 1 1] 63) = w1 at *
    obtain ⟨hs1, k0, k1, hb1⟩ := hA
    have hP1 := (unhide H).below hb1
    have q0 : w1.drew.cell? ⟨w.heap.size + 1, 0, none⟩ = some (.slice (some ⟨g, f, none⟩) (k - f) (c - f)) := blk_cell k1 0
    have q1 : w1.drew.cell? ⟨w.heap.size + 1, 1, none⟩ = some (.slice (some ⟨w.heap.size, 0, none⟩) 1 1) := blk_cell k1 1
    have hZn := unhide HZ
    have lt : ((Z.take k).drop f).length = k - f := by rw [List.length_drop, List.length_take]; omega
    have s1 : SrcC w1.drew (.slice (some ⟨g, f, none⟩) (k - f) (c - f)) 1 (k - f) (zVals ((Z.take k).drop f)) := by
      refine .inr ⟨_, _, rfl, by rw [zVals_length, lt, Nat.mul_one], fun j v hj => ?_⟩
      have hjl : j < k - f := by
        have := (List.getElem?_eq_some_iff.1 hj).1
        rwa [zVals_length, lt] at this
      rw [addr_add]
      show w1.cell? _ = _
      obtain ⟨cur, hcur, hrow⟩ := hP1.row
      rw [blk_cell hcur, hrow _ (by omega), ← hj, zVals_at, zVals_at, List.getElem?_drop, List.getElem?_take_of_lt (by omega)]
    have s2 : SrcC w1.drew (.slice (some ⟨w.heap.size, 0, none⟩) 1 1) 1 1 (zVals [x]) := by
      refine .inr ⟨_, _, rfl, rfl, fun j v hj => ?_⟩
      match j with
      | 0 =>
        rw [addr_add]
        show w1.cell? _ = _
        rw [blk_cell k0]
        exact hj
      | j + 1 => simp [zVals] at hj
    have HP1 := hide hP1
    have HB1 := hide hb1
    clear hP1 c0 c1 c2
    refine (concatI_any (w.heap.size + 1) _ _ (k - f) 1 (zVals ((Z.take k).drop f)) (zVals [x]) _ q0 q1 s1 s2 (zVals_one _) (zVals_one _) (by omega) (by omega)).mono ?_
    rintro e w2 ⟨v, rfl, hown, hb2⟩
    obtain ⟨g', c', rfl, _, hgl⟩ := hown.form (by omega)
    obtain ⟨⟨cur, hcur, hrow⟩, hgb, hnc, hcm⟩ := row1_of hown
    have hgb1 : w1.heap.size ≤ g' := hgb
    have hb2' : Below w1.heap.size w1 w2 := ⟨hb2.os, hb2.tape, hb2.output, hb2.size, hb2.block⟩
    have hP2 := (unhide HP1).below hb2'
    obtain ⟨c0, c1, c2, cf, hq2⟩ := hP2.cells
    have f0 := cf 0
    have f1 := cf 1
    have hne : g' ≠ q := by omega
    have HB2 := hide hb2'
    have HP2 := hide hP2
    have hlt2 : k - f < k - f + 1 := Nat.lt_succ_self _
    have HR := hide hrow
    have HC := hide hcur
    clear hown hb2 hb2' hb1 hP2 q0 q1 s1 s2 k0 k1 cf hrow hcur
    rw [hZn] at c0
    go_wp2
    go_end0
    refine ⟨rfl, g', c', by omega, hcm, ⟨?_, ⟨cur, ?_, ?_⟩, (unhide H).bq, ?_, hne, ?_, ?_⟩, ?_⟩
    · simp [World.setCell, Array.getElem?_modify, (unhide HP2).box]
      omega
    · rw [Below.heap_setCell _ _ _ _ hne, Below.heap_setCell _ _ _ _ hne]
      exact unhide HC
    · intro j hj
      rw [List.length_append, lt, List.length_singleton] at hj
      rw [unhide HR j hj, zVals_append]
    · have := (unhide H).bq
      omega
    · rw [List.length_append, lt]
      exact hnc
    · rw [List.length_append, lt]
      exact hlt2
    · refine ((But.of_below (But.of_below (But.refl (· = q) _) (unhide HB1) (fun k h1 h2 => absurd h1 (by omega))) (unhide HB2) (fun k h1 h2 => absurd h1 (by omega))).setCell (p := ⟨q, 0, none⟩) rfl _).setCell (p := ⟨q, 1, none⟩) rfl _
end Go.Proofs.YtkdckcengmkhhajDoor
