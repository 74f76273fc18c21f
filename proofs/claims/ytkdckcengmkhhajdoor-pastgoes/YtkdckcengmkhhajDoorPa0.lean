/- Stacks of numbers of a call's own; a past of numbers in memory. -/
import Derived.Test.YtkdckcengmkhhajDoorCci
import Derived.Test.YtkdckcengmkhhajDoorOm
import Derived.Test.YtkdckcengmkhhajDoorBk
namespace Go.Proofs.YtkdckcengmkhhajDoor
open Go.RowKit

/-- Numbers as cells. -/
def zVals (l : List Int) : List Value := l.map fun (x : Int) => .int .i64 x
theorem zVals_length (l : List Int) : (zVals l).length = l.length := by simp [zVals]
theorem zVals_at (l : List Int) (j : Nat) : (zVals l)[j]? = l[j]?.map fun (x : Int) => .int .i64 x := by simp [zVals]
theorem zVals_append (l m : List Int) : zVals (l ++ m) = zVals l ++ zVals m := by simp [zVals]
theorem zVals_one (l : List Int) : ∀ u ∈ zVals l, u.oneCell' = true := fun u hu => by
  obtain ⟨i, _, rfl⟩ := List.mem_map.1 hu
  rfl

def blkOf (s : Option Addr) : Option Nat := s.map (·.block)

/-- A stack: nothing yet, or a part of a block of one's own. -/
structure Stk (w : World) (base : Nat) (s : Option Addr) (c : Nat) (l : List Int) : Prop where
  ex : (s = none ∧ c = 0 ∧ l = []) ∨ ∃ g o, ∃ cur : Array Value, s = some ⟨g, o, none⟩ ∧ base ≤ g ∧ w.heap[g]? = some (.cells cur 3) ∧ l.length ≤ c ∧ o + c ≤ cur.size ∧ c ≤ maxLen ∧ ∀ j, j < l.length → cur[o + j]? = (zVals l)[j]?

theorem stk_nil (w : World) (base : Nat) : Stk w base none 0 [] := ⟨.inl ⟨rfl, rfl, rfl⟩⟩
theorem Stk.but {w w' : World} {base c : Nat} {s : Option Addr} {l : List Int} {S : Nat → Prop} (h : Stk w base s c l) (hb : But S w w') (hs : ∀ k, blkOf s = some k → ¬ S k) : Stk w' base s c l := by
  rcases h.ex with h1 | ⟨g, o, cur, rfl, hg, hh, r⟩
  · exact ⟨.inl h1⟩
  · exact ⟨.inr ⟨g, o, cur, rfl, hg, (hb.block g (blk_lt hh) (hs g rfl)).trans hh, r⟩⟩
theorem Stk.lt {w : World} {base c : Nat} {s : Option Addr} {l : List Int} (h : Stk w base s c l) (k : Nat) (e : blkOf s = some k) : base ≤ k ∧ k < w.heap.size := by
  rcases h.ex with ⟨rfl, _⟩ | ⟨g, o, cur, rfl, hg, hh, r⟩
  · cases e
  · injection e with e
    subst e
    exact ⟨hg, blk_lt hh⟩
theorem Stk.le {w : World} {base c : Nat} {s : Option Addr} {l : List Int} (h : Stk w base s c l) : l.length ≤ c ∧ c ≤ maxLen := by
  rcases h.ex with ⟨_, rfl, rfl⟩ | ⟨g, o, cur, rfl, hg, hh, hl, ho, hc, _⟩
  · exact ⟨Nat.le_refl _, by unfold maxLen; omega⟩
  · exact ⟨hl, hc⟩
/-- The last one; and without it. -/
theorem Stk.last {w : World} {base c : Nat} {s : Option Addr} {l : List Int} {x : Int} (h : Stk w base s c (l ++ [x])) : (∃ g o, s = some ⟨g, o, none⟩ ∧ w.cell? ⟨g, o + l.length, none⟩ = some (.int .i64 x)) ∧ Stk w base s c l := by
  rcases h.ex with ⟨_, _, e⟩ | ⟨g, o, cur, rfl, hg, hh, hl, ho, hc, hx⟩
  · simp at e
  · rw [List.length_append, List.length_singleton] at hl hx
    refine ⟨⟨g, o, rfl, ?_⟩, ⟨.inr ⟨g, o, cur, rfl, hg, hh, by omega, ho, hc, fun j hj => ?_⟩⟩⟩
    · rw [blk_cell hh, hx _ (by omega), zVals_at]
      simp
    · rw [hx j (by omega), zVals_append, List.getElem?_append_left (by rw [zVals_length]; exact hj)]
/-- Without the first one. -/
theorem Stk.rest {w : World} {base c : Nat} {s : Option Addr} {l : List Int} {x : Int} (h : Stk w base s c (x :: l)) : ∃ g o s', s = some ⟨g, o, none⟩ ∧ (if c = 1 then s' = some ⟨g, o, none⟩ else s' = some ⟨g, o + 1, none⟩) ∧ Stk w base s' (c - 1) l ∧ blkOf s' = blkOf s := by
  rcases h.ex with ⟨_, _, e⟩ | ⟨g, o, cur, rfl, hg, hh, hl, ho, hc, hx⟩
  · simp at e
  · rw [List.length_cons] at hl hx
    by_cases h1 : c = 1
    · refine ⟨g, o, _, rfl, by rw [if_pos h1], ⟨.inr ⟨g, o, cur, rfl, hg, hh, by omega, by omega, by omega, fun j hj => ?_⟩⟩, rfl⟩
      omega
    · refine ⟨g, o, some ⟨g, o + 1, none⟩, rfl, by rw [if_neg h1], ⟨.inr ⟨g, o + 1, cur, rfl, hg, hh, by omega, by omega, by omega, fun j hj => ?_⟩⟩, rfl⟩
      rw [show o + 1 + j = o + (j + 1) by omega, hx (j + 1) (by omega)]
      rfl

/-- One more. -/
theorem push_run (w : World) (base c q : Nat) (s : Option Addr) (l : List Int) (x : Int) (ty : TypeId) (hq : w.cell? ⟨q, 0, none⟩ = some (.int .i64 x)) (h : Stk w base s c l) (hl : l.length ≤ 1000) (hb : base ≤ w.heap.size) :
    ∃ s' c' w', (Builtin.append_ #[63, 63] ty #[.slice s l.length c, .slice (some ⟨q, 0, none⟩) 1 1]).run Tryd.prog w = .ok (.slice s' (l.length + 1) c') w' ∧ Stk w' base s' c' (l ++ [x]) ∧ But (fun k => blkOf s = some k) w w' ∧ (blkOf s' = blkOf s ∨ blkOf s' = some w.heap.size) := by
  obtain ⟨i, hi, hz0, hz1, hz2⟩ := info_parts info_i64
  have hnew : ∀ j u, (zVals [x])[j]? = some u → w.cell? ((⟨q, 0, none⟩ : Addr).add j) = some u := fun j u hu => by
    rw [addr_add, Nat.zero_add]
    match j with
    | 0 => rw [hq]; simpa [zVals] using hu
    | j + 1 => simp [zVals] at hu
  have hsrc : Src Tryd.prog i.size 63 (.slice (some ⟨q, 0, none⟩) 1 1) 1 (zVals [x]) w := by
    rw [hz1]
    exact Src.ofSlice (P := Tryd.prog) w Tryd.underlying63 ⟨q, 0, none⟩ 1 1 (zVals [x]) (by rw [zVals_length]; rfl) hnew (zVals_one [x])
  have hmax : (1001 : Nat) ≤ maxLen := by unfold maxLen; omega
  have hle := h.le
  by_cases hroom : l.length + 1 ≤ c
  · rcases h.ex with ⟨_, rfl, rfl⟩ | ⟨g, o, cur, rfl, hg, hh, _, ho, hc, hx⟩
    · simp at hroom
    · have hcel : ∀ j, j < (zVals [x]).length → (w.cell? ⟨g, o + l.length * i.size + j, none⟩).isSome = true := fun j hj => by
        rw [hz1, Nat.mul_one, blk_cell hh, Array.getElem?_eq_getElem (by rw [zVals_length, List.length_singleton] at hj; omega)]
        rfl
      have hr := run_append_room_src (P := Tryd.prog) w 63 63 ty 3 i Tryd.underlying63 hi g o l.length c _ 1 (zVals [x]) hsrc hroom hcel (fun j _ => blk_frozen hh _)
      rw [hz1, Nat.mul_one] at hr
      refine ⟨_, _, _, hr, ⟨.inr ⟨g, o, cur.setIfInBounds (o + l.length) (.int .i64 x), rfl, hg, ?_, ?_, ?_, hc, fun j hj => ?_⟩⟩, ?_, .inl rfl⟩
      · show (w.setCell ⟨g, o + l.length, none⟩ (.int .i64 x)).heap[g]? = _
        simp [World.setCell, Array.getElem?_modify, hh]
      · rw [List.length_append]; exact hroom
      · rw [Array.size_setIfInBounds]; exact ho
      · rw [List.length_append, List.length_singleton] at hj
        by_cases e : j = l.length
        · subst e
          rw [Array.getElem?_setIfInBounds_self_of_lt (by omega), zVals_at]
          simp
        · rw [Array.getElem?_setIfInBounds_ne (by omega), hx j (by omega), zVals_append, List.getElem?_append_left (by rw [zVals_length]; omega)]
      · exact (But_setCells g (zVals [x]) (o + l.length) w).mono (fun k _ e => by rw [e]; rfl)
  · have holds : (Builtin.firstCells i.size l.length (.slice s l.length c)).run Tryd.prog w.drew = .ok (zVals l).toArray w.drew := by
      rw [hz1]
      rcases h.ex with ⟨rfl, rfl, rfl⟩ | ⟨g, o, cur, rfl, hg, hh, _, ho, hc, hx⟩
      · exact run_firstCells_none w.drew 1 0 0 0
      · refine run_firstCells_some w.drew 1 l.length ⟨g, o, none⟩ l.length c (zVals l) (by rw [zVals_length, Nat.mul_one]) (fun j u hu => ?_)
        have hj : j < l.length := by
          have := (List.getElem?_eq_some_iff.1 hu).1
          rwa [zVals_length] at this
        rw [addr_add]
        show w.cell? _ = _
        rw [blk_cell hh, hx j hj, hu]
    have hr := run_append_grow_src (P := Tryd.prog) w 63 63 ty 3 i (.int .i64 0) Tryd.underlying63 hi hz0 s l.length c (zVals l) holds _ 1 (zVals [x]) hsrc (by omega) (by omega) (by rw [hz2]; exact growslice_fits (by omega) (by omega))
    have hge := grownCap_ge w (l.length + 1) c 3
    have hcm2 : grownCap w (l.length + 1) c 3 ≤ maxLen := grownCap_le_maxLen w (l.length + 1) c 3 (by omega)
    have hnw := heap_alloc_new w.drew (.cells ((zVals l ++ zVals [x]).toArray ++ Builtin.zeroCells (Value.int .i64 0).cells (grownCap w (l.length + 1) c 3 - (l.length + 1))) 3)
    have hz1' : (Value.int IntKind.i64 0).cells.size = 1 := rfl
    refine ⟨_, _, _, hr, ⟨.inr ⟨w.heap.size, 0, _, rfl, hb, hnw, by rw [List.length_append]; exact hge, ?_, hcm2, fun j hj => ?_⟩⟩, ⟨rfl, rfl, rfl, by simp, fun k hk _ => Below.heap_alloc w.drew _ k hk⟩, .inr rfl⟩
    · simp only [Array.size_append, List.size_toArray, List.length_append, size_zeroCells, hz1', zVals_length, List.length_singleton]
      omega
    · rw [List.length_append, List.length_singleton] at hj
      rw [Nat.zero_add, zVals_append, Array.getElem?_append_left (by simp [zVals_length]; omega)]
      simp

theorem wpList_push (w : World) {ops : Array Oper} {rest : List Oper} {o : Oper} {a : Act} {Q : Exit → Act → World → Prop} (hgd : o.guard = none) (sx x : Operand)
    (ho : o.op = .call { callee := .builtin .append, args := #[sx, x], argTypes := #[63, 63] }) (base c q : Nat) (s : Option Addr) (l : List Int) (z : Int) (hs : a.eval sx = .slice s l.length c) (hx : a.eval x = .slice (some ⟨q, 0, none⟩) 1 1)
    (hq : w.cell? ⟨q, 0, none⟩ = some (.int .i64 z)) (hst : Stk w base s c l) (hl : l.length ≤ 1000) (hb : base ≤ w.heap.size)
    (h : ∀ s' c' w', Stk w' base s' c' (l ++ [z]) → But (fun k => blkOf s = some k) w w' → (blkOf s' = blkOf s ∨ blkOf s' = some w.heap.size) → wpList Tryd.prog ops Q rest (a.put o.dst (.slice s' (l.length + 1) c')) w') : wpList Tryd.prog ops Q (o :: rest) a w := by
  obtain ⟨s', c', w', h1, h2, h3, h4⟩ := push_run w base c q s l z o.type hq hst hl hb
  refine wpList_plain hgd fun _ hK => ?_
  unfold Oper.wp execOp
  simp only [ho, resolve, invoke, builtin, Sem.run_bind, Sem.run_pure, Result.andThen_ok, List.map_toArray, List.map_cons, List.map_nil, hs, hx, h1]
  exact hK _ _ (h s' c' w' h2 h3 h4)

/-- A past of numbers in memory: its line, the place of now, how many are kept. -/
structure PastAt (w : World) (base q g c : Nat) (Z : List Int) (at_ most : Nat) : Prop where
  box : w.heap[q]? = some (.cells #[.slice (some ⟨g, 0, none⟩) Z.length c, .int .i64 (at_ : Int), .int .i64 (most : Int)] 97)
  row : ∃ cur : Array Value, w.heap[g]? = some (.cells cur 3) ∧ ∀ j, j < Z.length → cur[j]? = (zVals Z)[j]?
  bq : base ≤ q
  bg : base ≤ g
  ne : g ≠ q
  le : Z.length ≤ c
  lt : at_ < Z.length

theorem PastAt.but {w w' : World} {base q g c : Nat} {Z : List Int} {at_ most : Nat} {S : Nat → Prop} (h : PastAt w base q g c Z at_ most) (hb : But S w w') (h1 : ¬ S q) (h2 : ¬ S g) : PastAt w' base q g c Z at_ most := by
  obtain ⟨cur, hc, hx⟩ := h.row
  exact ⟨(hb.block q (blk_lt h.box) h1).trans h.box, ⟨cur, (hb.block g (blk_lt hc) h2).trans hc, hx⟩, h.bq, h.bg, h.ne, h.le, h.lt⟩
theorem PastAt.below {w w' : World} {base q g c : Nat} {Z : List Int} {at_ most : Nat} (h : PastAt w base q g c Z at_ most) (hb : Below w.heap.size w w') : PastAt w' base q g c Z at_ most := by
  obtain ⟨cur, hc, hx⟩ := h.row
  exact ⟨(hb.block q (blk_lt h.box)).trans h.box, ⟨cur, (hb.block g (blk_lt hc)).trans hc, hx⟩, h.bq, h.bg, h.ne, h.le, h.lt⟩
theorem Stk.below {w w' : World} {base c : Nat} {s : Option Addr} {l : List Int} (h : Stk w base s c l) (hb : Below w.heap.size w w') : Stk w' base s c l := by
  rcases h.ex with h1 | ⟨g, o, cur, rfl, hg, hh, r⟩
  · exact ⟨.inl h1⟩
  · exact ⟨.inr ⟨g, o, cur, rfl, hg, (hb.block g (blk_lt hh)).trans hh, r⟩⟩
theorem PastAt.cells {w : World} {base q g c : Nat} {Z : List Int} {at_ most : Nat} (h : PastAt w base q g c Z at_ most) :
    w.cell? ⟨q, 0, none⟩ = some (.slice (some ⟨g, 0, none⟩) Z.length c) ∧ w.cell? ⟨q, 1, none⟩ = some (.int .i64 (at_ : Int)) ∧ w.cell? ⟨q, 2, none⟩ = some (.int .i64 (most : Int)) ∧ (∀ j, w.frozen? ⟨q, j, none⟩ = false) ∧ q < w.heap.size :=
  ⟨by rw [blk_cell h.box]; rfl, by rw [blk_cell h.box]; rfl, by rw [blk_cell h.box]; rfl, fun j => blk_frozen h.box j, blk_lt h.box⟩
theorem PastAt.now {w : World} {base q g c : Nat} {Z : List Int} {at_ most : Nat} (h : PastAt w base q g c Z at_ most) (x : Int) (hx : Z[at_]? = some x) : w.cell? ⟨g, at_, none⟩ = some (.int .i64 x) := by
  obtain ⟨cur, hc, hr⟩ := h.row
  rw [blk_cell hc, hr _ h.lt, zVals_at, hx]
  rfl
theorem PastAt.setAt {w : World} {base q g c : Nat} {Z : List Int} {at_ most : Nat} (h : PastAt w base q g c Z at_ most) (n : Nat) (hn : n < Z.length) : PastAt (w.setCell ⟨q, 1, none⟩ (.int .i64 (n : Int))) base q g c Z n most := by
  obtain ⟨cur, hc, hx⟩ := h.row
  refine ⟨?_, ⟨cur, ?_, hx⟩, h.bq, h.bg, h.ne, h.le, hn⟩
  · simp [World.setCell, Array.getElem?_modify, h.box]
  · rw [Below.heap_setCell _ _ _ _ h.ne]
    exact hc
end Go.Proofs.YtkdckcengmkhhajDoor
