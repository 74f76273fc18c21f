/- Rows of bytes of a call's own, marked by a conversion or not. -/
import Derived.Test.YtjcoahahponabaaDoorMg2
import Derived.Test.YtjcoahahponabaaDoorMg4
import Derived.Test.YtjcoahahponabaaDoorMg3
import Derived.Deep.AppendSrc
import Derived.Deep.MidRow
namespace Go.Proofs.YtjcoahahponabaaDoor
open Go.RowKit

/-- A row of bytes of a call's own, whose cells may be written. -/
structure OwnM (w : World) (base : Nat) (v : Value) (l : List UInt8) : Prop where
  ex : ∃ g cap, v = .slice (some ⟨g, 0, none⟩) l.length cap ∧ base ≤ g ∧ g < w.heap.size ∧ l.length ≤ cap ∧ cap ≤ maxLen ∧
    (∀ j, j < cap → (w.cell? ⟨g, j, none⟩).isSome = true ∧ w.frozen? ⟨g, j, none⟩ = false) ∧ ∀ j (h : j < l.length), w.cell? ⟨g, j, none⟩ = some (.int .u8 (l[j].toNat : Int))

theorem But_setCells (g : Nat) : ∀ (vs : List Value) (o : Nat) (w : World), But (· = g) w (w.setCells g o vs)
  | [], _, w => But.refl _ w
  | v :: r, o, w => ((But.refl (· = g) w).setCell (p := ⟨g, o, none⟩) rfl v).trans (But_setCells g r (o + 1) (w.setCell ⟨g, o, none⟩ v))

theorem byteCells_is (s : ByteArray) : byteCells s = byteVals s.data.toList := rfl

theorem appMs (w : World) (base : Nat) (v : Value) (l m : List UInt8) (tx ty : TypeId) (x : Value) (hsrc1 : Src Tryd.prog 1 tx x m.length (byteVals m) w) (h : OwnM w base v l) (hl : l.length + m.length ≤ 4000000) (hb : base ≤ w.heap.size) :
    ∃ v' w', (Builtin.append_ #[73, tx] ty #[v, x]).run Tryd.prog w = .ok v' w' ∧ OwnM w' base v' (l ++ m) ∧ w.grownBy w' v.ownBlock ∧ (v'.ownBlock = v.ownBlock ∨ v'.ownBlock = some w.heap.size) := by
  obtain ⟨g, cap, rfl, hg, hgl, hlc, hcm, hfree, hcell⟩ := h.ex
  obtain ⟨i, hi, hz0, hz1, hz2⟩ := info_parts info_u8
  have hsrc : Src Tryd.prog i.size tx x m.length (byteVals m) w := by rw [hz1]; exact hsrc1
  have hbl : (byteVals m).length = m.length := byteVals_length m
  have hmax : (4000000 : Nat) ≤ maxLen := by unfold maxLen; omega
  by_cases hroom : l.length + m.length ≤ cap
  · have hc : ∀ j, j < (byteVals m).length → (w.cell? ⟨g, 0 + l.length * i.size + j, none⟩).isSome = true := fun j hj => by
      rw [hz1, Nat.zero_add, Nat.mul_one]
      exact (hfree _ (by omega)).1
    have hr := run_append_room_src (P := Tryd.prog) w 73 tx ty 5 i Tryd.underlying73 hi g 0 l.length cap x m.length (byteVals m) hsrc hroom hc
      (fun j hj => by rw [hz1, Nat.zero_add, Nat.mul_one]; exact (hfree _ (by omega)).2)
    rw [hz1, Nat.zero_add, Nat.mul_one] at hr hc
    have hbut := But_setCells g (byteVals m) l.length w
    refine ⟨_, _, hr, ⟨⟨g, cap, by rw [List.length_append], hg, Nat.lt_of_lt_of_le hgl hbut.size, by rw [List.length_append]; exact hroom, hcm, fun j hj => ⟨?_, ?_⟩, fun j hj => ?_⟩⟩, hbut.grownBy, .inl rfl⟩
    · exact World.isSome_setCells g (byteVals m) l.length w _ (hfree j hj).1
    · rw [World.frozen?_setCells]; exact (hfree j hj).2
    · rw [List.length_append] at hj
      rcases Nat.lt_or_ge j l.length with q | q
      · rw [World.cell?_setCells_out g _ _ _ _ (fun _ _ => .inl q), List.getElem_append_left q]
        exact hcell j q
      · have := World.cell?_setCells_in g (byteVals m) l.length w hc (j - l.length) (by omega)
        rw [show l.length + (j - l.length) = j by omega] at this
        rw [this, List.getElem_append_right q]
        simp [byteVals]
  · have holds : (Builtin.firstCells i.size l.length (.slice (some ⟨g, 0, none⟩) l.length cap)).run Tryd.prog w.drew = .ok (byteVals l).toArray w.drew := by
      rw [hz1]
      refine run_firstCells_some w.drew 1 l.length ⟨g, 0, none⟩ l.length cap (byteVals l) (by rw [byteVals_length, Nat.mul_one]) (fun j u hu => ?_)
      rw [byteVals_at] at hu
      have hj : j < l.length := by
        rcases Nat.lt_or_ge j l.length with q | q
        · exact q
        · rw [List.getElem?_eq_none q] at hu; cases hu
      rw [List.getElem?_eq_getElem hj] at hu
      rw [addr_add, Nat.zero_add]
      exact (hcell j hj).trans hu
    have hr := run_append_grow_src (P := Tryd.prog) w 73 tx ty 5 i (.int .u8 0) Tryd.underlying73 hi hz0 (some ⟨g, 0, none⟩) l.length cap (byteVals l) holds x m.length (byteVals m) hsrc (by omega) (by omega) (by rw [hz2]; exact growslice_fits (by omega) (by omega))
    have hge := grownCap_ge w (l.length + m.length) cap 5
    have hcm2 : grownCap w (l.length + m.length) cap 5 ≤ maxLen := grownCap_le_maxLen w (l.length + m.length) cap 5 (by omega)
    have hnew := heap_alloc_new w.drew (.cells ((byteVals l ++ byteVals m).toArray ++ Builtin.zeroCells (Value.int .u8 0).cells (grownCap w (l.length + m.length) cap 5 - (l.length + m.length))) 5)
    have hsz : ((byteVals l ++ byteVals m).toArray ++ Builtin.zeroCells (Value.int .u8 0).cells (grownCap w (l.length + m.length) cap 5 - (l.length + m.length))).size = grownCap w (l.length + m.length) cap 5 := by
      have hz1' : (Value.int IntKind.u8 0).cells.size = 1 := rfl
      simp only [Array.size_append, List.size_toArray, List.length_append, size_zeroCells, hz1', byteVals_length, hbl]
      omega
    refine ⟨_, _, hr, ⟨⟨w.heap.size, _, by rw [List.length_append], hb, by simp, by rw [List.length_append]; exact hge, hcm2, fun j hj => ⟨?_, ?_⟩, fun j hj => ?_⟩⟩, ⟨rfl, rfl, rfl, by simp, fun k hk _ => Below.heap_alloc w.drew _ k hk⟩, .inr rfl⟩
    · show ((w.drew.alloc _).cell? ⟨w.drew.heap.size, j, none⟩).isSome = true
      simp only [World.cell?, hnew]
      have hj2 : j < ((byteVals l ++ byteVals m).toArray ++ Builtin.zeroCells (Value.int .u8 0).cells (grownCap w (l.length + m.length) cap 5 - (l.length + m.length))).size := by rw [hsz]; exact hj
      simp only [Array.getElem?_eq_getElem hj2]
      rfl
    · show (w.drew.alloc _).frozen? ⟨w.drew.heap.size, j, none⟩ = false
      simp only [World.frozen?, hnew]
      simp
    · show (w.drew.alloc _).cell? ⟨w.drew.heap.size, j, none⟩ = _
      simp only [World.cell?, hnew]
      rw [List.length_append] at hj
      have e : (byteVals l ++ byteVals m) = byteVals (l ++ m) := by rw [byteVals_append]
      rw [e, Array.getElem?_append_left (by simp [byteVals_length]; omega)]
      have hj3 : j < (l ++ m).length := by rw [List.length_append]; exact hj
      simp only [List.getElem?_toArray, byteVals_at, List.getElem?_eq_getElem hj3]
      rfl

/-- .. a text behind it; .. bytes out of a block. -/
theorem appM (w : World) (base : Nat) (v : Value) (l : List UInt8) (y : ByteArray) (ty : TypeId) (h : OwnM w base v l) (hl : l.length + y.size ≤ 4000000) (hb : base ≤ w.heap.size) :
    ∃ v' w', (Builtin.append_ #[73, 9] ty #[v, .string y]).run Tryd.prog w = .ok v' w' ∧ OwnM w' base v' (l ++ y.data.toList) ∧ w.grownBy w' v.ownBlock ∧ (v'.ownBlock = v.ownBlock ∨ v'.ownBlock = some w.heap.size) :=
  appMs w base v l y.data.toList 9 ty (.string y) (by
    have := Src.ofString (P := Tryd.prog) w Tryd.underlying9 y
    rwa [show y.size = y.data.toList.length from Array.length_toList.symm] at this) h (by rw [show y.data.toList.length = y.size from Array.length_toList]; exact hl) hb
theorem appMn (w : World) (base q : Nat) (v : Value) (l m : List UInt8) (ty : TypeId) (hq : ∀ j u, (byteVals m)[j]? = some u → w.cell? ⟨q, j, none⟩ = some u) (h : OwnM w base v l) (hl : l.length + m.length ≤ 4000000) (hb : base ≤ w.heap.size) :
    ∃ v' w', (Builtin.append_ #[73, 73] ty #[v, .slice (some ⟨q, 0, none⟩) m.length m.length]).run Tryd.prog w = .ok v' w' ∧ OwnM w' base v' (l ++ m) ∧ w.grownBy w' v.ownBlock ∧ (v'.ownBlock = v.ownBlock ∨ v'.ownBlock = some w.heap.size) :=
  appMs w base v l m 73 ty _ (Src.ofSlice (P := Tryd.prog) w Tryd.underlying73 ⟨q, 0, none⟩ m.length m.length (byteVals m) (by rw [byteVals_length, Nat.mul_one]) (fun j u hj => by rw [addr_add, Nat.zero_add]; exact hq j u hj) (fun u hu => by
    obtain ⟨b, _, rfl⟩ := List.mem_map.1 hu
    rfl)) h hl hb
theorem wpList_appMn (w : World) {ops : Array Oper} {rest : List Oper} {o : Oper} {a : Act} {Q : Exit → Act → World → Prop} (hgd : o.guard = none) (s x : Operand)
    (ho : o.op = .call { callee := .builtin .append, args := #[s, x], argTypes := #[73, 73] }) (base q k : Nat) (v : Value) (l m : List UInt8) (hs : a.eval s = v) (hx : a.eval x = .slice (some ⟨q, 0, none⟩) k k) (hk : m.length = k)
    (hown : OwnM w base v l) (hq : ∀ j u, (byteVals m)[j]? = some u → w.cell? ⟨q, j, none⟩ = some u) (hl : l.length + m.length ≤ 4000000) (hb : base ≤ w.heap.size)
    (h : ∀ v' w', OwnM w' base v' (l ++ m) → w.grownBy w' v.ownBlock → wpList Tryd.prog ops Q rest (a.put o.dst v') w') : wpList Tryd.prog ops Q (o :: rest) a w := by
  subst hk
  obtain ⟨v', w', h1, h2, h3, _⟩ := appMn w base q v l m o.type hq hown hl hb
  refine wpList_plain hgd fun _ hK => ?_
  unfold Oper.wp execOp
  simp only [ho, resolve, invoke, builtin, Sem.run_bind, Sem.run_pure, Result.andThen_ok, List.map_toArray, List.map_cons, List.map_nil, hs, hx, h1]
  exact hK _ _ (h v' w' h2 h3)

theorem wpList_appM (w : World) {ops : Array Oper} {rest : List Oper} {o : Oper} {a : Act} {Q : Exit → Act → World → Prop} (hgd : o.guard = none) (s x : Operand)
    (ho : o.op = .call { callee := .builtin .append, args := #[s, x], argTypes := #[73, 9] }) (base : Nat) (v : Value) (l : List UInt8) (y : ByteArray) (hs : a.eval s = v) (hx : a.eval x = .string y)
    (hown : OwnM w base v l) (hl : l.length + y.size ≤ 4000000) (hb : base ≤ w.heap.size)
    (h : ∀ v' w', OwnM w' base v' (l ++ y.data.toList) → w.grownBy w' v.ownBlock → (v'.ownBlock = v.ownBlock ∨ v'.ownBlock = some w.heap.size) → wpList Tryd.prog ops Q rest (a.put o.dst v') w') : wpList Tryd.prog ops Q (o :: rest) a w := by
  obtain ⟨v', w', h1, h2, h3, h4⟩ := appM w base v l y o.type hown hl hb
  refine wpList_plain hgd fun _ hK => ?_
  unfold Oper.wp execOp
  simp only [ho, resolve, invoke, builtin, Sem.run_bind, Sem.run_pure, Result.andThen_ok, List.map_toArray, List.map_cons, List.map_nil, hs, hx, h1]
  exact hK _ _ (h v' w' h2 h3 h4)

theorem OwnM.shape {w : World} {base : Nat} {v : Value} {l : List UInt8} (h : OwnM w base v l) : ∃ a c, v = .slice a l.length c := by
  obtain ⟨g, cap, rfl, _⟩ := h.ex
  exact ⟨_, _, rfl⟩
theorem OwnM.lt {w : World} {base : Nat} {v : Value} {l : List UInt8} (h : OwnM w base v l) (k : Nat) (e : v.ownBlock = some k) : base ≤ k ∧ k < w.heap.size := by
  obtain ⟨g, cap, rfl, hg, hgl, _⟩ := h.ex
  have : g = k := by simpa [Value.ownBlock] using e
  omega
theorem OwnM.keep {w w' : World} {base : Nat} {v : Value} {l : List UInt8} (h : OwnM w base v l) (hb : ∀ k, v.ownBlock = some k → w'.heap[k]? = w.heap[k]?) (hs : w.heap.size ≤ w'.heap.size) : OwnM w' base v l := by
  obtain ⟨g, cap, rfl, hg, hgl, hlc, hcm, hfree, hcell⟩ := h.ex
  have hk := hb g rfl
  have e1 : ∀ j, w'.cell? ⟨g, j, none⟩ = w.cell? ⟨g, j, none⟩ := fun j => World.cell?_of_block hk
  have e2 : ∀ j, w'.frozen? ⟨g, j, none⟩ = w.frozen? ⟨g, j, none⟩ := fun j => World.frozen?_of_block hk
  exact ⟨⟨g, cap, rfl, hg, by omega, hlc, hcm, fun j hj => by rw [e1, e2]; exact hfree j hj, fun j hj => by rw [e1]; exact hcell j hj⟩⟩
theorem OwnM.below {w w' : World} {base : Nat} {v : Value} {l : List UInt8} (h : OwnM w base v l) (hb : Below w.heap.size w w') : OwnM w' base v l :=
  h.keep (fun k e => hb.block k (h.lt k e).2) hb.size
theorem OwnM.text {w : World} {base : Nat} {v : Value} {l : List UInt8} (h : OwnM w base v l) : (convert 73 9 v).run Tryd.prog w = .ok (.string ⟨l.toArray⟩) w := by
  obtain ⟨g, cap, rfl, hg, hgl, hlc, hcm, hfree, hcell⟩ := h.ex
  refine run_convert_bytes_back w 73 9 5 _ cap l Tryd.underlying73 Tryd.underlying5 Tryd.underlying9 (fun j hj => ?_)
  rw [addr_add, Nat.zero_add]
  exact hcell j hj

/-- The bytes of a text, in memory. -/
theorem to_bytesM (w : World) (s : ByteArray) (hl : s.size ≤ maxLen) : ∃ v w2, (convert 9 73 (.string s)).run Tryd.prog w = .ok v w2 ∧ OwnM w2 w.heap.size v s.data.toList ∧ Below w.heap.size w w2 := by
  have h := run_bytes_of_string (P := Tryd.prog) w 9 73 5 s Tryd.underlying9 Tryd.underlying73 Tryd.underlying5
  have hz : (bytesRow s (grownCap w s.size 0 5)).size = grownCap w s.size 0 5 := by
    have := grownCap_ge w s.size 0 5
    simp [bytesRow]
    omega
  have hnew := heap_alloc_new w.drew (.cells (bytesRow s (grownCap w s.size 0 5)) 5 ((bytesRow s (grownCap w s.size 0 5)).size, (bytesRow s (grownCap w s.size 0 5)).size + 1))
  have hys : s.data.toList.length = s.size := by simp
  refine ⟨_, _, h, ⟨⟨w.heap.size, grownCap w s.size 0 5, by rw [hys], Nat.le_refl _, by simp, by rw [hys]; exact grownCap_ge _ _ _ _, grownCap_le_maxLen _ _ _ _ hl, fun j hj => ⟨?_, ?_⟩, fun j hj => ?_⟩⟩, (Below.refl _ _).drew.alloc (Nat.le_refl _) _⟩
  · show ((w.drew.alloc _).cell? ⟨w.drew.heap.size, j, none⟩).isSome = true
    simp only [World.cell?, hnew]
    have hj2 : j < (bytesRow s (grownCap w s.size 0 5)).size := by rw [hz]; exact hj
    simp only [Array.getElem?_eq_getElem hj2]
    rfl
  · show (w.drew.alloc _).frozen? ⟨w.drew.heap.size, j, none⟩ = false
    simp only [World.frozen?, hnew]
    simp
    omega
  · show (w.drew.alloc _).cell? ⟨w.drew.heap.size, j, none⟩ = _
    simp only [World.cell?, hnew]
    rw [hys] at hj
    rw [bytesRow_at s _ j hj]
    simp
end Go.Proofs.YtjcoahahponabaaDoor
