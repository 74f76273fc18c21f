/- Rows of bytes of a call's own, marked by a conversion or not; rows of listed words. -/
import Derived.Test.YtmmilamaahmaoaeDoorTx
import Derived.Test.YtmmilamaahmaoaeDoorAp
import Derived.Test.YtmmilamaahmaoaeDoorBu
import Derived.Deep.AppendSrc
import Derived.Deep.MidRow
namespace Go.Proofs.YtmmilamaahmaoaeDoor
open Go.RowKit

/-- A row of bytes of a call's own, whose cells may be written. -/
structure OwnM (w : World) (base : Nat) (v : Value) (l : List UInt8) : Prop where
  ex : ∃ g cap, v = .slice (some ⟨g, 0, none⟩) l.length cap ∧ base ≤ g ∧ g < w.heap.size ∧ l.length ≤ cap ∧ cap ≤ maxLen ∧
    (∀ j, j < cap → (w.cell? ⟨g, j, none⟩).isSome = true ∧ w.frozen? ⟨g, j, none⟩ = false) ∧ ∀ j (h : j < l.length), w.cell? ⟨g, j, none⟩ = some (.int .u8 (l[j].toNat : Int))

theorem But_setCells (g : Nat) : ∀ (vs : List Value) (o : Nat) (w : World), But (· = g) w (w.setCells g o vs)
  | [], _, w => But.refl _ w
  | v :: r, o, w => ((But.refl (· = g) w).setCell (p := ⟨g, o, none⟩) rfl v).trans (But_setCells g r (o + 1) (w.setCell ⟨g, o, none⟩ v))

theorem byteCells_is (s : ByteArray) : byteCells s = byteVals s.data.toList := rfl

theorem appM (w : World) (base : Nat) (v : Value) (l : List UInt8) (y : ByteArray) (ty : TypeId) (h : OwnM w base v l) (hl : l.length + y.size ≤ 4000000) (hb : base ≤ w.heap.size) :
    ∃ v' w', (Builtin.append_ #[40, 9] ty #[v, .string y]).run Tryd.prog w = .ok v' w' ∧ OwnM w' base v' (l ++ y.data.toList) ∧ w.grownBy w' v.ownBlock ∧ (v'.ownBlock = v.ownBlock ∨ v'.ownBlock = some w.heap.size) := by
  obtain ⟨g, cap, rfl, hg, hgl, hlc, hcm, hfree, hcell⟩ := h.ex
  obtain ⟨i, hi, hz0, hz1, hz2⟩ := info_parts info_u8
  have hys : y.data.toList.length = y.size := by simp
  have hsrc : Src Tryd.prog i.size 9 (.string y) y.size (byteCells y) w := by rw [hz1]; exact Src.ofString w Tryd.underlying9 y
  have hbl : (byteCells y).length = y.size := byteCells_length y
  have hmax : (4000000 : Nat) ≤ maxLen := by unfold maxLen; omega
  by_cases hroom : l.length + y.size ≤ cap
  · have hc : ∀ j, j < (byteCells y).length → (w.cell? ⟨g, 0 + l.length * i.size + j, none⟩).isSome = true := fun j hj => by
      rw [hz1, Nat.zero_add, Nat.mul_one]
      exact (hfree _ (by omega)).1
    have hr := run_append_room_src (P := Tryd.prog) w 40 9 ty 5 i Tryd.underlying40 hi g 0 l.length cap (.string y) y.size (byteCells y) hsrc hroom hc
      (fun j hj => by rw [hz1, Nat.zero_add, Nat.mul_one]; exact (hfree _ (by omega)).2)
    rw [hz1, Nat.zero_add, Nat.mul_one] at hr hc
    have hbut := But_setCells g (byteCells y) l.length w
    refine ⟨_, _, hr, ⟨⟨g, cap, by rw [List.length_append, hys], hg, Nat.lt_of_lt_of_le hgl hbut.size, by rw [List.length_append, hys]; exact hroom, hcm, fun j hj => ⟨?_, ?_⟩, fun j hj => ?_⟩⟩, hbut.grownBy, .inl rfl⟩
    · exact World.isSome_setCells g (byteCells y) l.length w _ (hfree j hj).1
    · rw [World.frozen?_setCells]; exact (hfree j hj).2
    · rw [List.length_append, hys] at hj
      rcases Nat.lt_or_ge j l.length with q | q
      · rw [World.cell?_setCells_out g _ _ _ _ (fun _ _ => .inl q), List.getElem_append_left q]
        exact hcell j q
      · have := World.cell?_setCells_in g (byteCells y) l.length w hc (j - l.length) (by omega)
        rw [show l.length + (j - l.length) = j by omega] at this
        rw [this, List.getElem_append_right q]
        simp [byteCells]
  · have holds : (Builtin.firstCells i.size l.length (.slice (some ⟨g, 0, none⟩) l.length cap)).run Tryd.prog w.drew = .ok (byteVals l).toArray w.drew := by
      rw [hz1]
      refine run_firstCells_some w.drew 1 l.length ⟨g, 0, none⟩ l.length cap (byteVals l) (by rw [byteVals_length, Nat.mul_one]) (fun j u hu => ?_)
      rw [byteVals_at] at hu
      have hj : j < l.length := by
        rcases Nat.lt_or_ge j l.length with q | q
        · exact q
        · rw [List.getElem?_eq_none q] at hu; cases hu
      rw [List.getElem?_eq_getElem hj] at hu
      rw [addr_add, Nat.zero_add]
      exact (hcell j hj).trans hu
    have hr := run_append_grow_src (P := Tryd.prog) w 40 9 ty 5 i (.int .u8 0) Tryd.underlying40 hi hz0 (some ⟨g, 0, none⟩) l.length cap (byteVals l) holds (.string y) y.size (byteCells y) hsrc (by omega) (by omega) (by rw [hz2]; exact growslice_fits (by omega) (by omega))
    have hge := grownCap_ge w (l.length + y.size) cap 5
    have hcm2 : grownCap w (l.length + y.size) cap 5 ≤ maxLen := grownCap_le_maxLen w (l.length + y.size) cap 5 (by omega)
    have hnew := heap_alloc_new w.drew (.cells ((byteVals l ++ byteCells y).toArray ++ Builtin.zeroCells (Value.int .u8 0).cells (grownCap w (l.length + y.size) cap 5 - (l.length + y.size))) 5)
    have hsz : ((byteVals l ++ byteCells y).toArray ++ Builtin.zeroCells (Value.int .u8 0).cells (grownCap w (l.length + y.size) cap 5 - (l.length + y.size))).size = grownCap w (l.length + y.size) cap 5 := by
      have hz1' : (Value.int IntKind.u8 0).cells.size = 1 := rfl
      simp only [Array.size_append, List.size_toArray, List.length_append, size_zeroCells, hz1', byteVals_length, hbl]
      omega
    refine ⟨_, _, hr, ⟨⟨w.heap.size, _, by rw [List.length_append, hys], hb, by simp, by rw [List.length_append, hys]; exact hge, hcm2, fun j hj => ⟨?_, ?_⟩, fun j hj => ?_⟩⟩, ⟨rfl, rfl, rfl, by simp, fun k hk _ => Below.heap_alloc w.drew _ k hk⟩, .inr rfl⟩
    · show ((w.drew.alloc _).cell? ⟨w.drew.heap.size, j, none⟩).isSome = true
      simp only [World.cell?, hnew]
      have hj2 : j < ((byteVals l ++ byteCells y).toArray ++ Builtin.zeroCells (Value.int .u8 0).cells (grownCap w (l.length + y.size) cap 5 - (l.length + y.size))).size := by rw [hsz]; exact hj
      simp only [Array.getElem?_eq_getElem hj2]
      rfl
    · show (w.drew.alloc _).frozen? ⟨w.drew.heap.size, j, none⟩ = false
      simp only [World.frozen?, hnew]
      simp
    · show (w.drew.alloc _).cell? ⟨w.drew.heap.size, j, none⟩ = _
      simp only [World.cell?, hnew]
      rw [List.length_append, hys] at hj
      have e : (byteVals l ++ byteCells y) = byteVals (l ++ y.data.toList) := by rw [byteVals_append, byteCells_is]
      rw [e, Array.getElem?_append_left (by simp [byteVals_length]; omega)]
      have hj3 : j < (l ++ y.data.toList).length := by rw [List.length_append, hys]; exact hj
      simp only [List.getElem?_toArray, byteVals_at, List.getElem?_eq_getElem hj3]
      rfl

theorem wpList_appM (w : World) {ops : Array Oper} {rest : List Oper} {o : Oper} {a : Act} {Q : Exit → Act → World → Prop} (hgd : o.guard = none) (s x : Operand)
    (ho : o.op = .call { callee := .builtin .append, args := #[s, x], argTypes := #[40, 9] }) (base : Nat) (v : Value) (l : List UInt8) (y : ByteArray) (hs : a.eval s = v) (hx : a.eval x = .string y)
    (hown : OwnM w base v l) (hl : l.length + y.size ≤ 4000000) (hb : base ≤ w.heap.size)
    (h : ∀ v' w', OwnM w' base v' (l ++ y.data.toList) → w.grownBy w' v.ownBlock → (v'.ownBlock = v.ownBlock ∨ v'.ownBlock = some w.heap.size) → wpList Tryd.prog ops Q rest (a.put o.dst v') w') : wpList Tryd.prog ops Q (o :: rest) a w := by
  obtain ⟨v', w', h1, h2, h3, h4⟩ := appM w base v l y o.type hown hl hb
  refine wpList_plain hgd fun _ hK => ?_
  unfold Oper.wp execOp
  simp only [ho, resolve, invoke, builtin, Sem.run_bind, Sem.run_pure, Result.andThen_ok, List.map_toArray, List.map_cons, List.map_nil, hs, hx, h1]
  exact hK _ _ (h v' w' h2 h3 h4)

theorem OwnM.shape {w : World} {base : Nat} {v : Value} {l : List UInt8} (h : OwnM w base v l) : ∃ a c, v = .slice a l.length c := by
  obtain ⟨g, cap, rfl, _⟩ := h.ex
  exact ⟨_, _, rfl⟩
theorem OwnM.lt {w : World} {base : Nat} {v : Value} {l : List UInt8} (h : OwnM w base v l) (k : Nat) (e : v.ownBlock = some k) : base ≤ k ∧ k < w.heap.size := by
  obtain ⟨g, cap, rfl, hg, hgl, _⟩ := h.ex
  have : g = k := by simpa [Value.ownBlock] using e
  omega
theorem OwnM.keep {w w' : World} {base : Nat} {v : Value} {l : List UInt8} (h : OwnM w base v l) (hb : ∀ k, v.ownBlock = some k → w'.heap[k]? = w.heap[k]?) (hs : w.heap.size ≤ w'.heap.size) : OwnM w' base v l := by
  obtain ⟨g, cap, rfl, hg, hgl, hlc, hcm, hfree, hcell⟩ := h.ex
  have hk := hb g rfl
  have e1 : ∀ j, w'.cell? ⟨g, j, none⟩ = w.cell? ⟨g, j, none⟩ := fun j => World.cell?_of_block hk
  have e2 : ∀ j, w'.frozen? ⟨g, j, none⟩ = w.frozen? ⟨g, j, none⟩ := fun j => World.frozen?_of_block hk
  exact ⟨⟨g, cap, rfl, hg, by omega, hlc, hcm, fun j hj => by rw [e1, e2]; exact hfree j hj, fun j hj => by rw [e1]; exact hcell j hj⟩⟩
theorem OwnM.below {w w' : World} {base : Nat} {v : Value} {l : List UInt8} (h : OwnM w base v l) (hb : Below w.heap.size w w') : OwnM w' base v l :=
  h.keep (fun k e => hb.block k (h.lt k e).2) hb.size
theorem OwnM.text {w : World} {base : Nat} {v : Value} {l : List UInt8} (h : OwnM w base v l) : (convert 40 9 v).run Tryd.prog w = .ok (.string ⟨l.toArray⟩) w := by
  obtain ⟨g, cap, rfl, hg, hgl, hlc, hcm, hfree, hcell⟩ := h.ex
  refine run_convert_bytes_back w 40 9 5 _ cap l Tryd.underlying40 Tryd.underlying5 Tryd.underlying9 (fun j hj => ?_)
  rw [addr_add, Nat.zero_add]
  exact hcell j hj

/-- The bytes of a text, in memory. -/
theorem to_bytesM (w : World) (s : ByteArray) (hl : s.size ≤ maxLen) : ∃ v w2, (convert 9 40 (.string s)).run Tryd.prog w = .ok v w2 ∧ OwnM w2 w.heap.size v s.data.toList ∧ Below w.heap.size w w2 := by
  have h := run_bytes_of_string (P := Tryd.prog) w 9 40 5 s Tryd.underlying9 Tryd.underlying40 Tryd.underlying5
  have hz : (bytesRow s (grownCap w s.size 0 5)).size = grownCap w s.size 0 5 := by
    have := grownCap_ge w s.size 0 5
    simp [bytesRow]
    omega
  have hnew := heap_alloc_new w.drew (.cells (bytesRow s (grownCap w s.size 0 5)) 5 ((bytesRow s (grownCap w s.size 0 5)).size, (bytesRow s (grownCap w s.size 0 5)).size + 1))
  have hys : s.data.toList.length = s.size := by simp
  refine ⟨_, _, h, ⟨⟨w.heap.size, grownCap w s.size 0 5, by rw [hys], Nat.le_refl _, by simp, by rw [hys]; exact grownCap_ge _ _ _ _, grownCap_le_maxLen _ _ _ _ hl, fun j hj => ⟨?_, ?_⟩, fun j hj => ?_⟩⟩, (Below.refl _ _).drew.alloc (Nat.le_refl _) _⟩
  · show ((w.drew.alloc _).cell? ⟨w.drew.heap.size, j, none⟩).isSome = true
    simp only [World.cell?, hnew]
    have hj2 : j < (bytesRow s (grownCap w s.size 0 5)).size := by rw [hz]; exact hj
    simp only [Array.getElem?_eq_getElem hj2]
    rfl
  · show (w.drew.alloc _).frozen? ⟨w.drew.heap.size, j, none⟩ = false
    simp only [World.frozen?, hnew]
    simp
    omega
  · show (w.drew.alloc _).cell? ⟨w.drew.heap.size, j, none⟩ = _
    simp only [World.cell?, hnew]
    rw [hys] at hj
    rw [bytesRow_at s _ j hj]
    simp

/-! ### Listed words -/
/-- Words and their numbers, from K on. -/
def lstV (K : Nat) : List (List UInt8) → List Value
  | [] => []
  | t :: T => .string ⟨t.toArray⟩ :: .int .i64 (K : Int) :: lstV (K + 1) T
theorem lstV_length (T : List (List UInt8)) : ∀ K, (lstV K T).length = T.length * 2 := by
  induction T with
  | nil => intro K; rfl
  | cons t T ih => intro K; simp [lstV, ih, Nat.add_mul]
theorem lstV_append (T : List (List UInt8)) (x : List UInt8) : ∀ K, lstV K (T ++ [x]) = lstV K T ++ [.string ⟨x.toArray⟩, .int .i64 ((K + T.length : Nat) : Int)] := by
  induction T with
  | nil => intro K; rfl
  | cons t T ih =>
    intro K
    simp only [List.cons_append, lstV, ih (K + 1), List.length_cons]
    rw [show K + 1 + T.length = K + (T.length + 1) by omega]
theorem lstV_at (T : List (List UInt8)) : ∀ (K j : Nat), j < T.length → (lstV K T)[j * 2]? = some (.string ⟨(T.getD j []).toArray⟩) ∧ (lstV K T)[j * 2 + 1]? = some (.int .i64 ((K + j : Nat) : Int)) := by
  induction T with
  | nil => intro K j h; simp at h
  | cons t T ih =>
    intro K j h
    cases j with
    | zero => exact ⟨rfl, rfl⟩
    | succ j =>
      obtain ⟨h1, h2⟩ := ih (K + 1) j (by simpa using h)
      rw [show (j + 1) * 2 = j * 2 + 1 + 1 by omega]
      refine ⟨?_, ?_⟩
      · simpa [lstV] using h1
      · rw [show K + (j + 1) = K + 1 + j by omega]
        simpa [lstV] using h2

theorem info_ls : (Tryd.prog.info? 73).map (fun i => (i.zero, i.size, i.bytes)) = some (some (.agg #[.string ⟨#[]⟩, .int .i64 0]), 2, 24) := by kernel_rfl
theorem app_ls (w : World) (base q K : Nat) (v : Value) (T : List (List UInt8)) (x : List UInt8) (t : TypeId) (hown : w.ownsRow base 73 2 v T.length (lstV K T)) (h0 : w.cell? ⟨q, 0, none⟩ = some (.string ⟨x.toArray⟩)) (h1 : w.cell? ⟨q, 1, none⟩ = some (.int .i64 ((K + T.length : Nat) : Int))) (hl : T.length ≤ 1000000) (hb : base ≤ w.heap.size) :
    ∃ v' w', (Builtin.append_ #[71, 71] t #[v, .slice (some ⟨q, 0, none⟩) 1 1]).run Tryd.prog w = .ok v' w' ∧ w'.ownsRow base 73 2 v' (T ++ [x]).length (lstV K (T ++ [x])) ∧ w.grownBy w' v.ownBlock ∧ (v'.ownBlock = v.ownBlock ∨ v'.ownBlock = some w.heap.size) := by
  obtain ⟨i0, hi, hz0, hz1, hz2⟩ := info_parts info_ls
  obtain ⟨v', w', a1, a2, a3, _, a5⟩ := run_append_own_at (P := Tryd.prog) w base 71 t 73 i0 (.agg #[.string ⟨#[]⟩, .int .i64 0]) 2 24 Tryd.underlying71 hi hz0 hz1 hz2 rfl (by omega) v T.length (lstV K T) hown ⟨q, 0, none⟩ 1 1 [.string ⟨x.toArray⟩, .int .i64 ((K + T.length : Nat) : Int)] rfl (fun j u hj => by
    rw [addr_add, Nat.zero_add]
    match j, hj with
    | 0, hj => rw [h0]; simpa using hj
    | 1, hj => rw [h1]; simpa using hj
    | j + 2, hj => simp at hj) (fun u hu => by
    simp only [List.mem_cons, List.not_mem_nil, or_false] at hu
    rcases hu with rfl | rfl <;> rfl) (by unfold maxLen; omega) (by omega) hb
  refine ⟨v', w', a1, ?_, a3, a5⟩
  rw [lstV_append, List.length_append]
  exact a2
theorem wpList_appLs (w : World) {ops : Array Oper} {rest : List Oper} {o : Oper} {a : Act} {Q : Exit → Act → World → Prop} (hgd : o.guard = none) (s x : Operand)
    (ho : o.op = .call { callee := .builtin .append, args := #[s, x], argTypes := #[71, 71] }) (base q K : Nat) (v : Value) (T : List (List UInt8)) (y : List UInt8) (hs : a.eval s = v) (hx : a.eval x = .slice (some ⟨q, 0, none⟩) 1 1)
    (hown : w.ownsRow base 73 2 v T.length (lstV K T)) (h0 : w.cell? ⟨q, 0, none⟩ = some (.string ⟨y.toArray⟩)) (h1 : w.cell? ⟨q, 1, none⟩ = some (.int .i64 ((K + T.length : Nat) : Int))) (hl : T.length ≤ 1000000) (hb : base ≤ w.heap.size)
    (h : ∀ v' w', w'.ownsRow base 73 2 v' (T ++ [y]).length (lstV K (T ++ [y])) → w.grownBy w' v.ownBlock → (v'.ownBlock = v.ownBlock ∨ v'.ownBlock = some w.heap.size) → wpList Tryd.prog ops Q rest (a.put o.dst v') w') : wpList Tryd.prog ops Q (o :: rest) a w := by
  obtain ⟨v', w', a1, a2, a3, a5⟩ := app_ls w base q K v T y o.type hown h0 h1 hl hb
  refine wpList_plain hgd fun _ hK => ?_
  unfold Oper.wp execOp
  simp only [ho, resolve, invoke, builtin, Sem.run_bind, Sem.run_pure, Result.andThen_ok, List.map_toArray, List.map_cons, List.map_nil, hs, hx, a1]
  exact hK _ _ (h v' w' a2 a3 a5)
end Go.Proofs.YtmmilamaahmaoaeDoor
