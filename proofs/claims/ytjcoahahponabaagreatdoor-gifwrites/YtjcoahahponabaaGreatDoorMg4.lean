/- A row of a call's own, and a byte more in it. Rows of pixels that are kept in a list. Rows of numbers of a call's own. Blocks that are known whole. Two pixels are alike, or one of four numbers is not. Four cells of a call's own, read and written. Pictures, made pixel by pixel of what a function tells of each place: the program's. -/
import Derived.Test.YtjcoahahponabaaGreatDoorMg2
import Derived.Below
import Derived.Test.YtjcoahahponabaaGreatDoorPx1
import Derived.Deep.OwnRows
import Derived.Laws.OwnMore
import Derived.Test.YtjcoahahponabaaGreatDoorMg3
import Derived.Test.YtjcoahahponabaaGreatDoorMg1
import Derived.Deep.RegionHeld
import Derived.Deep.QuietTactic
namespace Go.Proofs.YtjcoahahponabaaGreatDoor
open Go.RowKit

theorem addr_add (g o j : Nat) : (⟨g, o, none⟩ : Addr).add j = ⟨g, o + j, none⟩ := by unfold Addr.add; split <;> simp_all
theorem own_shape {w : World} {base n : Nat} {e : TypeId} {v : Value} {xs : List Value} (h : w.ownsRow base e 1 v n xs) : ∃ a c, v = .slice a n c ∧ (0 < n → ∃ g, a = some ⟨g, 0, none⟩ ∧ base ≤ g) := by
  rcases h.2 with ⟨rfl, rfl⟩ | ⟨g, c, cur, rfl, hb, _⟩
  · exact ⟨none, 0, rfl, fun h => by omega⟩
  · exact ⟨_, c, rfl, fun _ => ⟨g, rfl, hb⟩⟩


/-! ### A byte more -/
theorem app_u8 (w : World) (base q : Nat) (v : Value) (l : List UInt8) (b : UInt8) (t : TypeId) (hown : w.ownsRow base 5 1 v l.length (byteVals l)) (hq : w.cell? ⟨q, 0, none⟩ = some (.int .u8 (b.toNat : Int))) (hl : l.length ≤ 1000000) (hb : base ≤ w.heap.size) :
    ∃ v' w', (Builtin.append_ #[107, 107] t #[v, .slice (some ⟨q, 0, none⟩) 1 1]).run Tryz.prog w = .ok v' w' ∧ w'.ownsRow base 5 1 v' (l ++ [b]).length (byteVals (l ++ [b])) ∧ w.grownBy w' v.ownBlock ∧ (v'.ownBlock = v.ownBlock ∨ v'.ownBlock = some w.heap.size) := by
  obtain ⟨i0, hi, hz0, hz1, hz2⟩ := info_parts info_u8
  obtain ⟨v', w', h1, h2, h3, h4, h5⟩ := run_append_own_at (P := Tryz.prog) w base 107 t 5 i0 (.int .u8 0) 1 1 Tryz.underlying107 hi hz0 hz1 hz2 rfl (by omega) v l.length (byteVals l) hown ⟨q, 0, none⟩ 1 1 [.int .u8 (b.toNat : Int)] rfl (fun j u hj => by
    match j, hj with
    | 0, hj => rw [addr_add, Nat.zero_add, hq]; simpa using hj) (fun u hu => by rw [List.mem_singleton] at hu; subst hu; rfl) (by unfold maxLen; omega) (by omega) hb
  refine ⟨v', w', h1, ?_, h3, h5⟩
  rw [byteVals_append, List.length_append]
  exact h2

theorem wpList_appB (w : World) {ops : Array Oper} {rest : List Oper} {o : Oper} {a : Act} {Q : Exit → Act → World → Prop} (hgd : o.guard = none) (s x : Operand)
    (ho : o.op = .call { callee := .builtin .append, args := #[s, x], argTypes := #[107, 107] }) (base q : Nat) (v : Value) (l : List UInt8) (b : UInt8) (hs : a.eval s = v) (hx : a.eval x = .slice (some ⟨q, 0, none⟩) 1 1)
    (hown : w.ownsRow base 5 1 v l.length (byteVals l)) (hq : w.cell? ⟨q, 0, none⟩ = some (.int .u8 (b.toNat : Int))) (hl : l.length ≤ 1000000) (hb : base ≤ w.heap.size)
    (h : ∀ v' w', w'.ownsRow base 5 1 v' (l ++ [b]).length (byteVals (l ++ [b])) → w.grownBy w' v.ownBlock → (v'.ownBlock = v.ownBlock ∨ v'.ownBlock = some w.heap.size) → wpList Tryz.prog ops Q rest (a.put o.dst v') w') : wpList Tryz.prog ops Q (o :: rest) a w := by
  obtain ⟨v', w', h1, h2, h3, h4⟩ := app_u8 w base q v l b o.type hown hq hl hb
  refine wpList_plain hgd fun _ hK => ?_
  unfold Oper.wp execOp
  simp only [ho, resolve, invoke, builtin, Sem.run_bind, Sem.run_pure, Result.andThen_ok, List.map_toArray, List.map_cons, List.map_nil, hs, hx, h1]
  exact hK _ _ (h v' w' h2 h3 h4)

/-- .. as one step of a statement that draws its order. -/
theorem step_appB {w : World} {ops : Array Oper} {o : Oper} {a : Act} {K : Act → World → Prop} {Q : Exit → Act → World → Prop} {E : Prop} (hgd : o.guard = none) (s x : Operand)
    (ho : o.op = .call { callee := .builtin .append, args := #[s, x], argTypes := #[107, 107] }) (base q : Nat) (v : Value) (l : List UInt8) (b : UInt8) (hs : a.eval s = v) (hx : a.eval x = .slice (some ⟨q, 0, none⟩) 1 1)
    (hown : w.ownsRow base 5 1 v l.length (byteVals l)) (hq : w.cell? ⟨q, 0, none⟩ = some (.int .u8 (b.toNat : Int))) (hl : l.length ≤ 1000000) (hb : base ≤ w.heap.size)
    (h : ∀ v' w', w'.ownsRow base 5 1 v' (l ++ [b]).length (byteVals (l ++ [b])) → w.grownBy w' v.ownBlock → (v'.ownBlock = v.ownBlock ∨ v'.ownBlock = some w.heap.size) → K (a.put o.dst v') w') : if Region.wanted o (yielded ops a.tmps) = true then Oper.wp Tryz.prog o a w K Q else E := by
  have hw : Region.wanted o (yielded ops a.tmps) = true := by simp [Region.wanted, hgd]
  rw [if_pos hw]
  obtain ⟨v', w', h1, h2, h3, h5⟩ := app_u8 w base q v l b o.type hown hq hl hb
  unfold Oper.wp execOp
  simp only [ho, resolve, invoke, builtin, Sem.run_bind, Sem.run_pure, Result.andThen_ok, List.map_toArray, List.map_cons, List.map_nil, hs, hx, h1]
  exact h v' w' h2 h3 h5

end Go.Proofs.YtjcoahahponabaaGreatDoor
namespace Go.Proofs.YtjcoahahponabaaGreatDoor
open Go.RowKit

/-- The cells of pixels in a list. -/
def pxL (l : List Px) : List Value := l.flatMap Px.cells
theorem pxL_append (a b : List Px) : pxL (a ++ b) = pxL a ++ pxL b := by simp [pxL]
theorem pxL_length (l : List Px) : (pxL l).length = l.length * 4 := by
  induction l with
  | nil => rfl
  | cons x l ih =>
    show (x.cells ++ pxL l).length = _
    rw [List.length_append, ih]
    simp [Px.cells]
    omega
theorem pxL_take (l : List Px) : ∀ n, n ≤ l.length → pxL (l.take n) = pxVals (fun i => l.getD i default) n := by
  intro n
  induction n with
  | zero => intro _; rfl
  | succ n ih =>
    intro hn
    have e : l.take (n + 1) = l.take n ++ [l[n]] := (List.take_append_getElem (by omega)).symm
    rw [e, pxL_append, ih (by omega)]
    show _ ++ (l[n].cells ++ []) = _ ++ (l.getD n default).cells
    rw [List.append_nil, List.getD_eq_getElem?_getD, List.getElem?_eq_getElem (by omega)]
    rfl
theorem pxL_vals (l : List Px) : pxL l = pxVals (fun i => l.getD i default) l.length := by
  have := pxL_take l l.length (Nat.le_refl _)
  rwa [List.take_of_length_le (Nat.le_refl _)] at this

theorem app_px1 (w : World) (base q : Nat) (v : Value) (l : List Px) (x : Px) (t : TypeId) (hown : w.ownsRow base 78 4 v l.length (pxL l)) (hx : PxAt w q 0 x) (hl : l.length ≤ 1000000) (hb : base ≤ w.heap.size) :
    ∃ v' w', (Builtin.append_ #[25, 25] t #[v, .slice (some ⟨q, 0, none⟩) 1 1]).run Tryz.prog w = .ok v' w' ∧ w'.ownsRow base 78 4 v' (l ++ [x]).length (pxL (l ++ [x])) ∧ w.grownBy w' v.ownBlock ∧ (v'.ownBlock = v.ownBlock ∨ v'.ownBlock = some w.heap.size) := by
  obtain ⟨i0, hi, hz0, hz1, hz2⟩ := info_parts px_info
  obtain ⟨v', w', h1, h2, h3, h4, h5⟩ := run_append_own_at (P := Tryz.prog) w base 25 t 78 i0 (.agg #[.int .u8 0, .int .u8 0, .int .u8 0, .int .u8 0]) 4 4 Tryz.underlying25 hi hz0 hz1 hz2 rfl (by omega) v l.length (pxL l) hown ⟨q, 0, none⟩ 1 1 x.cells rfl (fun j u hj => by
    have hadd : (⟨q, 0, none⟩ : Addr).add j = ⟨q, 0 + j, none⟩ := by unfold Addr.add; split <;> simp_all
    rw [hadd]
    match j, hj with
    | 0, hj => rw [← hj]; exact hx.r
    | 1, hj => rw [← hj]; exact hx.g
    | 2, hj => rw [← hj]; exact hx.b
    | 3, hj => rw [← hj]; exact hx.a
    | j + 4, hj => simp [Px.cells] at hj) (fun u hu => by
    simp only [Px.cells, List.mem_cons, List.not_mem_nil, or_false] at hu
    rcases hu with rfl | rfl | rfl | rfl <;> rfl) (by unfold maxLen; omega) (by omega) hb
  refine ⟨v', w', h1, ?_, h3, h5⟩
  rw [pxL_append, List.length_append]
  have e : pxL [x] = x.cells := by simp [pxL]
  rw [e]
  exact h2
theorem wpList_appPx1 (w : World) {ops : Array Oper} {rest : List Oper} {o : Oper} {a : Act} {Q : Exit → Act → World → Prop} (hgd : o.guard = none) (s x : Operand)
    (ho : o.op = .call { callee := .builtin .append, args := #[s, x], argTypes := #[25, 25] }) (base q : Nat) (v : Value) (l : List Px) (p : Px) (hs : a.eval s = v) (hx : a.eval x = .slice (some ⟨q, 0, none⟩) 1 1)
    (hown : w.ownsRow base 78 4 v l.length (pxL l)) (hq : PxAt w q 0 p) (hl : l.length ≤ 1000000) (hb : base ≤ w.heap.size)
    (h : ∀ v' w', w'.ownsRow base 78 4 v' (l ++ [p]).length (pxL (l ++ [p])) → w.grownBy w' v.ownBlock → (v'.ownBlock = v.ownBlock ∨ v'.ownBlock = some w.heap.size) → wpList Tryz.prog ops Q rest (a.put o.dst v') w') : wpList Tryz.prog ops Q (o :: rest) a w := by
  obtain ⟨v', w', h1, h2, h3, h4⟩ := app_px1 w base q v l p o.type hown hq hl hb
  refine wpList_plain hgd fun _ hK => ?_
  unfold Oper.wp execOp
  simp only [ho, resolve, invoke, builtin, Sem.run_bind, Sem.run_pure, Result.andThen_ok, List.map_toArray, List.map_cons, List.map_nil, hs, hx, h1]
  exact hK _ _ (h v' w' h2 h3 h4)
theorem own_shape4 {w : World} {base n : Nat} {e : TypeId} {v : Value} {xs : List Value} (h : w.ownsRow base e 4 v n xs) : ∃ a c, v = .slice a n c := by
  rcases h.2 with ⟨rfl, rfl⟩ | ⟨g, c, cur, rfl, _⟩
  · exact ⟨none, 0, rfl⟩
  · exact ⟨_, c, rfl⟩
theorem own_stay {w w' : World} {base size n : Nat} {e : TypeId} {v : Value} {xs : List Value} (h : w.ownsRow base e size v n xs) (hb : ∀ g, v.ownBlock = some g → w'.heap[g]? = w.heap[g]?) : w'.ownsRow base e size v n xs := by
  obtain ⟨h1, h2⟩ := h
  refine ⟨h1, ?_⟩
  rcases h2 with h2 | ⟨g, cap, cur, hv, hg, hh, r⟩
  · exact Or.inl h2
  · exact Or.inr ⟨g, cap, cur, hv, hg, by rw [hb g (by rw [hv]; rfl)]; exact hh, r⟩

theorem four_new (w : World) (x : Px) (t : TypeId) : PxAt (w.alloc (.cells #[.int .u8 (x.r.toNat : Int), .int .u8 (x.g.toNat : Int), .int .u8 (x.b.toNat : Int), .int .u8 (x.a.toNat : Int)] t)) w.heap.size 0 x := by
  have c : ∀ j, (w.alloc (.cells #[.int .u8 (x.r.toNat : Int), .int .u8 (x.g.toNat : Int), .int .u8 (x.b.toNat : Int), .int .u8 (x.a.toNat : Int)] t)).cell? ⟨w.heap.size, j, none⟩ = (#[.int .u8 (x.r.toNat : Int), .int .u8 (x.g.toNat : Int), .int .u8 (x.b.toNat : Int), .int .u8 (x.a.toNat : Int)] : Array Value)[j]? := fun j => World.cell?_alloc_mark ..
  exact ⟨c 0, c 1, c 2, c 3⟩
end Go.Proofs.YtjcoahahponabaaGreatDoor
namespace Go.Proofs.YtjcoahahponabaaGreatDoor
open Go.RowKit

def nV (l : List Nat) : List Value := l.map fun (x : Nat) => .int .i64 (x : Int)
theorem nV_append (a b : List Nat) : nV (a ++ b) = nV a ++ nV b := by simp [nV]
theorem nV_length (l : List Nat) : (nV l).length = l.length := by simp [nV]
theorem nV_at (l : List Nat) (i : Nat) (h : i < l.length) : (nV l)[i]? = some (.int .i64 (l.getD i 0 : Int)) := by
  simp [nV, List.getElem?_eq_getElem h]
theorem info_int : (Tryz.prog.info? 3).map (fun i => (i.zero, i.size, i.bytes)) = some (some (.int .i64 0), 1, 8) := by kernel_rfl
theorem app_n1 (w : World) (base q : Nat) (v : Value) (l : List Nat) (x : Nat) (t : TypeId) (hown : w.ownsRow base 3 1 v l.length (nV l)) (hq : w.cell? ⟨q, 0, none⟩ = some (.int .i64 (x : Int))) (hl : l.length ≤ 1000000) (hb : base ≤ w.heap.size) :
    ∃ v' w', (Builtin.append_ #[96, 96] t #[v, .slice (some ⟨q, 0, none⟩) 1 1]).run Tryz.prog w = .ok v' w' ∧ w'.ownsRow base 3 1 v' (l ++ [x]).length (nV (l ++ [x])) ∧ w.grownBy w' v.ownBlock := by
  obtain ⟨i0, hi, hz0, hz1, hz2⟩ := info_parts info_int
  obtain ⟨v', w', a1, a2, a3, _, _⟩ := run_append_own_at (P := Tryz.prog) w base 96 t 3 i0 (.int .i64 0) 1 8 Tryz.underlying96 hi hz0 hz1 hz2 rfl (by omega) v l.length (nV l) hown ⟨q, 0, none⟩ 1 1 [.int .i64 (x : Int)] rfl (fun j u hj => by
    match j, hj with
    | 0, hj => rw [addr_add, Nat.zero_add, hq]; simpa using hj) (fun u hu => by rw [List.mem_singleton] at hu; subst hu; rfl) (by unfold maxLen; omega) (by omega) hb
  refine ⟨v', w', a1, ?_, a3⟩
  rw [nV_append, List.length_append]
  exact a2
theorem wpList_appN1 (w : World) {ops : Array Oper} {rest : List Oper} {o : Oper} {a : Act} {Q : Exit → Act → World → Prop} (hgd : o.guard = none) (s x : Operand)
    (ho : o.op = .call { callee := .builtin .append, args := #[s, x], argTypes := #[96, 96] }) (base q : Nat) (v : Value) (l : List Nat) (y : Nat) (hs : a.eval s = v) (hx : a.eval x = .slice (some ⟨q, 0, none⟩) 1 1)
    (hown : w.ownsRow base 3 1 v l.length (nV l)) (hq : w.cell? ⟨q, 0, none⟩ = some (.int .i64 (y : Int))) (hl : l.length ≤ 1000000) (hb : base ≤ w.heap.size)
    (h : ∀ v' w', w'.ownsRow base 3 1 v' (l ++ [y]).length (nV (l ++ [y])) → w.grownBy w' v.ownBlock → wpList Tryz.prog ops Q rest (a.put o.dst v') w') : wpList Tryz.prog ops Q (o :: rest) a w := by
  obtain ⟨v', w', a1, a2, a3⟩ := app_n1 w base q v l y o.type hown hq hl hb
  refine wpList_plain hgd fun _ hK => ?_
  unfold Oper.wp execOp
  simp only [ho, resolve, invoke, builtin, Sem.run_bind, Sem.run_pure, Result.andThen_ok, List.map_toArray, List.map_cons, List.map_nil, hs, hx, a1]
  exact hK _ _ (h v' w' a2 a3)
end Go.Proofs.YtjcoahahponabaaGreatDoor
namespace Go.Proofs.YtjcoahahponabaaGreatDoor
open Go.RowKit

theorem blk_cell {w : World} {k : Nat} {cs : Array Value} {t : TypeId} (h : w.heap[k]? = some (.cells cs t)) (j : Nat) : w.cell? ⟨k, j, none⟩ = cs[j]? := by simp [World.cell?, h]
theorem blk_frozen {w : World} {k : Nat} {cs : Array Value} {t : TypeId} (h : w.heap[k]? = some (.cells cs t)) (j : Nat) : w.frozen? ⟨k, j, none⟩ = false := by simp [World.frozen?, h]
theorem blk_lt {w : World} {k : Nat} {o : Obj} (h : w.heap[k]? = some o) : k < w.heap.size := by
  rcases Nat.lt_or_ge k w.heap.size with q | q
  · exact q
  · rw [Array.getElem?_eq_none q] at h; cases h
theorem blk_below {w w' : World} {k B : Nat} {o : Obj} (h : w.heap[k]? = some o) (hb : Below B w w') (hk : k < B) : w'.heap[k]? = some o := (hb.block k hk).trans h
theorem blk_alloc {w : World} {k : Nat} {o : Obj} (h : w.heap[k]? = some o) (o2 : Obj) : (w.alloc o2).heap[k]? = some o := (Below.heap_alloc _ _ _ (blk_lt h)).trans h

structure Al1 (w w' : World) (o0 : Obj) (B : Nat) : Prop where
  size : w'.heap.size = B + 1
  k0 : w'.heap[B]? = some o0
  below : Below B w w'
theorem al1 (w : World) (o0 : Obj) : Al1 w (w.alloc o0) o0 w.heap.size := ⟨by simp, heap_alloc_new w o0, (Below.refl _ _).alloc (Nat.le_refl _) _⟩
structure Al2 (w w' : World) (o0 o1 : Obj) (B : Nat) : Prop where
  size : w'.heap.size = B + 2
  k0 : w'.heap[B]? = some o0
  k1 : w'.heap[B + 1]? = some o1
  below : Below B w w'
theorem al2 (w : World) (o0 o1 : Obj) : Al2 w ((w.alloc o0).alloc o1) o0 o1 w.heap.size := by
  have h := al1 w o0
  have e := heap_alloc_new (w.alloc o0) o1
  rw [h.size] at e
  exact ⟨by simp, blk_alloc h.k0 _, e, h.below.alloc (by rw [h.size]; omega) _⟩
structure Al3 (w w' : World) (o0 o1 o2 : Obj) (B : Nat) : Prop where
  size : w'.heap.size = B + 3
  k0 : w'.heap[B]? = some o0
  k1 : w'.heap[B + 1]? = some o1
  k2 : w'.heap[B + 2]? = some o2
  below : Below B w w'
theorem al3 (w : World) (o0 o1 o2 : Obj) : Al3 w (((w.alloc o0).alloc o1).alloc o2) o0 o1 o2 w.heap.size := by
  have h := al2 w o0 o1
  have e := heap_alloc_new ((w.alloc o0).alloc o1) o2
  rw [h.size] at e
  exact ⟨by simp, blk_alloc h.k0 _, blk_alloc h.k1 _, e, h.below.alloc (by rw [h.size]; omega) _⟩
structure Al4 (w w' : World) (o0 o1 o2 o3 : Obj) (B : Nat) : Prop where
  size : w'.heap.size = B + 4
  k0 : w'.heap[B]? = some o0
  k1 : w'.heap[B + 1]? = some o1
  k2 : w'.heap[B + 2]? = some o2
  k3 : w'.heap[B + 3]? = some o3
  below : Below B w w'
theorem al4 (w : World) (o0 o1 o2 o3 : Obj) : Al4 w ((((w.alloc o0).alloc o1).alloc o2).alloc o3) o0 o1 o2 o3 w.heap.size := by
  have h := al3 w o0 o1 o2
  have e := heap_alloc_new (((w.alloc o0).alloc o1).alloc o2) o3
  rw [h.size] at e
  exact ⟨by simp, blk_alloc h.k0 _, blk_alloc h.k1 _, blk_alloc h.k2 _, e, h.below.alloc (by rw [h.size]; omega) _⟩
structure Al6 (w w' : World) (o0 o1 o2 o3 o4 o5 : Obj) (B : Nat) : Prop where
  size : w'.heap.size = B + 6
  k0 : w'.heap[B]? = some o0
  k1 : w'.heap[B + 1]? = some o1
  k2 : w'.heap[B + 2]? = some o2
  k3 : w'.heap[B + 3]? = some o3
  k4 : w'.heap[B + 4]? = some o4
  k5 : w'.heap[B + 5]? = some o5
  below : Below B w w'
theorem al6 (w : World) (o0 o1 o2 o3 o4 o5 : Obj) : Al6 w ((((((w.alloc o0).alloc o1).alloc o2).alloc o3).alloc o4).alloc o5) o0 o1 o2 o3 o4 o5 w.heap.size := by
  have h := al4 w o0 o1 o2 o3
  have h5 := heap_alloc_new ((((w.alloc o0).alloc o1).alloc o2).alloc o3) o4
  have h6 := heap_alloc_new (((((w.alloc o0).alloc o1).alloc o2).alloc o3).alloc o4) o5
  have s5 : (((((w.alloc o0).alloc o1).alloc o2).alloc o3).alloc o4).heap.size = w.heap.size + 5 := by simp
  rw [h.size] at h5
  rw [s5] at h6
  exact ⟨by simp, blk_alloc (blk_alloc h.k0 _) _, blk_alloc (blk_alloc h.k1 _) _, blk_alloc (blk_alloc h.k2 _) _, blk_alloc (blk_alloc h.k3 _) _, blk_alloc h5 _, h6, (h.below.alloc (by rw [h.size]; omega) _).alloc (by rw [s5]; omega) _⟩
end Go.Proofs.YtjcoahahponabaaGreatDoor
namespace Go.Proofs.YtjcoahahponabaaGreatDoor

theorem px_parts (q r : Px) : q = r ∨ (q ≠ r ∧ ((¬ (q.r.toNat : Int) = r.r.toNat) ∨ ((q.r.toNat : Int) = r.r.toNat ∧ ¬ (q.g.toNat : Int) = r.g.toNat) ∨ ((q.r.toNat : Int) = r.r.toNat ∧ (q.g.toNat : Int) = r.g.toNat ∧ ¬ (q.b.toNat : Int) = r.b.toNat) ∨ ((q.r.toNat : Int) = r.r.toNat ∧ (q.g.toNat : Int) = r.g.toNat ∧ (q.b.toNat : Int) = r.b.toNat ∧ ¬ (q.a.toNat : Int) = r.a.toNat))) := by
  obtain ⟨a, b, c, d⟩ := q
  obtain ⟨a', b', c', d'⟩ := r
  have e : ∀ x y : UInt8, (x.toNat : Int) = y.toNat → x = y := fun x y h => UInt8.toNat_inj.1 (by omega)
  by_cases h1 : (a.toNat : Int) = a'.toNat
  · by_cases h2 : (b.toNat : Int) = b'.toNat
    · by_cases h3 : (c.toNat : Int) = c'.toNat
      · by_cases h4 : (d.toNat : Int) = d'.toNat
        · left; rw [e _ _ h1, e _ _ h2, e _ _ h3, e _ _ h4]
        · exact .inr ⟨fun q => h4 (by injection q with _ _ _ q; rw [q]), .inr (.inr (.inr ⟨h1, h2, h3, h4⟩))⟩
      · exact .inr ⟨fun q => h3 (by injection q with _ _ q _; rw [q]), .inr (.inr (.inl ⟨h1, h2, h3⟩))⟩
    · exact .inr ⟨fun q => h2 (by injection q with _ q _ _; rw [q]), .inr (.inl ⟨h1, h2⟩)⟩
  · exact .inr ⟨fun q => h1 (by injection q with q _ _ _; rw [q]), .inl h1⟩
end Go.Proofs.YtjcoahahponabaaGreatDoor
namespace Go.Proofs.YtjcoahahponabaaGreatDoor
open Go.RowKit

/-- A pixel's cells, as numbers. -/
structure Q4 (w : World) (k : Nat) (r g b a : Nat) : Prop where
  r : w.cell? ⟨k, 0, none⟩ = some (.int .u8 (r : Int))
  g : w.cell? ⟨k, 1, none⟩ = some (.int .u8 (g : Int))
  b : w.cell? ⟨k, 2, none⟩ = some (.int .u8 (b : Int))
  a : w.cell? ⟨k, 3, none⟩ = some (.int .u8 (a : Int))
theorem Q4.lt {w : World} {k r g b a : Nat} (h : Q4 w k r g b a) : k < w.heap.size := World.block_lt_of_cell? _ _ h.r
theorem Q4.below {w w' : World} {k r g b a B : Nat} (h : Q4 w k r g b a) (hb : Below B w w') (hB : k < B) : Q4 w' k r g b a :=
  ⟨(hb.cell (p := ⟨k, 0, none⟩) hB).trans h.r, (hb.cell (p := ⟨k, 1, none⟩) hB).trans h.g, (hb.cell (p := ⟨k, 2, none⟩) hB).trans h.b, (hb.cell (p := ⟨k, 3, none⟩) hB).trans h.a⟩
theorem Q4.alloc {w : World} {k r g b a : Nat} (h : Q4 w k r g b a) (o : Obj) : Q4 (w.alloc o) k r g b a := h.below ((Below.refl _ _).alloc (Nat.le_refl _) _) h.lt
def q4Obj (r g b a : Nat) : Obj := .cells #[.int .u8 (r : Int), .int .u8 (g : Int), .int .u8 (b : Int), .int .u8 (a : Int)] 78
theorem q4_new (w : World) (r g b a : Nat) : Q4 (w.alloc (q4Obj r g b a)) w.heap.size r g b a := by
  unfold q4Obj
  exact ⟨by simp, by simp, by simp, by simp⟩
/-- They may be written. -/
structure F4 (w : World) (k : Nat) : Prop where
  f0 : w.frozen? ⟨k, 0, none⟩ = false
  f1 : w.frozen? ⟨k, 1, none⟩ = false
  f2 : w.frozen? ⟨k, 2, none⟩ = false
  f3 : w.frozen? ⟨k, 3, none⟩ = false
theorem F4.below {w w' : World} {k B : Nat} (h : F4 w k) (hb : Below B w w') (hB : k < B) : F4 w' k :=
  ⟨(hb.frozen (p := ⟨k, 0, none⟩) hB).trans h.f0, (hb.frozen (p := ⟨k, 1, none⟩) hB).trans h.f1, (hb.frozen (p := ⟨k, 2, none⟩) hB).trans h.f2, (hb.frozen (p := ⟨k, 3, none⟩) hB).trans h.f3⟩
theorem q4_new_f (w : World) (r g b a : Nat) : F4 (w.alloc (q4Obj r g b a)) w.heap.size := by
  unfold q4Obj
  exact ⟨by simp, by simp, by simp, by simp⟩
theorem belowD {B n : Nat} {a w : World} (h : Below B a w) : Below B a (w.drewN n) := h.trans ⟨rfl, rfl, rfl, Nat.le_refl _, fun _ _ => rfl⟩
theorem far4 (w : World) (k b o : Nat) (v1 v2 v3 v4 : Value) (h : k ≠ b) : ((((w.setCell ⟨k, 0, none⟩ v1).setCell ⟨k, 1, none⟩ v2).setCell ⟨k, 2, none⟩ v3).setCell ⟨k, 3, none⟩ v4).cell? ⟨b, o, none⟩ = w.cell? ⟨b, o, none⟩ := by
  rw [World.cell?_setCell_far _ _ _ _ h, World.cell?_setCell_far _ _ _ _ h, World.cell?_setCell_far _ _ _ _ h, World.cell?_setCell_far _ _ _ _ h]

/-- Four numbers' cells. -/
structure I4 (w : World) (k : Nat) (a b c d : Nat) : Prop where
  a : w.cell? ⟨k, 0, none⟩ = some (.int .i64 (a : Int))
  b : w.cell? ⟨k, 1, none⟩ = some (.int .i64 (b : Int))
  c : w.cell? ⟨k, 2, none⟩ = some (.int .i64 (c : Int))
  d : w.cell? ⟨k, 3, none⟩ = some (.int .i64 (d : Int))
theorem I4.lt {w : World} {k a b c d : Nat} (h : I4 w k a b c d) : k < w.heap.size := World.block_lt_of_cell? _ _ h.a
theorem I4.below {w w' : World} {k a b c d B : Nat} (h : I4 w k a b c d) (hb : Below B w w') (hB : k < B) : I4 w' k a b c d :=
  ⟨(hb.cell (p := ⟨k, 0, none⟩) hB).trans h.a, (hb.cell (p := ⟨k, 1, none⟩) hB).trans h.b, (hb.cell (p := ⟨k, 2, none⟩) hB).trans h.c, (hb.cell (p := ⟨k, 3, none⟩) hB).trans h.d⟩
theorem i4_laid (w : World) (t : TypeId) (a b c d : Nat) : I4 (w.alloc (.cells #[.int .i64 (a : Int), .int .i64 (b : Int), .int .i64 (c : Int), .int .i64 (d : Int)] t)) w.heap.size a b c d ∧ F4 (w.alloc (.cells #[.int .i64 (a : Int), .int .i64 (b : Int), .int .i64 (c : Int), .int .i64 (d : Int)] t)) w.heap.size ∧ Below w.heap.size w (w.alloc (.cells #[.int .i64 (a : Int), .int .i64 (b : Int), .int .i64 (c : Int), .int .i64 (d : Int)] t)) ∧ w.heap.size < (w.alloc (.cells #[.int .i64 (a : Int), .int .i64 (b : Int), .int .i64 (c : Int), .int .i64 (d : Int)] t)).heap.size :=
  ⟨⟨by simp, by simp, by simp, by simp⟩, ⟨by simp, by simp, by simp, by simp⟩, (Below.refl _ _).alloc (Nat.le_refl _) _, by simp⟩
end Go.Proofs.YtjcoahahponabaaGreatDoor
namespace Go.Proofs.YtjcoahahponabaaGreatDoor
open Go.RowKit

/-- Cells of a picture of nothing, that may be written. -/
structure Z3 (w : World) (k : Nat) : Prop where
  c0 : w.cell? ⟨k, 0, none⟩ = some (.int .i64 0)
  c1 : w.cell? ⟨k, 1, none⟩ = some (.int .i64 0)
  c2 : w.cell? ⟨k, 2, none⟩ = some (.slice none 0 0)
  f0 : w.frozen? ⟨k, 0, none⟩ = false
  f1 : w.frozen? ⟨k, 1, none⟩ = false
  f2 : w.frozen? ⟨k, 2, none⟩ = false
theorem Z3.lt {w : World} {k : Nat} (h : Z3 w k) : k < w.heap.size := World.block_lt_of_cell? _ _ h.c0
theorem Z3.block {w w' : World} {k : Nat} (h : Z3 w k) (e : w'.heap[k]? = w.heap[k]?) : Z3 w' k :=
  ⟨(World.cell?_of_block (a := ⟨k, 0, none⟩) e).trans h.c0, (World.cell?_of_block (a := ⟨k, 1, none⟩) e).trans h.c1, (World.cell?_of_block (a := ⟨k, 2, none⟩) e).trans h.c2,
    (World.frozen?_of_block (a := ⟨k, 0, none⟩) e).trans h.f0, (World.frozen?_of_block (a := ⟨k, 1, none⟩) e).trans h.f1, (World.frozen?_of_block (a := ⟨k, 2, none⟩) e).trans h.f2⟩
theorem Z3.below {w w' : World} {k B : Nat} (h : Z3 w k) (hb : Below B w w') (hB : k < B) : Z3 w' k := h.block (hb.block k hB)
def z3Obj : Obj := .cells #[.int .i64 0, .int .i64 0, .slice none 0 0] 27
theorem z3_new (w : World) : Z3 (w.alloc z3Obj) w.heap.size := by
  unfold z3Obj
  exact ⟨by simp, by simp, by simp, by simp, by simp, by simp⟩

/-- Pixels that lie in a block from B on. -/
structure IsPxN (B : Nat) (w : World) (a : Option Addr) (n : Nat) (p : Nat → Px) : Prop where
  is : IsPx w a n p
  new : ∀ q, a = some q → B ≤ q.block
theorem IsPxN.far {B k j n : Nat} {w : World} {a : Option Addr} {p : Nat → Px} (h : IsPxN B w a n p) (hk : k < B) (u : Value) : IsPxN B (w.setCell ⟨k, j, none⟩ u) a n p := by
  refine ⟨?_, h.new⟩
  rcases h.is with h0 | ⟨b, off, rfl, hm, hc⟩
  · exact .inl h0
  · have hb : k ≠ b := by have : B ≤ b := h.new _ rfl; omega
    exact .inr ⟨b, off, rfl, hm, fun i hi => ⟨(World.cell?_setCell_far _ _ _ _ hb).trans (hc i hi).r, (World.cell?_setCell_far _ _ _ _ hb).trans (hc i hi).g, (World.cell?_setCell_far _ _ _ _ hb).trans (hc i hi).b, (World.cell?_setCell_far _ _ _ _ hb).trans (hc i hi).a⟩⟩
theorem own_pxN {w : World} {base n cap : Nat} {a : Option Addr} {p : Nat → Px} (h : w.ownsRow base 78 4 (.slice a n cap) n (pxVals p n)) (hn : n ≤ maxLen) : IsPxN base w a n p :=
  ⟨own_px h hn, fun q e => (h.lt q.block (by rw [e]; rfl)).1⟩

theorem make_px (n : Nat) (hn : n ≤ 100000) (w : World) : (Instr.makeSlice 25 (.int .i64 0) (.int .i64 (n : Int))).run Tryz.prog w = .ok (.slice (some ⟨w.heap.size, 0, none⟩) 0 n) (w.alloc (.cells (madeCells #[.int .u8 0, .int .u8 0, .int .u8 0, .int .u8 0] (n * 4)) 78)) := by
  obtain ⟨i0, hi, hz0, hz1, hz2⟩ := info_parts px_info
  have hr := run_make (P := Tryz.prog) w 25 78 i0 (.agg #[.int .u8 0, .int .u8 0, .int .u8 0, .int .u8 0]) Tryz.underlying25 hi hz0 .i64 .i64 0 n (by omega) (by omega) (by rw [hz2]; omega) (by omega)
  simp only [Int.toNat_natCast, Int.toNat_zero, hz1] at hr
  exact hr

/-- A row of pixels, told place by place. -/
def grid (W : Nat) (P : Nat → Nat → Px) (i : Nat) : Px := P (i % W) (i / W)
theorem grid_at (W : Nat) (P : Nat → Nat → Px) (x y : Nat) (hx : x < W) : grid W P (y * W + x) = P x y := by
  unfold grid
  rw [Nat.add_comm, Nat.add_mul_mod_self_right, Nat.mod_eq_of_lt hx, Nat.add_mul_div_right _ _ (by omega), Nat.div_eq_of_lt hx, Nat.zero_add]
theorem px_cells_lie (w : World) (p : Px) : ∀ j u, p.cells[j]? = some u → (w.alloc (.cells #[.int .u8 (p.r.toNat : Int), .int .u8 (p.g.toNat : Int), .int .u8 (p.b.toNat : Int), .int .u8 (p.a.toNat : Int)] 78)).cell? ((⟨w.heap.size, 0, none⟩ : Addr).add j) = some u :=
  World.news_of_block (heap_alloc_new w _)

theorem own_belowP {w w' : World} {base size n : Nat} {e : TypeId} {v : Value} {xs : List Value} (h : w.ownsRow base e size v n xs) (hb : Below w.heap.size w w') : w'.ownsRow base e size v n xs :=
  h.kept (row := none) ⟨hb.os, hb.tape, hb.output, hb.size, fun k hk _ => hb.block k hk⟩ (by rcases v.ownBlock with _ | q <;> simp)
theorem own_farP {w : World} {B size n j : Nat} {e : TypeId} {v u : Value} {xs : List Value} (h : w.ownsRow (B + 1) e size v n xs) : (w.setCell ⟨B, j, none⟩ u).ownsRow (B + 1) e size v n xs :=
  h.kept (row := some B) ((But.refl (· = B) w).setCell rfl u).grownBy (.inr (fun q => by have := (h.lt B q).1; omega))
theorem px_cells_one (p : Px) : ∀ u ∈ p.cells, u.oneCell' = true := fun u h => by
  simp only [Px.cells, List.mem_cons, List.not_mem_nil, or_false] at h
  rcases h with rfl | rfl | rfl | rfl <;> rfl

end Go.Proofs.YtjcoahahponabaaGreatDoor
