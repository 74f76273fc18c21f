/- Rows of pixels that are kept in a list. -/
import Derived.Test.YtpfobocdbmiagaaDoorPx1
import Derived.Test.YtpfobocdbmiagaaDoorMg2
namespace Go.Proofs.YtpfobocdbmiagaaDoor
open Go.RowKit

/-- The cells of pixels in a list. -/
def pxL (l : List Px) : List Value := l.flatMap Px.cells
theorem pxL_append (a b : List Px) : pxL (a ++ b) = pxL a ++ pxL b := by simp [pxL]
theorem pxL_length (l : List Px) : (pxL l).length = l.length * 4 := by
  induction l with
  | nil => rfl
  | cons x l ih =>
    show (x.cells ++ pxL l).length = _
    rw [List.length_append, ih]
    simp [Px.cells]
    omega
theorem pxL_take (l : List Px) : ∀ n, n ≤ l.length → pxL (l.take n) = pxVals (fun i => l.getD i default) n := by
  intro n
  induction n with
  | zero => intro _; rfl
  | succ n ih =>
    intro hn
    have e : l.take (n + 1) = l.take n ++ [l[n]] := (List.take_append_getElem (by omega)).symm
    rw [e, pxL_append, ih (by omega)]
    show _ ++ (l[n].cells ++ []) = _ ++ (l.getD n default).cells
    rw [List.append_nil, List.getD_eq_getElem?_getD, List.getElem?_eq_getElem (by omega)]
    rfl
theorem pxL_vals (l : List Px) : pxL l = pxVals (fun i => l.getD i default) l.length := by
  have := pxL_take l l.length (Nat.le_refl _)
  rwa [List.take_of_length_le (Nat.le_refl _)] at this

theorem app_px1 (w : World) (base q : Nat) (v : Value) (l : List Px) (x : Px) (t : TypeId) (hown : w.ownsRow base 40 4 v l.length (pxL l)) (hx : PxAt w q 0 x) (hl : l.length ≤ 1000000) (hb : base ≤ w.heap.size) :
    ∃ v' w', (Builtin.append_ #[22, 22] t #[v, .slice (some ⟨q, 0, none⟩) 1 1]).run Tryd.prog w = .ok v' w' ∧ w'.ownsRow base 40 4 v' (l ++ [x]).length (pxL (l ++ [x])) ∧ w.grownBy w' v.ownBlock ∧ (v'.ownBlock = v.ownBlock ∨ v'.ownBlock = some w.heap.size) := by
  obtain ⟨i0, hi, hz0, hz1, hz2⟩ := info_parts px_info
  obtain ⟨v', w', h1, h2, h3, h4, h5⟩ := run_append_own_at (P := Tryd.prog) w base 22 t 40 i0 (.agg #[.int .u8 0, .int .u8 0, .int .u8 0, .int .u8 0]) 4 4 Tryd.underlying22 hi hz0 hz1 hz2 rfl (by omega) v l.length (pxL l) hown ⟨q, 0, none⟩ 1 1 x.cells rfl (fun j u hj => by
    have hadd : (⟨q, 0, none⟩ : Addr).add j = ⟨q, 0 + j, none⟩ := by unfold Addr.add; split <;> simp_all
    rw [hadd]
    match j, hj with
    | 0, hj => rw [← hj]; exact hx.r
    | 1, hj => rw [← hj]; exact hx.g
    | 2, hj => rw [← hj]; exact hx.b
    | 3, hj => rw [← hj]; exact hx.a
    | j + 4, hj => simp [Px.cells] at hj) (fun u hu => by
    simp only [Px.cells, List.mem_cons, List.not_mem_nil, or_false] at hu
    rcases hu with rfl | rfl | rfl | rfl <;> rfl) (by unfold maxLen; omega) (by omega) hb
  refine ⟨v', w', h1, ?_, h3, h5⟩
  rw [pxL_append, List.length_append]
  have e : pxL [x] = x.cells := by simp [pxL]
  rw [e]
  exact h2
theorem wpList_appPx1 (w : World) {ops : Array Oper} {rest : List Oper} {o : Oper} {a : Act} {Q : Exit → Act → World → Prop} (hgd : o.guard = none) (s x : Operand)
    (ho : o.op = .call { callee := .builtin .append, args := #[s, x], argTypes := #[22, 22] }) (base q : Nat) (v : Value) (l : List Px) (p : Px) (hs : a.eval s = v) (hx : a.eval x = .slice (some ⟨q, 0, none⟩) 1 1)
    (hown : w.ownsRow base 40 4 v l.length (pxL l)) (hq : PxAt w q 0 p) (hl : l.length ≤ 1000000) (hb : base ≤ w.heap.size)
    (h : ∀ v' w', w'.ownsRow base 40 4 v' (l ++ [p]).length (pxL (l ++ [p])) → w.grownBy w' v.ownBlock → (v'.ownBlock = v.ownBlock ∨ v'.ownBlock = some w.heap.size) → wpList Tryd.prog ops Q rest (a.put o.dst v') w') : wpList Tryd.prog ops Q (o :: rest) a w := by
  obtain ⟨v', w', h1, h2, h3, h4⟩ := app_px1 w base q v l p o.type hown hq hl hb
  refine wpList_plain hgd fun _ hK => ?_
  unfold Oper.wp execOp
  simp only [ho, resolve, invoke, builtin, Sem.run_bind, Sem.run_pure, Result.andThen_ok, List.map_toArray, List.map_cons, List.map_nil, hs, hx, h1]
  exact hK _ _ (h v' w' h2 h3 h4)
theorem own_shape4 {w : World} {base n : Nat} {e : TypeId} {v : Value} {xs : List Value} (h : w.ownsRow base e 4 v n xs) : ∃ a c, v = .slice a n c := by
  rcases h.2 with ⟨rfl, rfl⟩ | ⟨g, c, cur, rfl, _⟩
  · exact ⟨none, 0, rfl⟩
  · exact ⟨_, c, rfl⟩
theorem own_stay {w w' : World} {base size n : Nat} {e : TypeId} {v : Value} {xs : List Value} (h : w.ownsRow base e size v n xs) (hb : ∀ g, v.ownBlock = some g → w'.heap[g]? = w.heap[g]?) : w'.ownsRow base e size v n xs := by
  obtain ⟨h1, h2⟩ := h
  refine ⟨h1, ?_⟩
  rcases h2 with h2 | ⟨g, cap, cur, hv, hg, hh, r⟩
  · exact Or.inl h2
  · exact Or.inr ⟨g, cap, cur, hv, hg, by rw [hb g (by rw [hv]; rfl)]; exact hh, r⟩

theorem four_new (w : World) (x : Px) (t : TypeId) : PxAt (w.alloc (.cells #[.int .u8 (x.r.toNat : Int), .int .u8 (x.g.toNat : Int), .int .u8 (x.b.toNat : Int), .int .u8 (x.a.toNat : Int)] t)) w.heap.size 0 x := by
  have c : ∀ j, (w.alloc (.cells #[.int .u8 (x.r.toNat : Int), .int .u8 (x.g.toNat : Int), .int .u8 (x.b.toNat : Int), .int .u8 (x.a.toNat : Int)] t)).cell? ⟨w.heap.size, j, none⟩ = (#[.int .u8 (x.r.toNat : Int), .int .u8 (x.g.toNat : Int), .int .u8 (x.b.toNat : Int), .int .u8 (x.a.toNat : Int)] : Array Value)[j]? := fun j => World.cell?_alloc_mark ..
  exact ⟨c 0, c 1, c 2, c 3⟩
end Go.Proofs.YtpfobocdbmiagaaDoor
