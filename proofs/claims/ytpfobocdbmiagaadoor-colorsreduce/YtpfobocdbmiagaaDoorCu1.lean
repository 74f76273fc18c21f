/- Rows of colors and how often each is used. -/
import Derived.Test.YtpfobocdbmiagaaDoorMg2
import Derived.Test.YtpfobocdbmiagaaDoorMg4
import Derived.Test.YtpfobocdbmiagaaDoorMg5
namespace Go.Proofs.YtpfobocdbmiagaaDoor
open Go.RowKit

def Us.cells (u : Us) : List Value := [.int .u8 (u.c.r.toNat : Int), .int .u8 (u.c.g.toNat : Int), .int .u8 (u.c.b.toNat : Int), .int .u8 (u.c.a.toNat : Int), .int .i64 (u.t : Int)]
def usL (l : List Us) : List Value := l.flatMap Us.cells
theorem usL_append (a b : List Us) : usL (a ++ b) = usL a ++ usL b := by simp [usL]
theorem usL_length (l : List Us) : (usL l).length = l.length * 5 := by
  induction l with
  | nil => rfl
  | cons x l ih =>
    show (x.cells ++ usL l).length = _
    rw [List.length_append, ih]
    simp [Us.cells]
    omega
theorem usL_at : ∀ (l : List Us) (i j : Nat) (h : i < l.length), j < 5 → (usL l)[i * 5 + j]? = (l[i]).cells[j]?
  | [], i, j, h, _ => by simp at h
  | x :: l, 0, j, _, hj => by
    show (x.cells ++ usL l)[0 * 5 + j]? = _
    rw [Nat.zero_mul, Nat.zero_add, List.getElem?_append_left (by simpa [Us.cells] using hj)]
    rfl
  | x :: l, i + 1, j, h, hj => by
    show (x.cells ++ usL l)[(i + 1) * 5 + j]? = _
    have hc : x.cells.length = 5 := rfl
    rw [List.getElem?_append_right (by omega), hc, show (i + 1) * 5 + j - 5 = i * 5 + j by omega, usL_at l i j (by simpa using h) hj]
    rfl
theorem usL_set : ∀ (l : List Us) (i t : Nat) (h : i < l.length), (usL l).set (i * 5 + 4) (.int .i64 (t : Int)) = usL (l.set i ⟨(l[i]).c, t⟩)
  | [], i, t, h => by simp at h
  | x :: l, 0, t, _ => rfl
  | x :: l, i + 1, t, h => by
    have e : (i + 1) * 5 + 4 = i * 5 + 4 + 1 + 1 + 1 + 1 + 1 := by omega
    rw [e]
    show x.cells ++ (usL l).set (i * 5 + 4) _ = x.cells ++ usL _
    rw [usL_set l i t (by simpa using h)]
    rfl
theorem usL_put : ∀ (l : List Us) (i : Nat) (c : Px) (h : i < l.length), ((((usL l).set (i * 5) (.int .u8 (c.r.toNat : Int))).set (i * 5 + 1) (.int .u8 (c.g.toNat : Int))).set (i * 5 + 2) (.int .u8 (c.b.toNat : Int))).set (i * 5 + 3) (.int .u8 (c.a.toNat : Int)) = usL (l.set i ⟨c, (l[i]).t⟩)
  | [], i, c, h => by simp at h
  | x :: l, 0, c, _ => rfl
  | x :: l, i + 1, c, h => by
    have e : (i + 1) * 5 = i * 5 + 1 + 1 + 1 + 1 + 1 := by omega
    have e1 : (i + 1) * 5 + 1 = i * 5 + 1 + 1 + 1 + 1 + 1 + 1 := by omega
    have e2 : (i + 1) * 5 + 2 = i * 5 + 2 + 1 + 1 + 1 + 1 + 1 := by omega
    have e3 : (i + 1) * 5 + 3 = i * 5 + 3 + 1 + 1 + 1 + 1 + 1 := by omega
    rw [e3, e2, e1, e]
    show x.cells ++ ((((usL l).set (i * 5) _).set (i * 5 + 1) _).set (i * 5 + 2) _).set (i * 5 + 3) _ = x.cells ++ usL _
    rw [usL_put l i c (by simpa using h)]
    rfl

/-- A color and its number lie there. -/
structure UsAt (w : World) (k off : Nat) (u : Us) : Prop where
  c : PxAt w k off u.c
  t : w.cell? ⟨k, off + 4, none⟩ = some (.int .i64 (u.t : Int))
def IsUs (w : World) (a : Option Addr) (len : Nat) (u : Nat → Us) : Prop :=
  len = 0 ∨ ∃ b off, a = some ⟨b, off, none⟩ ∧ len ≤ maxLen ∧ ∀ i, i < len → UsAt w b (off + i * 5) (u i)
theorem UsAt.below {w w' : World} {b off B : Nat} {u : Us} (h : UsAt w b off u) (hb : Below B w w') (hB : b < B) : UsAt w' b off u :=
  ⟨h.c.below hb hB, (hb.cell (p := ⟨b, off + 4, none⟩) hB).trans h.t⟩
theorem IsUs.below {w w' : World} {a : Option Addr} {len : Nat} {u : Nat → Us} (h : IsUs w a len u) (hb : Below w.heap.size w w') : IsUs w' a len u := by
  rcases h with h | ⟨b, off, ha, hl, h⟩
  · exact .inl h
  · exact .inr ⟨b, off, ha, hl, fun i hi => (h i hi).below hb (h i hi).c.lt⟩
theorem IsUs.congr {w : World} {a : Option Addr} {len : Nat} {p q : Nat → Us} (h : IsUs w a len p) (he : ∀ i, i < len → p i = q i) : IsUs w a len q := by
  rcases h with h | ⟨b, off, ha, hl, h⟩
  · exact .inl h
  · exact .inr ⟨b, off, ha, hl, fun i hi => by rw [← he i hi]; exact h i hi⟩
/-- Row cells of a call's own. -/
theorem own_usAt {w : World} {base n cap g : Nat} {T : TypeId} {l : List Us} (h : w.ownsRow base T 5 (.slice (some ⟨g, 0, none⟩) n cap) n (usL l)) (i : Nat) (hi : i < l.length) (hn : l.length = n) : UsAt w g (i * 5) l[i] := by
  have hc : ∀ j, j < 5 → w.cell? ⟨g, i * 5 + j, none⟩ = (l[i]).cells[j]? := fun j hj => by
    rw [h.cellAt (i * 5 + j) (by omega)]
    exact usL_at l i j hi hj
  exact ⟨⟨hc 0 (by omega), hc 1 (by omega), hc 2 (by omega), hc 3 (by omega)⟩, hc 4 (by omega)⟩
theorem own_us {w : World} {base n cap : Nat} {T : TypeId} {a : Option Addr} {l : List Us} (h : w.ownsRow base T 5 (.slice a n cap) n (usL l)) (hn : l.length = n) (hm : n ≤ maxLen) : IsUs w a n (fun i => l.getD i default) := by
  by_cases h0 : n = 0
  · exact .inl h0
  rcases h.2 with ⟨_, q⟩ | ⟨g, cap', cur, hv, _⟩
  · exact absurd q h0
  · injection hv with hv _ _
    subst hv
    refine .inr ⟨g, 0, rfl, hm, fun i hi => ?_⟩
    have := own_usAt h i (by omega) hn
    show UsAt w g (0 + i * 5) (l.getD i default)
    rw [Nat.zero_add, List.getD_eq_getElem?_getD, List.getElem?_eq_getElem (by omega)]
    exact this
theorem own_shape5 {w : World} {base n : Nat} {e : TypeId} {v : Value} {xs : List Value} (h : w.ownsRow base e 5 v n xs) : ∃ a c, v = .slice a n c := by
  rcases h.2 with ⟨rfl, rfl⟩ | ⟨g, c, cur, rfl, _⟩
  · exact ⟨none, 0, rfl⟩
  · exact ⟨_, c, rfl⟩
theorem own_some {w : World} {base size n cap : Nat} {e : TypeId} {a : Option Addr} {xs : List Value} (h : w.ownsRow base e size (.slice a n cap) n xs) (h0 : 0 < n) : ∃ g, a = some ⟨g, 0, none⟩ ∧ base ≤ g ∧ g < w.heap.size := by
  rcases h.2 with ⟨_, q⟩ | ⟨g, cap', cur, hv, hb, hh, _⟩
  · omega
  · injection hv with hv _ _
    exact ⟨g, hv, hb, blk_lt hh⟩

theorem us_info : (Tryd.prog.info? 42).map (fun i => (i.zero, i.size, i.bytes)) = some (some (.agg #[.int .u8 0, .int .u8 0, .int .u8 0, .int .u8 0, .int .i64 0]), 5, 16) := by kernel_rfl
theorem app_us (w : World) (base q : Nat) (v : Value) (l : List Us) (x : Us) (t : TypeId) (hown : w.ownsRow base 42 5 v l.length (usL l)) (hx : UsAt w q 0 x) (hl : l.length ≤ 1000000) (hb : base ≤ w.heap.size) :
    ∃ v' w', (Builtin.append_ #[27, 27] t #[v, .slice (some ⟨q, 0, none⟩) 1 1]).run Tryd.prog w = .ok v' w' ∧ w'.ownsRow base 42 5 v' (l ++ [x]).length (usL (l ++ [x])) ∧ w.grownBy w' v.ownBlock ∧ (v'.ownBlock = v.ownBlock ∨ v'.ownBlock = some w.heap.size) := by
  obtain ⟨i0, hi, hz0, hz1, hz2⟩ := info_parts us_info
  obtain ⟨v', w', h1, h2, h3, h4, h5⟩ := run_append_own_at (P := Tryd.prog) w base 27 t 42 i0 (.agg #[.int .u8 0, .int .u8 0, .int .u8 0, .int .u8 0, .int .i64 0]) 5 16 Tryd.underlying27 hi hz0 hz1 hz2 rfl (by omega) v l.length (usL l) hown ⟨q, 0, none⟩ 1 1 x.cells rfl (fun j u hj => by
    have hadd : (⟨q, 0, none⟩ : Addr).add j = ⟨q, 0 + j, none⟩ := by unfold Addr.add; split <;> simp_all
    rw [hadd]
    match j, hj with
    | 0, hj => rw [← hj]; exact hx.c.r
    | 1, hj => rw [← hj]; exact hx.c.g
    | 2, hj => rw [← hj]; exact hx.c.b
    | 3, hj => rw [← hj]; exact hx.c.a
    | 4, hj => rw [← hj]; exact hx.t
    | j + 5, hj => simp [Us.cells] at hj) (fun u hu => by
    simp only [Us.cells, List.mem_cons, List.not_mem_nil, or_false] at hu
    rcases hu with rfl | rfl | rfl | rfl | rfl <;> rfl) (by unfold maxLen; omega) (by omega) hb
  refine ⟨v', w', h1, ?_, h3, h5⟩
  rw [usL_append, List.length_append]
  have e : usL [x] = x.cells := by simp [usL]
  rw [e]
  exact h2
theorem wpList_appUs (w : World) {ops : Array Oper} {rest : List Oper} {o : Oper} {a : Act} {Q : Exit → Act → World → Prop} (hgd : o.guard = none) (s x : Operand)
    (ho : o.op = .call { callee := .builtin .append, args := #[s, x], argTypes := #[27, 27] }) (base q : Nat) (v : Value) (l : List Us) (p : Us) (hs : a.eval s = v) (hx : a.eval x = .slice (some ⟨q, 0, none⟩) 1 1)
    (hown : w.ownsRow base 42 5 v l.length (usL l)) (hq : UsAt w q 0 p) (hl : l.length ≤ 1000000) (hb : base ≤ w.heap.size)
    (h : ∀ v' w', w'.ownsRow base 42 5 v' (l ++ [p]).length (usL (l ++ [p])) → w.grownBy w' v.ownBlock → (v'.ownBlock = v.ownBlock ∨ v'.ownBlock = some w.heap.size) → wpList Tryd.prog ops Q rest (a.put o.dst v') w') : wpList Tryd.prog ops Q (o :: rest) a w := by
  obtain ⟨v', w', h1, h2, h3, h4⟩ := app_us w base q v l p o.type hown hq hl hb
  refine wpList_plain hgd fun _ hK => ?_
  unfold Oper.wp execOp
  simp only [ho, resolve, invoke, builtin, Sem.run_bind, Sem.run_pure, Result.andThen_ok, List.map_toArray, List.map_cons, List.map_nil, hs, hx, h1]
  exact hK _ _ (h v' w' h2 h3 h4)
theorem five_new (w : World) (u : Us) (t : TypeId) : UsAt (w.alloc (.cells #[.int .u8 (u.c.r.toNat : Int), .int .u8 (u.c.g.toNat : Int), .int .u8 (u.c.b.toNat : Int), .int .u8 (u.c.a.toNat : Int), .int .i64 (u.t : Int)] t)) w.heap.size 0 u := by
  have c : ∀ j, (w.alloc (.cells #[.int .u8 (u.c.r.toNat : Int), .int .u8 (u.c.g.toNat : Int), .int .u8 (u.c.b.toNat : Int), .int .u8 (u.c.a.toNat : Int), .int .i64 (u.t : Int)] t)).cell? ⟨w.heap.size, j, none⟩ = (#[.int .u8 (u.c.r.toNat : Int), .int .u8 (u.c.g.toNat : Int), .int .u8 (u.c.b.toNat : Int), .int .u8 (u.c.a.toNat : Int), .int .i64 (u.t : Int)] : Array Value)[j]? := fun j => World.cell?_alloc_mark ..
  exact ⟨⟨c 0, c 1, c 2, c 3⟩, c 4⟩
end Go.Proofs.YtpfobocdbmiagaaDoor
