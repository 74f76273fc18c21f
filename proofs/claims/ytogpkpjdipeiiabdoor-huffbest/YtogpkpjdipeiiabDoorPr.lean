/- Walk of the program's pairs of packages. -/
import Derived.Test.YtogpkpjdipeiiabDoorPk
import Derived.Deep.RegionLaw
namespace Go.Proofs.YtogpkpjdipeiiabDoor
open Go.Shelf Go.RowKit Go.Lib Go.Sort St Pm

theorem cat_at : ∀ (Q : List (List Nat)) (k : Nat) (h : k < (cat Q).length) (h1 : 2 * k < Q.length) (h2 : 2 * k + 1 < Q.length), (cat Q)[k] = Q[2 * k] ++ Q[2 * k + 1]
  | a :: b :: r, 0, _, _, _ => rfl
  | a :: b :: r, k + 1, h, h1, h2 => by
    have e := cat_at r k (by simpa [cat] using h) (by simp at h1; omega) (by simp at h2; omega)
    simp only [cat, List.getElem_cons_succ, e, show 2 * (k + 1) = 2 * k + 1 + 1 by omega]
  | [a], k, h, _, _ => by simp [cat] at h
  | [], k, h, _, _ => by simp [cat] at h

/-- An append onto packages of one's own, as one step of a statement that draws its order. -/
theorem step_appP {ops : Array Oper} {o : Oper} {a : Act} {w : World} {K : Act → World → Prop} {Q : Exit → Act → World → Prop} {E : Prop} (hgd : o.guard = none) (s x : Operand)
    (ho : o.op = .call { callee := .builtin .append, args := #[s, x], argTypes := #[73, 73] }) (base : Nat) (v u : Value) (n m : Nat) (F G : List Value) (hs : a.eval s = v) (hx : a.eval x = u)
    (hown : w.ownsRow base 76 2 v n F) (hsrc : SrcC w u 2 m G) (h1 : ∀ u ∈ G, u.oneCell' = true) (hlen : n + m ≤ 1000000) (hbase : base ≤ w.heap.size)
    (h : ∀ v' w', w'.ownsRow base 76 2 v' (n + m) (F ++ G) → w.grownBy w' v.ownBlock → (v'.ownBlock = v.ownBlock ∨ v'.ownBlock = some w.heap.size) → K (a.put o.dst v') w') : if Region.wanted o (yielded ops a.tmps) = true then Oper.wp Tryd.prog o a w K Q else E := by
  have hw : Region.wanted o (yielded ops a.tmps) = true := by simp [Region.wanted, hgd]
  rw [if_pos hw]
  obtain ⟨i0, hi, hz0, hz1, hz2⟩ := info_parts info_pk
  have key : ∃ v' w', (Builtin.append_ #[73, 73] o.type #[v, u]).run Tryd.prog w = .ok v' w' ∧ w'.ownsRow base 76 2 v' (n + m) (F ++ G) ∧ w.grownBy w' v.ownBlock ∧ (v'.ownBlock = v.ownBlock ∨ v'.ownBlock = some w.heap.size) := by
    rcases hsrc with ⟨rfl, rfl, rfl⟩ | ⟨ad, c, rfl, hl, hc⟩
    · refine ⟨v, w, run_append_owned_none w base 73 o.type 76 i0 2 Tryd.underlying73 hi v _ _ hown, by rw [List.append_nil, Nat.add_zero]; exact hown, ⟨rfl, rfl, rfl, Nat.le_refl _, fun _ _ _ => rfl⟩, .inl rfl⟩
    · obtain ⟨v', w', h1, h2, h3, _, h5⟩ := run_append_own_at (P := Tryd.prog) w base 73 o.type 76 i0 (.agg #[.int .i64 0, .slice none 0 0]) 2 32 Tryd.underlying73 hi hz0 hz1 hz2 rfl (by omega) v n F hown ad m c G hl hc h1 (by unfold maxLen; omega) (by omega) hbase
      exact ⟨v', w', h1, h2, h3, h5⟩
  obtain ⟨v', w', h1, h2, h3, h5⟩ := key
  unfold Oper.wp execOp
  simp only [ho, resolve, invoke, builtin, Sem.run_bind, Sem.run_pure, Result.andThen_ok, List.map_toArray, List.map_cons, List.map_nil, hs, hx, h1]
  exact h v' w' h2 h3 h5

set_option maxRecDepth 100000 in
/-- A call of a Go function of one argument, as one step of a statement that draws its order. -/
theorem step_call {ops : Array Oper} {o : Oper} {a : Act} {w : World} {K : Act → World → Prop} {Q : Exit → Act → World → Prop} {E : Prop} (hgd : o.guard = none) (f : Nat) (x : Operand) (t : TypeId)
    (ho : o.op = .call { callee := .value (.func f), args := #[x], argTypes := #[t] }) (u : Value) (hx : a.eval x = u) (ent : ∀ args w, (callFunc f args).run Tryd.prog w = .ok (.enter f args) w)
    (h : Calls Tryd.prog f #[u] w fun e w' => ∃ v, e = .returned v ∧ K (a.put o.dst v) w') : if Region.wanted o (yielded ops a.tmps) = true then Oper.wp Tryd.prog o a w K Q else E := by
  have hw : Region.wanted o (yielded ops a.tmps) = true := by simp [Region.wanted, hgd]
  rw [if_pos hw]
  unfold Oper.wp execOp
  have e1 : a.eval (.func f) = Value.func (.func f) #[] #[] := rfl
  have e2 : ∀ ar : Array Value, ar ++ #[] = ar := fun ar => by simp
  simp only [ho, resolve, invoke, Deferred.ofValue, e1, e2, Sem.run_bind, Sem.run_pure, Result.andThen_ok, List.map_toArray, List.map_cons, List.map_nil, hx, ent]
  rw [Oper.upon_enter]
  refine h.mono ?_
  rintro e w' ⟨v, rfl, hk⟩
  exact hk

theorem own_at {w : World} {base n : Nat} {e : TypeId} {v : Value} {xs : List Value} (h : w.ownsRow base e 1 v n xs) (hn : 0 < n) : ∃ g c, v = .slice (some ⟨g, 0, none⟩) n c ∧ base ≤ g := by
  rcases h.2 with ⟨_, h0⟩ | ⟨g, c, cur, e, hb, _⟩
  · omega
  · exact ⟨g, c, e, hb⟩

theorem cell_new (W : World) (a b : Value) (t : TypeId) : (W.alloc (.cells #[a, b] t)).cell? ⟨W.heap.size, 0, none⟩ = some a ∧ (W.alloc (.cells #[a, b] t)).cell? ⟨W.heap.size, 1, none⟩ = some b := by simp
theorem src_pk (W : World) (a b : Value) (t : TypeId) : SrcC (W.alloc (.cells #[a, b] t)) (.slice (some ⟨W.heap.size, 0, none⟩) 1 1) 2 1 [a, b] := by
  refine .inr ⟨⟨W.heap.size, 0, none⟩, 1, rfl, rfl, fun j v hj => ?_⟩
  rw [addr_add, Nat.zero_add]
  obtain ⟨h1, h2⟩ := cell_new W a b t
  match j, hj with
  | 0, hj => rw [h1]; simpa using hj
  | 1, hj => rw [h2]; simpa using hj

theorem natSrc {w : World} {sg : Nat → Nat} {b o kx : Nat} {F : List Nat} (h : ∀ j, (hj : j < F.length) → w.cell? ⟨b, o + j, none⟩ = some (.int .i64 (sg F[j] : Nat))) : SrcC w (.slice (some ⟨b, o, none⟩) F.length kx) 1 F.length (natVals (F.map sg)) := by
  refine .inr ⟨⟨b, o, none⟩, kx, rfl, by rw [natVals_length, List.length_map, Nat.mul_one], fun j v hj => ?_⟩
  rw [natVals_at, List.getElem?_map] at hj
  by_cases hl : j < F.length
  · rw [List.getElem?_eq_getElem hl] at hj
    simp only [Option.map_some, Option.some.injEq] at hj
    rw [addr_add, h j hl, hj]
  · rw [List.getElem?_eq_none (by omega)] at hj; cases hj
end Go.Proofs.YtogpkpjdipeiiabDoor
