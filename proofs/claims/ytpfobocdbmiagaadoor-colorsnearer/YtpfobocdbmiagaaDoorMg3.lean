/- Rows of numbers of a call's own. Two pixels are alike, or one of four numbers is not. -/
import Derived.Test.YtpfobocdbmiagaaDoorMg2
import Derived.Deep.OwnRows
import Derived.Laws.OwnMore
import Derived.Test.YtpfobocdbmiagaaDoorPx0
namespace Go.Proofs.YtpfobocdbmiagaaDoor
open Go.RowKit

def nV (l : List Nat) : List Value := l.map fun (x : Nat) => .int .i64 (x : Int)
theorem nV_append (a b : List Nat) : nV (a ++ b) = nV a ++ nV b := by simp [nV]
theorem nV_length (l : List Nat) : (nV l).length = l.length := by simp [nV]
theorem nV_at (l : List Nat) (i : Nat) (h : i < l.length) : (nV l)[i]? = some (.int .i64 (l.getD i 0 : Int)) := by
  simp [nV, List.getElem?_eq_getElem h]
theorem info_int : (Tryd.prog.info? 3).map (fun i => (i.zero, i.size, i.bytes)) = some (some (.int .i64 0), 1, 8) := by kernel_rfl
theorem app_n1 (w : World) (base q : Nat) (v : Value) (l : List Nat) (x : Nat) (t : TypeId) (hown : w.ownsRow base 3 1 v l.length (nV l)) (hq : w.cell? ⟨q, 0, none⟩ = some (.int .i64 (x : Int))) (hl : l.length ≤ 1000000) (hb : base ≤ w.heap.size) :
    ∃ v' w', (Builtin.append_ #[33, 33] t #[v, .slice (some ⟨q, 0, none⟩) 1 1]).run Tryd.prog w = .ok v' w' ∧ w'.ownsRow base 3 1 v' (l ++ [x]).length (nV (l ++ [x])) ∧ w.grownBy w' v.ownBlock := by
  obtain ⟨i0, hi, hz0, hz1, hz2⟩ := info_parts info_int
  obtain ⟨v', w', a1, a2, a3, _, _⟩ := run_append_own_at (P := Tryd.prog) w base 33 t 3 i0 (.int .i64 0) 1 8 Tryd.underlying33 hi hz0 hz1 hz2 rfl (by omega) v l.length (nV l) hown ⟨q, 0, none⟩ 1 1 [.int .i64 (x : Int)] rfl (fun j u hj => by
    match j, hj with
    | 0, hj => rw [addr_add, Nat.zero_add, hq]; simpa using hj) (fun u hu => by rw [List.mem_singleton] at hu; subst hu; rfl) (by unfold maxLen; omega) (by omega) hb
  refine ⟨v', w', a1, ?_, a3⟩
  rw [nV_append, List.length_append]
  exact a2
theorem wpList_appN1 (w : World) {ops : Array Oper} {rest : List Oper} {o : Oper} {a : Act} {Q : Exit → Act → World → Prop} (hgd : o.guard = none) (s x : Operand)
    (ho : o.op = .call { callee := .builtin .append, args := #[s, x], argTypes := #[33, 33] }) (base q : Nat) (v : Value) (l : List Nat) (y : Nat) (hs : a.eval s = v) (hx : a.eval x = .slice (some ⟨q, 0, none⟩) 1 1)
    (hown : w.ownsRow base 3 1 v l.length (nV l)) (hq : w.cell? ⟨q, 0, none⟩ = some (.int .i64 (y : Int))) (hl : l.length ≤ 1000000) (hb : base ≤ w.heap.size)
    (h : ∀ v' w', w'.ownsRow base 3 1 v' (l ++ [y]).length (nV (l ++ [y])) → w.grownBy w' v.ownBlock → wpList Tryd.prog ops Q rest (a.put o.dst v') w') : wpList Tryd.prog ops Q (o :: rest) a w := by
  obtain ⟨v', w', a1, a2, a3⟩ := app_n1 w base q v l y o.type hown hq hl hb
  refine wpList_plain hgd fun _ hK => ?_
  unfold Oper.wp execOp
  simp only [ho, resolve, invoke, builtin, Sem.run_bind, Sem.run_pure, Result.andThen_ok, List.map_toArray, List.map_cons, List.map_nil, hs, hx, a1]
  exact hK _ _ (h v' w' a2 a3)
end Go.Proofs.YtpfobocdbmiagaaDoor
namespace Go.Proofs.YtpfobocdbmiagaaDoor

theorem px_parts (q r : Px) : q = r ∨ (q ≠ r ∧ ((¬ (q.r.toNat : Int) = r.r.toNat) ∨ ((q.r.toNat : Int) = r.r.toNat ∧ ¬ (q.g.toNat : Int) = r.g.toNat) ∨ ((q.r.toNat : Int) = r.r.toNat ∧ (q.g.toNat : Int) = r.g.toNat ∧ ¬ (q.b.toNat : Int) = r.b.toNat) ∨ ((q.r.toNat : Int) = r.r.toNat ∧ (q.g.toNat : Int) = r.g.toNat ∧ (q.b.toNat : Int) = r.b.toNat ∧ ¬ (q.a.toNat : Int) = r.a.toNat))) := by
  obtain ⟨a, b, c, d⟩ := q
  obtain ⟨a', b', c', d'⟩ := r
  have e : ∀ x y : UInt8, (x.toNat : Int) = y.toNat → x = y := fun x y h => UInt8.toNat_inj.1 (by omega)
  by_cases h1 : (a.toNat : Int) = a'.toNat
  · by_cases h2 : (b.toNat : Int) = b'.toNat
    · by_cases h3 : (c.toNat : Int) = c'.toNat
      · by_cases h4 : (d.toNat : Int) = d'.toNat
        · left; rw [e _ _ h1, e _ _ h2, e _ _ h3, e _ _ h4]
        · exact .inr ⟨fun q => h4 (by injection q with _ _ _ q; rw [q]), .inr (.inr (.inr ⟨h1, h2, h3, h4⟩))⟩
      · exact .inr ⟨fun q => h3 (by injection q with _ _ q _; rw [q]), .inr (.inr (.inl ⟨h1, h2, h3⟩))⟩
    · exact .inr ⟨fun q => h2 (by injection q with _ q _ _; rw [q]), .inr (.inl ⟨h1, h2⟩)⟩
  · exact .inr ⟨fun q => h1 (by injection q with q _ _ _; rw [q]), .inl h1⟩
end Go.Proofs.YtpfobocdbmiagaaDoor
