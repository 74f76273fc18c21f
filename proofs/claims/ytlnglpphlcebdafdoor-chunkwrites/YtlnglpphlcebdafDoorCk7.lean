/- Rows of chunks. -/
import Derived.Test.YtlnglpphlcebdafDoorCk4
import Derived.Test.YtlnglpphlcebdafDoorAp
namespace Go.Proofs.YtlnglpphlcebdafDoor
open Go.RowKit

/-- Chunks as cells. -/
def chV (cs : List (List UInt8 × List UInt8)) : List Value := cs.flatMap fun c => [.string ⟨c.1.toArray⟩, .string ⟨c.2.toArray⟩]
theorem chV_append (a b : List (List UInt8 × List UInt8)) : chV (a ++ b) = chV a ++ chV b := by simp [chV]
theorem chV_length (cs : List (List UInt8 × List UInt8)) : (chV cs).length = cs.length * 2 := by
  induction cs with
  | nil => rfl
  | cons c cs ih => simp only [chV, List.flatMap_cons, List.length_append, List.length_cons, List.length_nil] at ih ⊢; omega
theorem chV_at (cs : List (List UInt8 × List UInt8)) (i : Nat) (h : i < cs.length) : (chV cs)[i * 2]? = some (.string ⟨(cs.getD i ([], [])).1.toArray⟩) ∧ (chV cs)[i * 2 + 1]? = some (.string ⟨(cs.getD i ([], [])).2.toArray⟩) := by
  induction cs generalizing i with
  | nil => exact absurd h (by simp)
  | cons t ts ih =>
    cases i with
    | zero => exact ⟨rfl, rfl⟩
    | succ i =>
      have := ih i (by rw [List.length_cons] at h; omega)
      rw [Nat.succ_mul]
      exact this
/-- Chunks of a list, one by one. -/
def nth (cs : List (List UInt8 × List UInt8)) (i : Nat) : ByteArray × ByteArray := (⟨(cs.getD i ([], [])).1.toArray⟩, ⟨(cs.getD i ([], [])).2.toArray⟩)
theorem chs_nth (cs : List (List UInt8 × List UInt8)) : chs (nth cs) cs.length = cs := by
  apply List.ext_getElem
  · rw [chs_length]
  · intro i h1 h2
    simp [chs, nth, List.getElem?_eq_getElem h2]

theorem info_chP : (Tryd.prog.info? 70).map (fun i => (i.zero, i.size, i.bytes)) = some (some (.agg #[.string ⟨#[]⟩, .string ⟨#[]⟩]), 2, 32) := by kernel_rfl
theorem app_chP (w : World) (base q : Nat) (v : Value) (cs : List (List UInt8 × List UInt8)) (x y : List UInt8) (t : TypeId) (hown : w.ownsRow base 70 2 v cs.length (chV cs)) (h0 : w.cell? ⟨q, 0, none⟩ = some (.string ⟨x.toArray⟩)) (h1 : w.cell? ⟨q, 1, none⟩ = some (.string ⟨y.toArray⟩)) (hl : cs.length ≤ 1000000) (hb : base ≤ w.heap.size) :
    ∃ v' w', (Builtin.append_ #[40, 40] t #[v, .slice (some ⟨q, 0, none⟩) 1 1]).run Tryd.prog w = .ok v' w' ∧ w'.ownsRow base 70 2 v' (cs ++ [(x, y)]).length (chV (cs ++ [(x, y)])) ∧ w.grownBy w' v.ownBlock ∧ (v'.ownBlock = v.ownBlock ∨ v'.ownBlock = some w.heap.size) := by
  obtain ⟨i0, hi, hz0, hz1, hz2⟩ := info_parts info_chP
  obtain ⟨v', w', a1, a2, a3, _, a5⟩ := run_append_own_at (P := Tryd.prog) w base 40 t 70 i0 (.agg #[.string ⟨#[]⟩, .string ⟨#[]⟩]) 2 32 Tryd.underlying40 hi hz0 hz1 hz2 rfl (by omega) v cs.length (chV cs) hown ⟨q, 0, none⟩ 1 1 [.string ⟨x.toArray⟩, .string ⟨y.toArray⟩] rfl (fun j u hj => by
    rw [addr_add, Nat.zero_add]
    match j, hj with
    | 0, hj => rw [h0]; simpa using hj
    | 1, hj => rw [h1]; simpa using hj
    | j + 2, hj => simp at hj) (fun u hu => by
    simp only [List.mem_cons, List.not_mem_nil, or_false] at hu
    rcases hu with rfl | rfl <;> rfl) (by unfold maxLen; omega) (by omega) hb
  refine ⟨v', w', a1, ?_, a3, a5⟩
  rw [chV_append, List.length_append]
  exact a2
theorem wpList_appChP (w : World) {ops : Array Oper} {rest : List Oper} {o : Oper} {a : Act} {Q : Exit → Act → World → Prop} (hgd : o.guard = none) (s x : Operand)
    (ho : o.op = .call { callee := .builtin .append, args := #[s, x], argTypes := #[40, 40] }) (base q : Nat) (v : Value) (cs : List (List UInt8 × List UInt8)) (k d : List UInt8) (hs : a.eval s = v) (hx : a.eval x = .slice (some ⟨q, 0, none⟩) 1 1)
    (hown : w.ownsRow base 70 2 v cs.length (chV cs)) (h0 : w.cell? ⟨q, 0, none⟩ = some (.string ⟨k.toArray⟩)) (h1 : w.cell? ⟨q, 1, none⟩ = some (.string ⟨d.toArray⟩)) (hl : cs.length ≤ 1000000) (hb : base ≤ w.heap.size)
    (h : ∀ v' w', w'.ownsRow base 70 2 v' (cs ++ [(k, d)]).length (chV (cs ++ [(k, d)])) → w.grownBy w' v.ownBlock → (v'.ownBlock = v.ownBlock ∨ v'.ownBlock = some w.heap.size) → wpList Tryd.prog ops Q rest (a.put o.dst v') w') : wpList Tryd.prog ops Q (o :: rest) a w := by
  obtain ⟨v', w', a1, a2, a3, a5⟩ := app_chP w base q v cs k d o.type hown h0 h1 hl hb
  refine wpList_plain hgd fun _ hK => ?_
  unfold Oper.wp execOp
  simp only [ho, resolve, invoke, builtin, Sem.run_bind, Sem.run_pure, Result.andThen_ok, List.map_toArray, List.map_cons, List.map_nil, hs, hx, a1]
  exact hK _ _ (h v' w' a2 a3 a5)
/-- .. as one step of a statement that draws its order. -/
theorem step_appChP {w : World} {ops : Array Oper} {o : Oper} {a : Act} {K : Act → World → Prop} {Q : Exit → Act → World → Prop} {E : Prop} (hgd : o.guard = none) (s x : Operand)
    (ho : o.op = .call { callee := .builtin .append, args := #[s, x], argTypes := #[40, 40] }) (base q : Nat) (v : Value) (cs : List (List UInt8 × List UInt8)) (k d : List UInt8) (hs : a.eval s = v) (hx : a.eval x = .slice (some ⟨q, 0, none⟩) 1 1)
    (hown : w.ownsRow base 70 2 v cs.length (chV cs)) (h0 : w.cell? ⟨q, 0, none⟩ = some (.string ⟨k.toArray⟩)) (h1 : w.cell? ⟨q, 1, none⟩ = some (.string ⟨d.toArray⟩)) (hl : cs.length ≤ 1000000) (hb : base ≤ w.heap.size)
    (h : ∀ v' w', w'.ownsRow base 70 2 v' (cs ++ [(k, d)]).length (chV (cs ++ [(k, d)])) → w.grownBy w' v.ownBlock → (v'.ownBlock = v.ownBlock ∨ v'.ownBlock = some w.heap.size) → K (a.put o.dst v') w') : if Region.wanted o (yielded ops a.tmps) = true then Oper.wp Tryd.prog o a w K Q else E := by
  have hw : Region.wanted o (yielded ops a.tmps) = true := by simp [Region.wanted, hgd]
  rw [if_pos hw]
  obtain ⟨v', w', a1, a2, a3, a5⟩ := app_chP w base q v cs k d o.type hown h0 h1 hl hb
  unfold Oper.wp execOp
  simp only [ho, resolve, invoke, builtin, Sem.run_bind, Sem.run_pure, Result.andThen_ok, List.map_toArray, List.map_cons, List.map_nil, hs, hx, a1]
  exact h v' w' a2 a3 a5

theorem info_chR : (Tryd.prog.info? 51).map (fun i => (i.zero, i.size, i.bytes)) = some (some (.agg #[.string ⟨#[]⟩, .string ⟨#[]⟩]), 2, 32) := by kernel_rfl
theorem app_chR (w : World) (base q : Nat) (v : Value) (cs : List (List UInt8 × List UInt8)) (x y : List UInt8) (t : TypeId) (hown : w.ownsRow base 51 2 v cs.length (chV cs)) (h0 : w.cell? ⟨q, 0, none⟩ = some (.string ⟨x.toArray⟩)) (h1 : w.cell? ⟨q, 1, none⟩ = some (.string ⟨y.toArray⟩)) (hl : cs.length ≤ 1000000) (hb : base ≤ w.heap.size) :
    ∃ v' w', (Builtin.append_ #[37, 37] t #[v, .slice (some ⟨q, 0, none⟩) 1 1]).run Tryd.prog w = .ok v' w' ∧ w'.ownsRow base 51 2 v' (cs ++ [(x, y)]).length (chV (cs ++ [(x, y)])) ∧ w.grownBy w' v.ownBlock ∧ (v'.ownBlock = v.ownBlock ∨ v'.ownBlock = some w.heap.size) := by
  obtain ⟨i0, hi, hz0, hz1, hz2⟩ := info_parts info_chR
  obtain ⟨v', w', a1, a2, a3, _, a5⟩ := run_append_own_at (P := Tryd.prog) w base 37 t 51 i0 (.agg #[.string ⟨#[]⟩, .string ⟨#[]⟩]) 2 32 Tryd.underlying37 hi hz0 hz1 hz2 rfl (by omega) v cs.length (chV cs) hown ⟨q, 0, none⟩ 1 1 [.string ⟨x.toArray⟩, .string ⟨y.toArray⟩] rfl (fun j u hj => by
    rw [addr_add, Nat.zero_add]
    match j, hj with
    | 0, hj => rw [h0]; simpa using hj
    | 1, hj => rw [h1]; simpa using hj
    | j + 2, hj => simp at hj) (fun u hu => by
    simp only [List.mem_cons, List.not_mem_nil, or_false] at hu
    rcases hu with rfl | rfl <;> rfl) (by unfold maxLen; omega) (by omega) hb
  refine ⟨v', w', a1, ?_, a3, a5⟩
  rw [chV_append, List.length_append]
  exact a2
theorem wpList_appChR (w : World) {ops : Array Oper} {rest : List Oper} {o : Oper} {a : Act} {Q : Exit → Act → World → Prop} (hgd : o.guard = none) (s x : Operand)
    (ho : o.op = .call { callee := .builtin .append, args := #[s, x], argTypes := #[37, 37] }) (base q : Nat) (v : Value) (cs : List (List UInt8 × List UInt8)) (k d : List UInt8) (hs : a.eval s = v) (hx : a.eval x = .slice (some ⟨q, 0, none⟩) 1 1)
    (hown : w.ownsRow base 51 2 v cs.length (chV cs)) (h0 : w.cell? ⟨q, 0, none⟩ = some (.string ⟨k.toArray⟩)) (h1 : w.cell? ⟨q, 1, none⟩ = some (.string ⟨d.toArray⟩)) (hl : cs.length ≤ 1000000) (hb : base ≤ w.heap.size)
    (h : ∀ v' w', w'.ownsRow base 51 2 v' (cs ++ [(k, d)]).length (chV (cs ++ [(k, d)])) → w.grownBy w' v.ownBlock → (v'.ownBlock = v.ownBlock ∨ v'.ownBlock = some w.heap.size) → wpList Tryd.prog ops Q rest (a.put o.dst v') w') : wpList Tryd.prog ops Q (o :: rest) a w := by
  obtain ⟨v', w', a1, a2, a3, a5⟩ := app_chR w base q v cs k d o.type hown h0 h1 hl hb
  refine wpList_plain hgd fun _ hK => ?_
  unfold Oper.wp execOp
  simp only [ho, resolve, invoke, builtin, Sem.run_bind, Sem.run_pure, Result.andThen_ok, List.map_toArray, List.map_cons, List.map_nil, hs, hx, a1]
  exact hK _ _ (h v' w' a2 a3 a5)
/-- .. as one step of a statement that draws its order. -/
theorem step_appChR {w : World} {ops : Array Oper} {o : Oper} {a : Act} {K : Act → World → Prop} {Q : Exit → Act → World → Prop} {E : Prop} (hgd : o.guard = none) (s x : Operand)
    (ho : o.op = .call { callee := .builtin .append, args := #[s, x], argTypes := #[37, 37] }) (base q : Nat) (v : Value) (cs : List (List UInt8 × List UInt8)) (k d : List UInt8) (hs : a.eval s = v) (hx : a.eval x = .slice (some ⟨q, 0, none⟩) 1 1)
    (hown : w.ownsRow base 51 2 v cs.length (chV cs)) (h0 : w.cell? ⟨q, 0, none⟩ = some (.string ⟨k.toArray⟩)) (h1 : w.cell? ⟨q, 1, none⟩ = some (.string ⟨d.toArray⟩)) (hl : cs.length ≤ 1000000) (hb : base ≤ w.heap.size)
    (h : ∀ v' w', w'.ownsRow base 51 2 v' (cs ++ [(k, d)]).length (chV (cs ++ [(k, d)])) → w.grownBy w' v.ownBlock → (v'.ownBlock = v.ownBlock ∨ v'.ownBlock = some w.heap.size) → K (a.put o.dst v') w') : if Region.wanted o (yielded ops a.tmps) = true then Oper.wp Tryd.prog o a w K Q else E := by
  have hw : Region.wanted o (yielded ops a.tmps) = true := by simp [Region.wanted, hgd]
  rw [if_pos hw]
  obtain ⟨v', w', a1, a2, a3, a5⟩ := app_chR w base q v cs k d o.type hown h0 h1 hl hb
  unfold Oper.wp execOp
  simp only [ho, resolve, invoke, builtin, Sem.run_bind, Sem.run_pure, Result.andThen_ok, List.map_toArray, List.map_cons, List.map_nil, hs, hx, a1]
  exact h v' w' a2 a3 a5

/-- What a row holds, as chunks. -/
theorem row_chunks {w : World} {base n cL : Nat} {e : TypeId} {aL : Option Addr} {cs : List (List UInt8 × List UInt8)} (h : w.ownsRow base e 2 (.slice aL n cL) cs.length (chV cs)) (hl : cs.length ≤ 1000000) (hb : ∀ i, i < cs.length → (nth cs i).1.size ≤ maxLen ∧ (nth cs i).2.size ≤ maxLen) : IsC w aL cs.length (nth cs) := by
  by_cases h0 : cs.length = 0
  · exact .inl h0
  rcases h.2 with ⟨_, q⟩ | ⟨g, cap, cur, hv, hg, hh, r⟩
  · exact absurd q h0
  · injection hv with e1 e2 e3
    subst e1
    have hc := h.cells (g := g) rfl
    refine .inr ⟨g, 0, rfl, by unfold maxLen; omega, fun i hi => ?_⟩
    obtain ⟨k0, k1⟩ := chV_at cs i hi
    have c0 := hc _ _ k0
    have c1 := hc _ _ k1
    rw [addr_add] at c0 c1
    exact ⟨c0, c1, hb i hi⟩
theorem own_keep {w w' : World} {base n size : Nat} {e : TypeId} {v : Value} {xs : List Value} (h : w.ownsRow base e size v n xs) (hb : Below w.heap.size w w') : w'.ownsRow base e size v n xs := by
  rcases h.2 with ⟨rfl, h0⟩ | ⟨g, c, cur, rfl, hg, hh, r⟩
  · exact ⟨h.1, .inl ⟨rfl, h0⟩⟩
  · have hlt : g < w.heap.size := by
      rcases Nat.lt_or_ge g w.heap.size with q | q
      · exact q
      · rw [Array.getElem?_eq_none q] at hh; cases hh
    exact ⟨h.1, .inr ⟨g, c, cur, rfl, hg, by rw [hb.block g hlt]; exact hh, r⟩⟩
theorem own_in {w : World} {base n size : Nat} {e : TypeId} {v : Value} {xs : List Value} (h : w.ownsRow base e size v n xs) (k : Nat) (q : v.ownBlock = some k) : base ≤ k ∧ k < w.heap.size := by
  rcases h.2 with ⟨rfl, _⟩ | ⟨g, c, cur, rfl, hg, hh, _⟩
  · cases q
  · simp only [Value.ownBlock, Option.some.injEq] at q
    subst q
    refine ⟨hg, ?_⟩
    rcases Nat.lt_or_ge g w.heap.size with z | z
    · exact z
    · rw [Array.getElem?_eq_none z] at hh; cases hh
theorem own_slice {w : World} {base size n : Nat} {e : TypeId} {v : Value} {xs : List Value} (h : w.ownsRow base e size v n xs) : ∃ a c, v = .slice a n c := by
  rcases h.2 with ⟨rfl, rfl⟩ | ⟨g, c, cur, rfl, _⟩
  · exact ⟨_, _, rfl⟩
  · exact ⟨_, _, rfl⟩
end Go.Proofs.YtlnglpphlcebdafDoor
