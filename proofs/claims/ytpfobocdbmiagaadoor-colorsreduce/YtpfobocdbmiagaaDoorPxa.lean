/- Rows of pixels: their cells, and a copy of one's own. -/
import Derived.Test.YtpfobocdbmiagaaDoorMg1
import Derived.Test.YtpfobocdbmiagaaDoorMg3
import Derived.Deep.OwnRows
import Derived.Deep.AppendLies
import Derived.Deep.QuietTactic
import Derived.Laws.OwnMore
import Derived.Laws.ResultCell
namespace Go.Proofs.YtpfobocdbmiagaaDoor
open Go.RowKit

/-- The cells of the first pixels. -/
def pxVals (p : Nat → Px) : Nat → List Value
  | 0 => []
  | i + 1 => pxVals p i ++ (p i).cells
theorem pxVals_length (p : Nat → Px) (n : Nat) : (pxVals p n).length = n * 4 := by
  induction n with
  | zero => rfl
  | succ n ih => simp [pxVals, ih, Px.cells]; omega
theorem pxVals_at (p : Nat → Px) (n i j : Nat) (h : i < n) (hj : j < 4) : (pxVals p n)[i * 4 + j]? = (p i).cells[j]? := by
  induction n with
  | zero => omega
  | succ n ih =>
    have hl := pxVals_length p n
    unfold pxVals
    by_cases e : i = n
    · subst e
      rw [List.getElem?_append_right (by omega), show i * 4 + j - (pxVals p i).length = j by omega]
    · rw [List.getElem?_append_left (by omega)]
      exact ih (by omega)
theorem pxVals_congr {p q : Nat → Px} (n : Nat) (h : ∀ i, i < n → p i = q i) : pxVals p n = pxVals q n := by
  induction n with
  | zero => rfl
  | succ n ih => unfold pxVals; rw [ih (fun i hi => h i (by omega)), h n (by omega)]
theorem pxVals_one {p : Nat → Px} {n : Nat} {u : Value} (h : u ∈ pxVals p n) : u.oneCell' = true := by
  induction n with
  | zero => simp [pxVals] at h
  | succ n ih =>
    unfold pxVals at h
    rcases List.mem_append.1 h with h | h
    · exact ih h
    · simp only [Px.cells, List.mem_cons, List.not_mem_nil, or_false] at h
      rcases h with rfl | rfl | rfl | rfl <;> rfl
/-- A row of pixels of a call's own. -/
theorem own_px {w : World} {base n cap : Nat} {a : Option Addr} {p : Nat → Px} (h : w.ownsRow base 40 4 (.slice a n cap) n (pxVals p n)) (hn : n ≤ maxLen) : IsPx w a n p := by
  by_cases h0 : n = 0
  · exact .inl h0
  rcases h.2 with ⟨_, q⟩ | ⟨g, cap', cur, hv, _⟩
  · exact absurd q h0
  · injection hv with hv _ _
    subst hv
    refine .inr ⟨g, 0, rfl, hn, fun i hi => ?_⟩
    have hc : ∀ j, j < 4 → w.cell? ⟨g, 0 + i * 4 + j, none⟩ = (p i).cells[j]? := fun j hj => by
      rw [Nat.zero_add, h.cellAt (i * 4 + j) (by omega)]
      exact pxVals_at p n i j hi hj
    exact ⟨hc 0 (by omega), hc 1 (by omega), hc 2 (by omega), hc 3 (by omega)⟩
theorem px_info : (Tryd.prog.info? 40).map (fun i => (i.zero, i.size, i.bytes)) = some (some (.agg #[.int .u8 0, .int .u8 0, .int .u8 0, .int .u8 0]), 4, 4) := by kernel_rfl
/-- The cells of pixels that lie there. -/
theorem px_lies {w : World} {b off n : Nat} {p : Nat → Px} (h : ∀ i, i < n → PxAt w b (off + i * 4) (p i)) : ∀ j u, (pxVals p n)[j]? = some u → w.cell? ((⟨b, off, none⟩ : Addr).add j) = some u := fun j u hj => by
  have hjl : j < n * 4 := by
    rcases Nat.lt_or_ge j (n * 4) with q | q
    · exact q
    · rw [List.getElem?_eq_none (by rw [pxVals_length]; exact q)] at hj; cases hj
  have hadd : (⟨b, off, none⟩ : Addr).add j = ⟨b, off + j, none⟩ := by unfold Addr.add; split <;> simp_all
  rw [hadd, ← hj]
  have e := pxVals_at p n (j / 4) (j % 4) (by omega) (by omega)
  rw [show j / 4 * 4 + j % 4 = j by omega] at e
  rw [e]
  have hc := h (j / 4) (by omega)
  rcases (show j % 4 = 0 ∨ j % 4 = 1 ∨ j % 4 = 2 ∨ j % 4 = 3 by omega) with q | q | q | q
  · rw [q, show off + j = off + j / 4 * 4 by omega]; exact hc.r
  · rw [q, show off + j = off + j / 4 * 4 + 1 by omega]; exact hc.g
  · rw [q, show off + j = off + j / 4 * 4 + 2 by omega]; exact hc.b
  · rw [q, show off + j = off + j / 4 * 4 + 3 by omega]; exact hc.a
theorem px_none (w : World) (ao : Option Addr) (cap : Nat) : (Builtin.append_ #[22, 22] 22 #[.slice none 0 0, .slice ao 0 cap]).run Tryd.prog w = .ok (.slice none 0 0) w := by
  cases ao <;> kernel_rfl
/-- A copy of pixels: append to nothing. -/
theorem app_px (w : World) (a : Option Addr) (n c : Nat) (q : Nat → Px) (hP : IsPx w a n q) (hn : n ≤ 100000) :
    ∃ a' c' w', (Builtin.append_ #[22, 22] 22 #[.slice none 0 0, .slice a n c]).run Tryd.prog w = .ok (.slice a' n c') w' ∧ IsPx w' a' n q ∧ Below w.heap.size w w' := by
  obtain ⟨i0, hi, hz0, hz1, hz2⟩ := info_parts px_info
  by_cases h0 : n = 0
  · subst h0
    exact ⟨none, 0, w, px_none w a c, .inl rfl, Below.refl _ _⟩
  · obtain ⟨b, off, rfl, hm, hc⟩ := hP.resolve_left h0
    obtain ⟨g, cap, w', hr, hown, hgr, _, _⟩ := run_append_lies (P := Tryd.prog) w 22 22 w.heap.size 40 i0 (.agg #[.int .u8 0, .int .u8 0, .int .u8 0, .int .u8 0]) 4 4 Tryd.underlying22 hi hz0 hz1 hz2 rfl (by omega) (.slice none 0 0) 0 [] (World.ownsRow_nil _ _ _ _) ⟨b, off, none⟩ n c (pxVals q n) (pxVals_length q n) (px_lies hc) (fun u hu => pxVals_one hu) (by omega) (by unfold maxLen; omega) (by omega) (Nat.le_refl _) _ rfl
    rw [Nat.zero_add] at hr hown
    exact ⟨_, _, w', hr, own_px hown hm, (Below.refl _ _).grown hgr (Nat.le_refl _) (fun k e => by simp [Value.ownBlock] at e)⟩
theorem wpList_appPx (w : World) {ops : Array Oper} {rest : List Oper} {o : Oper} {a : Act} {Q : Exit → Act → World → Prop} (hgd : o.guard = none) (s x : Operand)
    (ho : o.op = .call { callee := .builtin .append, args := #[s, x], argTypes := #[22, 22] }) (hty : o.type = 22) (ao : Option Addr) (n c : Nat) (q : Nat → Px) (hs : a.eval s = .slice none 0 0) (hx : a.eval x = .slice ao n c) (hP : IsPx w ao n q) (hn : n ≤ 100000)
    (h : ∀ a' c' w', IsPx w' a' n q → Below w.heap.size w w' → wpList Tryd.prog ops Q rest (a.put o.dst (.slice a' n c')) w') : wpList Tryd.prog ops Q (o :: rest) a w := by
  obtain ⟨a', c', w', h1, h2, h3⟩ := app_px w ao n c q hP hn
  refine wpList_plain hgd fun _ hK => ?_
  unfold Oper.wp execOp
  simp only [ho, hty, resolve, invoke, builtin, Sem.run_bind, Sem.run_pure, Result.andThen_ok, List.map_toArray, List.map_cons, List.map_nil, hs, hx, h1]
  exact hK _ _ (h a' c' w' h2 h3)
end Go.Proofs.YtpfobocdbmiagaaDoor
