/- Tiles of a picture, as parts of it: the document's. -/
import Derived.Test.YtcicbafdacfbpaiDoorTiP
namespace Go.Proofs.YtcicbafdacfbpaiDoor
open Go.RowKit

/-- The cells of the k-th tile's part. -/
def rectC (W H k : Nat) : List Value := [.int .i64 (tx W k : Int), .int .i64 (ty W k : Int), .int .i64 (tw W k : Int), .int .i64 (th W H k : Int)]
/-- The cells of the parts of some tiles. -/
def rectL (W H : Nat) (l : List Nat) : List Value := l.flatMap (rectC W H)
theorem rectL_length (W H : Nat) (l : List Nat) : (rectL W H l).length = l.length * 4 := by
  induction l with
  | nil => rfl
  | cons a l ih => simp only [rectL, List.flatMap_cons, List.length_append, List.length_cons] at *; rw [ih]; simp [rectC]; omega
theorem rectL_snoc (W H : Nat) (l : List Nat) (k : Nat) : rectL W H (l ++ [k]) = rectL W H l ++ rectC W H k := by simp [rectL]
theorem rectL_at (W H : Nat) (l : List Nat) : ∀ (i j : Nat), i < l.length → j < 4 → (rectL W H l)[i * 4 + j]? = (rectC W H (l.getD i 0))[j]? := by
  induction l with
  | nil => intro i j h; simp at h
  | cons a l ih =>
    intro i j hi hj
    have e : rectL W H (a :: l) = rectC W H a ++ rectL W H l := by simp [rectL]
    rw [e]
    match i with
    | 0 => rw [List.getElem?_append_left (by simp [rectC]; omega)]; simp
    | i + 1 =>
      rw [List.getElem?_append_right (by simp [rectC]; omega), show (i + 1) * 4 + j - (rectC W H a).length = i * 4 + j by simp [rectC]; omega]
      exact ih i j (by simpa using hi) hj
theorem rect_info : (Tryd.prog.info? 62).map (fun i => (i.zero, i.size, i.bytes)) = some (some (.agg #[.int .i64 0, .int .i64 0, .int .i64 0, .int .i64 0]), 4, 32) := by kernel_rfl
/-- Parts of the tiles l lie there. -/
def IsR (w : World) (a : Option Addr) (W H : Nat) (l : List Nat) : Prop := l = [] ∨ ∃ b, a = some ⟨b, 0, none⟩ ∧ ∀ i, i < l.length →
  w.cell? ⟨b, i * 4, none⟩ = some (.int .i64 (tx W (l.getD i 0) : Int)) ∧ w.cell? ⟨b, i * 4 + 1, none⟩ = some (.int .i64 (ty W (l.getD i 0) : Int)) ∧ w.cell? ⟨b, i * 4 + 2, none⟩ = some (.int .i64 (tw W (l.getD i 0) : Int)) ∧ w.cell? ⟨b, i * 4 + 3, none⟩ = some (.int .i64 (th W H (l.getD i 0) : Int))
theorem IsR.below {w w' : World} {a : Option Addr} {W H : Nat} {l : List Nat} (h : IsR w a W H l) (hb : Below w.heap.size w w') : IsR w' a W H l := by
  rcases h with h | ⟨b, ha, h⟩
  · exact .inl h
  · refine .inr ⟨b, ha, fun i hi => ?_⟩
    obtain ⟨h0, h1, h2, h3⟩ := h i hi
    have hl : b < w.heap.size := World.block_lt_of_cell? _ _ h0
    exact ⟨tcell hb hl h0, tcell hb hl h1, tcell hb hl h2, tcell hb hl h3⟩
theorem own_R {w : World} {base cap W H : Nat} {a : Option Addr} {l : List Nat} (h : w.ownsRow base 62 4 (.slice a l.length cap) l.length (rectL W H l)) : IsR w a W H l := by
  by_cases h0 : l.length = 0
  · exact .inl (List.length_eq_zero_iff.1 h0)
  · rcases h.2 with ⟨_, q⟩ | ⟨g, cap', cur, hv, _⟩
    · exact absurd q h0
    · injection hv with hv _ _
      subst hv
      refine .inr ⟨g, rfl, fun i hi => ?_⟩
      have hc : ∀ j, j < 4 → w.cell? ⟨g, i * 4 + j, none⟩ = (rectC W H (l.getD i 0))[j]? := fun j hj => by
        rw [h.cellAt (i * 4 + j) (by omega)]
        exact rectL_at W H l i j hi hj
      exact ⟨hc 0 (by omega), hc 1 (by omega), hc 2 (by omega), hc 3 (by omega)⟩
theorem rect_cells_one (W H k : Nat) : ∀ u ∈ rectC W H k, u.oneCell' = true := fun u h => by
  simp only [rectC, List.mem_cons, List.not_mem_nil, or_false] at h
  rcases h with rfl | rfl | rfl | rfl <;> rfl
/-- Append one part. -/
theorem app_r (w : World) (base q W H k : Nat) (v : Value) (l : List Nat) (hown : w.ownsRow base 62 4 v l.length (rectL W H l)) (hq : w.heap[q]? = some (.cells #[.int .i64 (tx W k : Int), .int .i64 (ty W k : Int), .int .i64 (tw W k : Int), .int .i64 (th W H k : Int)] 62)) (hl : l.length ≤ 100000) (hb : base ≤ w.heap.size) :
    ∃ g c w', (Builtin.append_ #[74, 74] 74 #[v, .slice (some ⟨q, 0, none⟩) 1 1]).run Tryd.prog w = .ok (.slice (some ⟨g, 0, none⟩) (l ++ [k]).length c) w' ∧ w'.ownsRow base 62 4 (.slice (some ⟨g, 0, none⟩) (l ++ [k]).length c) (l ++ [k]).length (rectL W H (l ++ [k])) ∧ w.grownBy w' v.ownBlock := by
  obtain ⟨i0, hi, hz0, hz1, hz2⟩ := info_parts rect_info
  obtain ⟨g, cap, w', hr, hown', hgr, _, _⟩ := run_append_lies (P := Tryd.prog) w 74 74 base 62 i0 (.agg #[.int .i64 0, .int .i64 0, .int .i64 0, .int .i64 0]) 4 32 Tryd.underlying74 hi hz0 hz1 hz2 rfl (by omega) v l.length (rectL W H l) hown ⟨q, 0, none⟩ 1 1 (rectC W H k) rfl (World.news_of_block hq) (rect_cells_one W H k) (by omega) (by unfold maxLen; omega) (by omega) hb _ rfl
  rw [← rectL_snoc] at hown'
  rw [List.length_append]
  exact ⟨g, cap, w', hr, hown', hgr⟩
theorem wpList_appR (w : World) {ops : Array Oper} {rest : List Oper} {o : Oper} {a : Act} {Q : Exit → Act → World → Prop} (hgd : o.guard = none) (s x : Operand)
    (ho : o.op = .call { callee := .builtin .append, args := #[s, x], argTypes := #[74, 74] }) (hty : o.type = 74) (base q W H k : Nat) (v : Value) (l : List Nat) (n : Nat) (hn : l.length = n) (hs : a.eval s = v) (hx : a.eval x = .slice (some ⟨q, 0, none⟩) 1 1)
    (hown : w.ownsRow base 62 4 v n (rectL W H l)) (hq : w.heap[q]? = some (.cells #[.int .i64 (tx W k : Int), .int .i64 (ty W k : Int), .int .i64 (tw W k : Int), .int .i64 (th W H k : Int)] 62)) (hl : n ≤ 100000) (hb : base ≤ w.heap.size)
    (h : ∀ g c w', w'.ownsRow base 62 4 (.slice (some ⟨g, 0, none⟩) (n + 1) c) (n + 1) (rectL W H (l ++ [k])) → w.grownBy w' v.ownBlock → wpList Tryd.prog ops Q rest (a.put o.dst (.slice (some ⟨g, 0, none⟩) (n + 1) c)) w') : wpList Tryd.prog ops Q (o :: rest) a w := by
  subst hn
  obtain ⟨g, c, w', h1, h2, h3⟩ := app_r w base q W H k v l hown hq hl hb
  rw [List.length_append] at h1 h2
  refine wpList_plain hgd fun _ hK => ?_
  unfold Oper.wp execOp
  simp only [ho, hty, resolve, invoke, builtin, Sem.run_bind, Sem.run_pure, Result.andThen_ok, List.map_toArray, List.map_cons, List.map_nil, hs, hx, h1]
  exact hK _ _ (h g c w' h2 h3)
end Go.Proofs.YtcicbafdacfbpaiDoor
