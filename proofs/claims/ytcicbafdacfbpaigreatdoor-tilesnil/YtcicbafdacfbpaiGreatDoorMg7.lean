/- What a grid of a picture holds, plainly. Tiles of a picture, as parts of it: the document's. -/
import Derived.Test.YtcicbafdacfbpaiGreatDoorTi9
namespace Go.Proofs.YtcicbafdacfbpaiGreatDoor
open Go.RowKit

theorem keepN_one {q : Nat → Px} {n : Nat} : keepN q n = 1 ↔ Alk q n := by
  unfold keepN
  split
  · rename_i h; exact ⟨fun _ => h, fun _ => rfl⟩
  · rename_i h
    refine ⟨fun e => ?_, fun e => absurd e h⟩
    intro j hj
    obtain rfl : j = 0 := by omega
    rfl
theorem keepN_or (q : Nat → Px) (n : Nat) : keepN q n = 1 ∨ keepN q n = n := by
  unfold keepN
  split
  · exact .inl rfl
  · exact .inr rfl
theorem keepN_pos {q : Nat → Px} {n : Nat} (h0 : 0 < n) : 0 < keepN q n := by
  rcases keepN_or q n with e | e <;> omega

/-- A pixel of a tile of a picture is the picture's. -/
theorem tval_of {W H k dx dy : Nat} (p : Nat → Px) (hx : dx < tw W k) (hy : dy < th W H k) :
    tval (keepN (tpx W p k) (tpn W H k)) (tw W k) (tpx W p k) dx dy = p ((ty W k + dy) * W + (tx W k + dx)) := by
  have hi : dy * tw W k + dx < tpn W H k := by
    unfold tpn
    have := Nat.mul_le_mul_right (tw W k) (show dy + 1 ≤ th W H k by omega)
    rw [Nat.succ_mul, Nat.mul_comm (th W H k)] at this
    omega
  have e : tpx W p k (dy * tw W k + dx) = p ((ty W k + dy) * W + (tx W k + dx)) := by
    unfold tpx
    rw [Nat.add_comm (dy * tw W k), Nat.add_mul_div_right _ _ (by omega), Nat.div_eq_of_lt hx, Nat.zero_add, Nat.add_mul_mod_self_right, Nat.mod_eq_of_lt hx]
  unfold tval
  split
  · rename_i h
    rw [← keepN_one.1 h _ hi, e]
  · exact e

/-- The number of the tile in which a place lies. -/
def tix (W i : Nat) : Nat := i / W / 16 * tc W + i % W / 16
theorem tix_lt {W H i : Nat} (hW : 1 ≤ W) (hi : i < W * H) : tix W i < tn W H := by
  have h1 : i % W < W := Nat.mod_lt _ (by omega)
  have h2 : i / W < H := Nat.div_lt_of_lt_mul hi
  exact place_tn (by unfold tc; omega) (by unfold tc; omega)
theorem tix_iff {W H i k : Nat} (hW : 1 ≤ W) (hi : i < W * H) (hk : k < tn W H) : (tx W k ≤ i % W ∧ i % W < tx W k + tw W k ∧ ty W k ≤ i / W ∧ i / W < ty W k + th W H k) ↔ tix W i = k := by
  have h1 : i % W < W := Nat.mod_lt _ (by omega)
  have h2 : i / W < H := Nat.div_lt_of_lt_mul hi
  have hc : i % W / 16 < tc W := by unfold tc; omega
  have hp := tile_place hW hk
  have e := Nat.div_add_mod k (tc W)
  have e1 : tix W i / tc W = i / W / 16 := by
    unfold tix
    rw [Nat.add_comm, Nat.add_mul_div_right _ _ (by omega), Nat.div_eq_of_lt hc, Nat.zero_add]
  have e2 : tix W i % tc W = i % W / 16 := by
    unfold tix
    rw [Nat.add_comm, Nat.add_mul_mod_self_right, Nat.mod_eq_of_lt hc]
  have key : (tx W k ≤ i % W ∧ i % W < tx W k + tw W k ∧ ty W k ≤ i / W ∧ i / W < ty W k + th W H k) ↔ (i % W / 16 = k % tc W ∧ i / W / 16 = k / tc W) := by
    have h3 := tc_lt.2 hp.1
    have h4 := tc_lt.2 hp.2
    unfold tx ty tw th tx ty
    omega
  rw [key]
  constructor
  · rintro ⟨a, b⟩
    rw [← e, ← a, ← b]
    unfold tix
    rw [Nat.mul_comm]
  · intro h
    rw [← h, e1, e2]
    exact ⟨rfl, rfl⟩
theorem picT_at {W H : Nat} (p : Nat → Px) (hW : 1 ≤ W) {i : Nat} (hi : i < W * H) : ∀ k, k ≤ tn W H → picT W H (fun k => keepN (tpx W p k) (tpn W H k)) (tpx W p) k i = if tix W i < k then p i else px0
  | 0, _ => by rw [if_neg (Nat.not_lt_zero _)]; rfl
  | k + 1, hk => by
    have ih := picT_at p hW hi k (by omega)
    have iff := tix_iff hW hi (show k < tn W H by omega)
    show putT W _ _ _ _ _ _ 0 i = _
    unfold putT
    by_cases h : tix W i = k
    · have hc := iff.2 h
      rw [if_pos (by omega), if_pos (by omega), tval_of p (by omega) (by omega)]
      congr 1
      rw [show ty W k + (i / W - ty W k) = i / W by omega, show tx W k + (i % W - tx W k) = i % W by omega, Nat.mul_comm]
      exact Nat.div_add_mod i W
    · have hc := fun q => h (iff.1 q)
      rw [if_neg (fun q => hc (by omega)), ih]
      by_cases h2 : tix W i < k
      · rw [if_pos h2, if_pos (by omega)]
      · rw [if_neg h2, if_neg (by omega)]
/-- The picture of the grid of a picture. -/
theorem picT_of {W H : Nat} (p : Nat → Px) (hW : 1 ≤ W) (i : Nat) (hi : i < W * H) : picT W H (fun k => keepN (tpx W p k) (tpn W H k)) (tpx W p) (tn W H) i = p i := by
  rw [picT_at p hW hi _ (Nat.le_refl _), if_pos (tix_lt hW hi)]

theorem picture_of (gr W H : Nat) (p : Nat → Px) (w : World) (hG : GridOf w gr W H p) (hW0 : 1 ≤ W) (hW : W ≤ 256) (hH0 : 1 ≤ H) (hH : H ≤ 256) :
    Calls Tryz.prog 20 #[.pointer (some ⟨gr, 0, none⟩)] w fun e w' => ∃ g, e = .returned (.agg #[.int .i64 (W : Int), .int .i64 (H : Int), .slice (some ⟨g, 0, none⟩) (W * H) (W * H)]) ∧ w.heap.size ≤ g ∧ PR w' g (W * H) p ∧ Below w.heap.size w w' := by
  refine (picture_some gr W H _ _ w hG hW0 hW hH0 hH (fun k _ => keepN_or _ _)).mono ?_
  rintro e w' ⟨g, rfl, hg, hr, hb⟩
  exact ⟨g, rfl, hg, hr.congr (fun i hi => picT_of p hW0 i hi), hb⟩
end Go.Proofs.YtcicbafdacfbpaiGreatDoor
namespace Go.Proofs.YtcicbafdacfbpaiGreatDoor
open Go.RowKit

/-- The cells of the k-th tile's part. -/
def rectC (W H k : Nat) : List Value := [.int .i64 (tx W k : Int), .int .i64 (ty W k : Int), .int .i64 (tw W k : Int), .int .i64 (th W H k : Int)]
/-- The cells of the parts of some tiles. -/
def rectL (W H : Nat) (l : List Nat) : List Value := l.flatMap (rectC W H)
theorem rectL_length (W H : Nat) (l : List Nat) : (rectL W H l).length = l.length * 4 := by
  induction l with
  | nil => rfl
  | cons a l ih => simp only [rectL, List.flatMap_cons, List.length_append, List.length_cons] at *; rw [ih]; simp [rectC]; omega
theorem rectL_snoc (W H : Nat) (l : List Nat) (k : Nat) : rectL W H (l ++ [k]) = rectL W H l ++ rectC W H k := by simp [rectL]
theorem rectL_at (W H : Nat) (l : List Nat) : ∀ (i j : Nat), i < l.length → j < 4 → (rectL W H l)[i * 4 + j]? = (rectC W H (l.getD i 0))[j]? := by
  induction l with
  | nil => intro i j h; simp at h
  | cons a l ih =>
    intro i j hi hj
    have e : rectL W H (a :: l) = rectC W H a ++ rectL W H l := by simp [rectL]
    rw [e]
    match i with
    | 0 => rw [List.getElem?_append_left (by simp [rectC]; omega)]; simp
    | i + 1 =>
      rw [List.getElem?_append_right (by simp [rectC]; omega), show (i + 1) * 4 + j - (rectC W H a).length = i * 4 + j by simp [rectC]; omega]
      exact ih i j (by simpa using hi) hj
theorem rect_info : (Tryz.prog.info? 37).map (fun i => (i.zero, i.size, i.bytes)) = some (some (.agg #[.int .i64 0, .int .i64 0, .int .i64 0, .int .i64 0]), 4, 32) := by kernel_rfl
/-- Parts of the tiles l lie there. -/
def IsR (w : World) (a : Option Addr) (W H : Nat) (l : List Nat) : Prop := l = [] ∨ ∃ b, a = some ⟨b, 0, none⟩ ∧ ∀ i, i < l.length →
  w.cell? ⟨b, i * 4, none⟩ = some (.int .i64 (tx W (l.getD i 0) : Int)) ∧ w.cell? ⟨b, i * 4 + 1, none⟩ = some (.int .i64 (ty W (l.getD i 0) : Int)) ∧ w.cell? ⟨b, i * 4 + 2, none⟩ = some (.int .i64 (tw W (l.getD i 0) : Int)) ∧ w.cell? ⟨b, i * 4 + 3, none⟩ = some (.int .i64 (th W H (l.getD i 0) : Int))
theorem IsR.below {w w' : World} {a : Option Addr} {W H : Nat} {l : List Nat} (h : IsR w a W H l) (hb : Below w.heap.size w w') : IsR w' a W H l := by
  rcases h with h | ⟨b, ha, h⟩
  · exact .inl h
  · refine .inr ⟨b, ha, fun i hi => ?_⟩
    obtain ⟨h0, h1, h2, h3⟩ := h i hi
    have hl : b < w.heap.size := World.block_lt_of_cell? _ _ h0
    exact ⟨tcell hb hl h0, tcell hb hl h1, tcell hb hl h2, tcell hb hl h3⟩
theorem own_R {w : World} {base cap W H : Nat} {a : Option Addr} {l : List Nat} (h : w.ownsRow base 37 4 (.slice a l.length cap) l.length (rectL W H l)) : IsR w a W H l := by
  by_cases h0 : l.length = 0
  · exact .inl (List.length_eq_zero_iff.1 h0)
  · rcases h.2 with ⟨_, q⟩ | ⟨g, cap', cur, hv, _⟩
    · exact absurd q h0
    · injection hv with hv _ _
      subst hv
      refine .inr ⟨g, rfl, fun i hi => ?_⟩
      have hc : ∀ j, j < 4 → w.cell? ⟨g, i * 4 + j, none⟩ = (rectC W H (l.getD i 0))[j]? := fun j hj => by
        rw [h.cellAt (i * 4 + j) (by omega)]
        exact rectL_at W H l i j hi hj
      exact ⟨hc 0 (by omega), hc 1 (by omega), hc 2 (by omega), hc 3 (by omega)⟩
theorem rect_cells_one (W H k : Nat) : ∀ u ∈ rectC W H k, u.oneCell' = true := fun u h => by
  simp only [rectC, List.mem_cons, List.not_mem_nil, or_false] at h
  rcases h with rfl | rfl | rfl | rfl <;> rfl
/-- Append one part. -/
theorem app_r (w : World) (base q W H k : Nat) (v : Value) (l : List Nat) (hown : w.ownsRow base 37 4 v l.length (rectL W H l)) (hq : w.heap[q]? = some (.cells #[.int .i64 (tx W k : Int), .int .i64 (ty W k : Int), .int .i64 (tw W k : Int), .int .i64 (th W H k : Int)] 37)) (hl : l.length ≤ 100000) (hb : base ≤ w.heap.size) :
    ∃ g c w', (Builtin.append_ #[50, 50] 50 #[v, .slice (some ⟨q, 0, none⟩) 1 1]).run Tryz.prog w = .ok (.slice (some ⟨g, 0, none⟩) (l ++ [k]).length c) w' ∧ w'.ownsRow base 37 4 (.slice (some ⟨g, 0, none⟩) (l ++ [k]).length c) (l ++ [k]).length (rectL W H (l ++ [k])) ∧ w.grownBy w' v.ownBlock := by
  obtain ⟨i0, hi, hz0, hz1, hz2⟩ := info_parts rect_info
  obtain ⟨g, cap, w', hr, hown', hgr, _, _⟩ := run_append_lies (P := Tryz.prog) w 50 50 base 37 i0 (.agg #[.int .i64 0, .int .i64 0, .int .i64 0, .int .i64 0]) 4 32 Tryz.underlying50 hi hz0 hz1 hz2 rfl (by omega) v l.length (rectL W H l) hown ⟨q, 0, none⟩ 1 1 (rectC W H k) rfl (World.news_of_block hq) (rect_cells_one W H k) (by omega) (by unfold maxLen; omega) (by omega) hb _ rfl
  rw [← rectL_snoc] at hown'
  rw [List.length_append]
  exact ⟨g, cap, w', hr, hown', hgr⟩
theorem wpList_appR (w : World) {ops : Array Oper} {rest : List Oper} {o : Oper} {a : Act} {Q : Exit → Act → World → Prop} (hgd : o.guard = none) (s x : Operand)
    (ho : o.op = .call { callee := .builtin .append, args := #[s, x], argTypes := #[50, 50] }) (hty : o.type = 50) (base q W H k : Nat) (v : Value) (l : List Nat) (n : Nat) (hn : l.length = n) (hs : a.eval s = v) (hx : a.eval x = .slice (some ⟨q, 0, none⟩) 1 1)
    (hown : w.ownsRow base 37 4 v n (rectL W H l)) (hq : w.heap[q]? = some (.cells #[.int .i64 (tx W k : Int), .int .i64 (ty W k : Int), .int .i64 (tw W k : Int), .int .i64 (th W H k : Int)] 37)) (hl : n ≤ 100000) (hb : base ≤ w.heap.size)
    (h : ∀ g c w', w'.ownsRow base 37 4 (.slice (some ⟨g, 0, none⟩) (n + 1) c) (n + 1) (rectL W H (l ++ [k])) → w.grownBy w' v.ownBlock → wpList Tryz.prog ops Q rest (a.put o.dst (.slice (some ⟨g, 0, none⟩) (n + 1) c)) w') : wpList Tryz.prog ops Q (o :: rest) a w := by
  subst hn
  obtain ⟨g, c, w', h1, h2, h3⟩ := app_r w base q W H k v l hown hq hl hb
  rw [List.length_append] at h1 h2
  refine wpList_plain hgd fun _ hK => ?_
  unfold Oper.wp execOp
  simp only [ho, hty, resolve, invoke, builtin, Sem.run_bind, Sem.run_pure, Result.andThen_ok, List.map_toArray, List.map_cons, List.map_nil, hs, hx, h1]
  exact hK _ _ (h g c w' h2 h3)
end Go.Proofs.YtcicbafdacfbpaiGreatDoor
