/- Moving pictures: is there something wrong with a frame, whatever its colors? The program's check. Moving pictures: a frame is told, behind those that are: Write's closure. Written by genGpw.py. -/
import Derived.Test.YtjcoahahponabaaDoorMg16
import Derived.Test.YtjcoahahponabaaDoorMg19
import Derived.Deep.RegionHeld
import Derived.Test.YtjcoahahponabaaDoorGp6
namespace Go.Proofs.YtjcoahahponabaaDoor
open Go.RowKit

/-- What is wrong with a frame, whatever its colors: an error's number. -/
def chE (f g : Fr) : Nat := if RightP f.W f.H f.n ∧ f.W = g.W ∧ f.H = g.H then (if 0 ≤ f.d ∧ f.d ≤ 65535 then 0 else 2) else 3
theorem chE_shape {f g : Fr} (h : ¬ (RightP f.W f.H f.n ∧ f.W = g.W ∧ f.H = g.H)) : chE f g = 3 := by unfold chE; rw [if_neg h]
theorem chE_bound {f g : Fr} (h : RightP f.W f.H f.n ∧ f.W = g.W ∧ f.H = g.H) (h2 : ¬ (0 ≤ f.d ∧ f.d ≤ 65535)) : chE f g = 2 := by unfold chE; rw [if_pos h, if_neg h2]
theorem chE_ok {f g : Fr} (h : RightP f.W f.H f.n ∧ f.W = g.W ∧ f.H = g.H) (h2 : 0 ≤ f.d ∧ f.d ≤ 65535) : chE f g = 0 := by unfold chE; rw [if_pos h, if_pos h2]
theorem chE_zero {f g : Fr} (h : chE f g = 0) : (RightP f.W f.H f.n ∧ f.W = g.W ∧ f.H = g.H) ∧ (0 ≤ f.d ∧ f.d ≤ 65535) := by
  unfold chE at h
  split at h
  · next q =>
    split at h
    · next q2 => exact ⟨q, q2⟩
    · omega
  · omega
/-- An error by its number. -/
def geV (a : Nat → Addr) (c : Nat) : Value := if c = 0 then .nilIface else sentV a (c - 1)

set_option maxHeartbeats 4000000 in
set_option maxRecDepth 100000 in
theorem gcheck_any (f g : Fr) (a : Option Addr) (c : Nat) (a0 : Option Addr) (c0 : Nat) (w : World) (aS : Nat → Addr) (hS : Told w [1, 2] aS) :
    Calls Tryd.prog 26 #[.agg #[.int .i64 f.W, .int .i64 f.H, .slice a f.n c, .int .i64 f.d], .agg #[.int .i64 g.W, .int .i64 g.H, .slice a0 g.n c0]] w fun e w' => e = .returned (geV aS (chE f g)) ∧ Below w.heap.size w w' := by
  have HA := hide (al2 w (.cells #[.int .i64 f.W, .int .i64 f.H, .slice a f.n c, .int .i64 f.d] 37) (.cells #[.int .i64 g.W, .int .i64 g.H, .slice a0 g.n c0] 35))
  have HG1 : Hid (∀ wr, Below w.heap.size w wr → wr.cell? ⟨1, 0, none⟩ = some (sentV aS 1)) := fun wr hb => (hS.below hb) 1 (by simp)
  have HG2 : Hid (∀ wr, Below w.heap.size w wr → wr.cell? ⟨3, 0, none⟩ = some (sentV aS 2)) := fun wr hb => (hS.below hb) 2 (by simp)
  have HE3 : Hid (chE f g = 3 → geV aS (chE f g) = sentV aS 2) := fun e => by rw [e]; rfl
  have HE2 : Hid (chE f g = 2 → geV aS (chE f g) = sentV aS 1) := fun e => by rw [e]; rfl
  have HE0 : Hid (chE f g = 0 → geV aS (chE f g) = .nilIface) := fun e => by rw [e]; rfl
  have HSh := hide (@chE_shape f g)
  have HBd := hide (@chE_bound f g)
  have HOk := hide (@chE_ok f g)
  have HR := hide (fun w => isRight_any f.W f.H a f.n c w)
  have HD := hide (fun w => isPair_any f.d w)
  generalize geV aS (chE f g) = gv at *
  generalize chE f g = ce at *
  generalize sentV aS 1 = s1 at *
  generalize sentV aS 2 = s2 at *
  obtain ⟨B, hB⟩ : ∃ B, B = w.heap.size := ⟨_, rfl⟩
  clear hS
  go_enter Tryd.func26, Tryd.ntmps26
  go_wp2_with fail
  generalize (w.alloc (.cells #[.int .i64 f.W, .int .i64 f.H, .slice a f.n c, .int .i64 f.d] 37)).alloc (.cells #[.int .i64 g.W, .int .i64 g.H, .slice a0 g.n c0] 35) = w1 at *
  rw [← hB] at HA HG1 HG2 ⊢
  obtain ⟨hs1, k0, k1, hb1⟩ := unhide HA
  have HBE := hide hB
  clear HA
  refine (unhide HR _).mono ?_
  rintro e w2 ⟨rfl, hb2⟩
  have HB2 := hide (hb1.trans (hb2.mono (by omega)))
  have k0 := blk_below k0 hb2 (by omega)
  have k1 := blk_below k1 hb2 (by omega)
  have c0W : w2.cell? ⟨B, 0, none⟩ = some (.int .i64 f.W) := blk_cell k0 0
  have c0H : w2.cell? ⟨B, 1, none⟩ = some (.int .i64 f.H) := blk_cell k0 1
  have c0d : w2.cell? ⟨B, 3, none⟩ = some (.int .i64 f.d) := blk_cell k0 3
  have c1W : w2.cell? ⟨B + 1, 0, none⟩ = some (.int .i64 g.W) := blk_cell k1 0
  have c1H : w2.cell? ⟨B + 1, 1, none⟩ = some (.int .i64 g.H) := blk_cell k1 1
  have q1 := unhide HG1 w2 (unhide HB2)
  have q2 := unhide HG2 w2 (unhide HB2)
  clear HG1 HG2 hb1 hb2 k0 k1 hs1 HR hB
  by_cases hR : RightP f.W f.H f.n
  rotate_left
  · have h3 := unhide HE3 (unhide HSh (fun q => hR q.1))
    rw [decide_eq_false hR]
    clear hR HE3 HE2 HE0 HSh HBd HOk HD
    go_wp2
    go_ret
    exact ⟨by rw [h3]; rfl, by rw [← unhide HBE]; exact unhide HB2⟩
  by_cases hW : f.W = g.W
  rotate_left
  · have h3 := unhide HE3 (unhide HSh (fun q => hW q.2.1))
    have gW : (f.W != g.W) = true := bne_iff_ne.2 hW
    rw [decide_eq_true hR]
    clear hR hW HE3 HE2 HE0 HSh HBd HOk HD
    go_wp2
    go_ret
    exact ⟨by rw [h3]; rfl, by rw [← unhide HBE]; exact unhide HB2⟩
  have gW : (f.W != g.W) = false := by rw [hW]; exact bne_self_eq_false _
  by_cases hH : f.H = g.H
  rotate_left
  · have h3 := unhide HE3 (unhide HSh (fun q => hH q.2.2))
    have gH : (f.H != g.H) = true := bne_iff_ne.2 hH
    rw [decide_eq_true hR]
    clear hR hW hH HE3 HE2 HE0 HSh HBd HOk HD
    go_wp2
    go_ret
    exact ⟨by rw [h3]; rfl, by rw [← unhide HBE]; exact unhide HB2⟩
  have gH : (f.H != g.H) = false := by rw [hH]; exact bne_self_eq_false _
  have hOK : RightP f.W f.H f.n ∧ f.W = g.W ∧ f.H = g.H := ⟨hR, hW, hH⟩
  rw [decide_eq_true hR]
  by_cases hd : 0 ≤ f.d ∧ f.d ≤ 65535
  · have h0 := unhide HE0 (unhide HOk hOK hd)
    rw [decide_eq_true hd] at HD
    clear hR hW hH hOK hd HE3 HE2 HE0 HSh HBd HOk
    go_wp2_with fail
    refine (unhide HD _).mono ?_
    rintro e w3 ⟨rfl, rfl⟩
    go_wp2
    go_ret
    exact ⟨by rw [h0]; rfl, by rw [← unhide HBE]; exact unhide HB2⟩
  · have h2 := unhide HE2 (unhide HBd hOK hd)
    rw [decide_eq_false hd] at HD
    clear hR hW hH hOK hd HE3 HE2 HE0 HSh HBd HOk
    go_wp2_with fail
    refine (unhide HD _).mono ?_
    rintro e w3 ⟨rfl, rfl⟩
    go_wp2
    go_ret
    exact ⟨by rw [h2]; rfl, by rw [← unhide HBE]; exact unhide HB2⟩
end Go.Proofs.YtjcoahahponabaaDoor
namespace Go.Proofs.YtjcoahahponabaaDoor
open Go.RowKit

theorem nm_block {w w' : World} {a : Option Addr} {l : List Nat} (h : IsNm w a l) (e : ∀ x, a = some x → w'.heap[x.block]? = w.heap[x.block]?) : IsNm w' a l := by
  obtain ⟨g, rfl, hg, hc⟩ := h
  have e1 : w'.heap[g]? = w.heap[g]? := e _ rfl
  refine ⟨g, rfl, ?_, fun j hj => by rw [World.cell?_of_block (a := ⟨g, j, none⟩) e1]; exact hc j hj⟩
  rcases Nat.lt_or_ge g w'.heap.size with h | h
  · exact h
  · rw [Array.getElem?_eq_none h, Array.getElem?_eq_getElem hg] at e1
    simp at e1
theorem TfV.in.block {V : TfV} {w w' : World} (h : V.in w) (e1 : ∀ x, V.a1 = some x → w'.heap[x.block]? = w.heap[x.block]?) (e2 : ∀ x, V.a2 = some x → w'.heap[x.block]? = w.heap[x.block]?) : V.in w' :=
  ⟨h.ok, isPx_block h.px (fun x e _ => e1 x e), nm_block h.nm e2⟩
theorem set5_at {w : World} {k : Nat} {o0 o1 o2 o3 o4 : Value} {t : TypeId} (h : w.heap[k]? = some (.cells #[o0, o1, o2, o3, o4] t)) (v0 v1 v2 v3 v4 : Value) : (((((w.setCell ⟨k, 0, none⟩ v0).setCell ⟨k, 1, none⟩ v1).setCell ⟨k, 2, none⟩ v2).setCell ⟨k, 3, none⟩ v3).setCell ⟨k, 4, none⟩ v4).heap[k]? = some (.cells #[v0, v1, v2, v3, v4] t) := by
  have := set_cells (j := 4) (set_cells (j := 3) (set_cells (j := 2) (set_cells (j := 1) (set_cells (j := 0) h v0) v1) v2) v3) v4
  simpa using this
theorem frE_right {f g : Fr} (h : frE f g = 0) : RightP f.W f.H f.n := by
  unfold frE at h
  split at h
  · next q => exact q.1
  · omega
theorem frE_same {f g : Fr} (h : frE f g = 0) (h0 : frE g g = 0) : f.n = g.n := by
  have h1 := frE_right h
  have h2 := frE_right h0
  unfold frE at h
  split at h
  · next q =>
    have a1 := h1.2.2
    have a2 := h2.2.2
    rw [q.2.1, q.2.2] at a1
    omega
  · omega
theorem TfV.cells_length (V : TfV) : V.cells.length = 5 := rfl

theorem tf_info : (Tryd.prog.info? 51).map (fun i => (i.zero, i.size, i.bytes)) = some (some (.agg #[.int .i64 0, .int .i64 0, .int .i64 0, .slice none 0 0, .slice none 0 0]), 5, 72) := by kernel_rfl
/-- A told frame behind told frames of one's own. -/
theorem wpList_appTf (w : World) {ops : Array Oper} {rest : List Oper} {o : Oper} {a : Act} {Q : Exit → Act → World → Prop} (hgd : o.guard = none) (sx x : Operand)
    (ho : o.op = .call { callee := .builtin .append, args := #[sx, x], argTypes := #[47, 47] }) (base q n c : Nat) (s : Option Addr) (F : List Value) (V : TfV) (hs : a.eval sx = .slice s n c) (hx : a.eval x = .slice (some ⟨q, 0, none⟩) 1 1)
    (hown : w.ownsRow base 51 5 (.slice s n c) n F) (hq : w.heap[q]? = some (.cells V.cells.toArray 51)) (hn : n ≤ 100000) (hbase : base ≤ w.heap.size)
    (h : ∀ g cap w', w'.ownsRow base 51 5 (.slice (some ⟨g, 0, none⟩) (n + 1) cap) (n + 1) (F ++ V.cells) → w.grownBy w' (Value.slice s n c).ownBlock → ((Value.slice s n c).ownBlock = some g ∨ g = w.heap.size) → g < w'.heap.size → wpList Tryd.prog ops Q rest (a.put o.dst (.slice (some ⟨g, 0, none⟩) (n + 1) cap)) w') : wpList Tryd.prog ops Q (o :: rest) a w := by
  obtain ⟨i0, hi, hz0, hz1, hz2⟩ := info_parts tf_info
  exact wpList_append_lies w hgd sx x 47 ho base 51 i0 _ 5 72 Tryd.underlying47 hi hz0 hz1 hz2 rfl (by omega) _ n F hs hown ⟨q, 0, none⟩ 1 1 V.cells hx rfl (fun j u hj => by
    have hadd : (⟨q, 0, none⟩ : Addr).add j = ⟨q, j, none⟩ := by unfold Addr.add; split <;> simp_all
    rw [hadd, blk_cell hq]
    simpa using hj) (fun u hu => by
    simp only [TfV.cells, List.mem_cons, List.not_mem_nil, or_false] at hu
    rcases hu with rfl | rfl | rfl | rfl | rfl <;> rfl) (by omega) (by unfold maxLen; omega) (by omega) hbase _ rfl h

theorem TfV.in.lt1 {V : TfV} {w : World} (h : V.in w) : ∀ x, V.a1 = some x → x.block < w.heap.size := fun x e => h.px.lt x e (by have := h.ok.K1; omega)
theorem TfV.in.lt2 {V : TfV} {w : World} (h : V.in w) : ∀ x, V.a2 = some x → x.block < w.heap.size := fun x e => by
  obtain ⟨q, e2, hq, _⟩ := h.nm
  rw [e] at e2
  injection e2 with e2
  subst e2
  exact hq
theorem own_setG {w : World} {base n size : Nat} {e : TypeId} {v : Value} {xs : List Value} (h : w.ownsRow base e size v n xs) {p : Addr} (hp : p.block < base) (y : Value) : (w.setCell p y).ownsRow base e size v n xs :=
  own_stay h (fun g hg => by
    have := (h.lt g hg).1
    exact Below.heap_setCell _ _ _ _ (by omega))
/-- The told frames so far. -/
structure TldA (V : Nat → FrV) (w : World) (tv : Value) (U : TfV) (j : Nat) : Prop where
  ok : frE (V j).f (V 0).f = 0
  eq : U.T = (V j).f.tf
  is : U.in w
  n1 : ∀ x, U.a1 = some x → tv.ownBlock ≠ some x.block
  n2 : ∀ x, U.a2 = some x → tv.ownBlock ≠ some x.block

/-- And they lie behind a variable. -/
def TldW (V : Nat → FrV) (T : Nat) (w : World) (tv : Value) (U : TfV) (j : Nat) : Prop :=
  TldA V w tv U j ∧ (∀ x, U.a1 = some x → T < x.block) ∧ (∀ x, U.a2 = some x → T < x.block)
theorem TldW.below {V : Nat → FrV} {T : Nat} {w w' : World} {tv : Value} {U : TfV} {j : Nat} (h : TldW V T w tv U j) (hb : Below w.heap.size w w') : TldW V T w' tv U j :=
  ⟨⟨h.1.ok, h.1.eq, h.1.is.below hb, h.1.n1, h.1.n2⟩, h.2⟩
/-- What Write has told so far, in a variable of its own. -/
def WrR (V : Nat → FrV) (w0 : World) (T i : Nat) (wr : World) : Prop :=
  Below w0.heap.size w0 wr ∧ w0.heap.size ≤ T ∧ T < wr.heap.size ∧ ∃ (ta : Option Addr) (tc : Nat) (U : Nat → TfV), wr.heap[T]? = some (.cells #[.slice ta i tc] 47) ∧ wr.ownsRow (T + 1) 51 5 (.slice ta i tc) i (rowV (fun j => (U j).cells) i) ∧ ∀ j, j < i → TldW V T wr (.slice ta i tc) (U j) j
theorem WrR.below {V : Nat → FrV} {w0 : World} {T i : Nat} {w w' : World} (h : WrR V w0 T i w) (hb : Below w.heap.size w w') : WrR V w0 T i w' := by
  obtain ⟨h1, h2, h3, ta, tc, U, h4, h5, h6⟩ := h
  exact ⟨h1.trans (hb.mono h1.size), h2, Nat.lt_of_lt_of_le h3 hb.size, ta, tc, U, blk_below h4 hb h3, own_belowG h5 hb, fun j hj => (h6 j hj).below hb⟩

theorem geV_good {aS : Nat → Addr} {k : Nat} (h : k = 0) : Value.nilIface = geV aS k := by unfold geV; rw [if_pos h]
theorem geV_bad {aS : Nat → Addr} {k : Nat} (h : k ≠ 0) : sentV aS (k - 1) = geV aS k := by unfold geV; rw [if_neg h]

set_option maxHeartbeats 8000000 in
set_option maxRecDepth 100000 in
theorem wtell_any (V : Nat → FrV) (w0 : World) (T i : Nat) (wr : World) (aS : Nat → Addr) (hS : Told w0 [1, 2, 6] aS) (hV : (V i).in w0) (hi : i ≤ 100) (hR : WrR V w0 T i wr) (hc : chE (V i).f (V 0).f = 0) :
    Calls Tryd.prog 15 #[.agg #[.int .i64 (V i).f.W, .int .i64 (V i).f.H, .slice (V i).a (V i).f.n (V i).c, .int .i64 (V i).f.d], .pointer (some ⟨T, 0, none⟩)] wr fun e w' => e = .returned (geV aS (frE (V i).f (V 0).f)) ∧ Below w0.heap.size w0 w' ∧ (frE (V i).f (V 0).f = 0 → WrR V w0 T (i + 1) w') := by
  obtain ⟨hb0, hT0, hTl, ta, tc, U, hk, hown, hU⟩ := hR
  obtain ⟨hOK, hd⟩ := chE_zero hc
  have HA := hide (al1 wr (.cells #[.int .i64 (V i).f.W, .int .i64 (V i).f.H, .slice (V i).a (V i).f.n (V i).c, .int .i64 (V i).f.d] 37))
  have HFO := hide (fun wx (hb : Below wr.heap.size wr wx) => frameOf_any (V i).f (V 0).f (V i).a (V i).c wx aS (hS.below (hb0.trans (hb.mono hb0.size))) (hV.below (hb0.trans (hb.mono hb0.size))) hOK hd)
  have hsz0 := hb0.size
  obtain ⟨z0, hz0⟩ : ∃ z, z = w0.heap.size := ⟨_, rfl⟩
  rw [← hz0] at hsz0 hT0
  have HZ0 := hide hz0
  have HB0 := hide hb0
  have HK := hide hk
  have HObl : Hid (∀ k, (Value.slice ta i tc).ownBlock = some k → k < wr.heap.size) := fun k e => (hown.lt k e).2
  have HO := hide hown
  have HU := hide hU
  clear hS hV hOK hd hb0 hk hown hU hc hz0
  go_enter Tryd.func15, Tryd.ntmps15
  go_wp2_with fail
  generalize wr.alloc (.cells #[.int .i64 (V i).f.W, .int .i64 (V i).f.H, .slice (V i).a (V i).f.n (V i).c, .int .i64 (V i).f.d] 37) = w5 at *
  obtain ⟨hs5, k5, hb5⟩ := unhide HA
  refine (unhide HFO w5 hb5).mono ?_
  rintro e w6 ⟨hr, hb6⟩
  have hX : ∃ (X : TfV) (ev : Value), e = .returned (.tuple #[.agg #[.int .i64 (X.T.W : Int), .int .i64 (X.T.H : Int), .int .i64 (X.T.d : Int), .slice X.a1 X.T.U.length X.c1, .slice X.a2 X.T.N.length X.c2], ev]) ∧ ev = geV aS (frE (V i).f (V 0).f) ∧ (frE (V i).f (V 0).f = 0 → X.T = (V i).f.tf ∧ X.in w6 ∧ (∀ x, X.a1 = some x → w5.heap.size ≤ x.block) ∧ (∀ x, X.a2 = some x → w5.heap.size ≤ x.block)) := by
    rcases hr with ⟨h, a1, c1, a2, c2, rfl, hin, hn1, hn2⟩ | ⟨h, rfl⟩
    · exact ⟨⟨(V i).f.tf, a1, c1, a2, c2⟩, .nilIface, rfl, geV_good h, fun _ => ⟨rfl, hin, hn1, hn2⟩⟩
    · exact ⟨⟨⟨0, 0, 0, [], []⟩, none, 0, none, 0⟩, _, rfl, geV_bad h, fun q => absurd q h⟩
  obtain ⟨X, ev, rfl, hev, hX⟩ := hX
  have HEV := hide hev
  have HX := hide hX
  have hs6 := hb6.size
  have hs5b := hb5.size
  have k6 := blk_below (blk_below (unhide HK) hb5 hTl) hb6 (by omega)
  have HB6 := hide ((unhide HB0).trans ((hb5.trans (hb6.mono hs5b)).mono (by rw [← unhide HZ0]; omega)))
  have HO6 := hide (own_belowG (own_belowG (unhide HO) hb5) hb6)
  have HU6 : Hid (∀ j, j < i → TldW V T w6 (.slice ta i tc) (U j) j) := fun j hj => ((unhide HU j hj).below hb5).below hb6
  clear HA HFO HK HO HU HB0 hr hev hX hb5 k5
  have HA6 := hide (al1 w6 (.cells #[.int .i64 (X.T.W : Int), .int .i64 (X.T.H : Int), .int .i64 (X.T.d : Int), .slice X.a1 X.T.U.length X.c1, .slice X.a2 X.T.N.length X.c2] 51))
  have HCL : Hid (X.cells = [.int .i64 (X.T.W : Int), .int .i64 (X.T.H : Int), .int .i64 (X.T.d : Int), .slice X.a1 X.T.U.length X.c1, .slice X.a2 X.T.N.length X.c2]) := rfl
  generalize (X.T.W : Int) = tw0 at *
  generalize (X.T.H : Int) = tw1 at *
  generalize (X.T.d : Int) = tw2 at *
  generalize X.T.U.length = tw3 at *
  generalize X.T.N.length = tw4 at *
  go_upto_region 2 with fail
  generalize w6.alloc (.cells #[.int .i64 tw0, .int .i64 tw1, .int .i64 tw2, .slice X.a1 tw3 X.c1, .slice X.a2 tw4 X.c2] 51) = w7 at *
  obtain ⟨hs7, k7, hb7⟩ := unhide HA6
  have HB7 := hide ((unhide HB6).trans (hb7.mono (by rw [← unhide HZ0]; omega)))
  have HO7 := hide (own_belowG (unhide HO6) hb7)
  have HU7 : Hid (∀ j, j < i → TldW V T w7 (.slice ta i tc) (U j) j) := fun j hj => (unhide HU6 j hj).below hb7
  have kT := blk_below k6 hb7 (by omega)
  have HX7 : Hid (frE (V i).f (V 0).f = 0 → X.T = (V i).f.tf ∧ X.in w7 ∧ (∀ x, X.a1 = some x → wr.heap.size ≤ x.block ∧ x.block < w7.heap.size) ∧ (∀ x, X.a2 = some x → wr.heap.size ≤ x.block ∧ x.block < w7.heap.size)) := fun q => by
    obtain ⟨h1, h2, h3, h4⟩ := unhide HX q
    have h2' := h2.below hb7
    exact ⟨h1, h2', fun x e => ⟨by have := h3 x e; omega, h2'.lt1 x e⟩, fun x e => ⟨by have := h4 x e; omega, h2'.lt2 x e⟩⟩
  have p0 : w7.cell? ⟨w6.heap.size, 0, none⟩ = some (.int .i64 tw0) := blk_cell k7 0
  have p1 : w7.cell? ⟨w6.heap.size, 1, none⟩ = some (.int .i64 tw1) := blk_cell k7 1
  have p2 : w7.cell? ⟨w6.heap.size, 2, none⟩ = some (.int .i64 tw2) := blk_cell k7 2
  have p3 : w7.cell? ⟨w6.heap.size, 3, none⟩ = some (.slice X.a1 tw3 X.c1) := blk_cell k7 3
  have p4 : w7.cell? ⟨w6.heap.size, 4, none⟩ = some (.slice X.a2 tw4 X.c2) := blk_cell k7 4
  have pT : w7.cell? ⟨T, 0, none⟩ = some (.slice ta i tc) := blk_cell kT 0
  have HAx := hide (al1 w7 (.cells #[.int .i64 tw0, .int .i64 tw1, .int .i64 tw2, .slice X.a1 tw3 X.c1, .slice X.a2 tw4 X.c2] 51))
  have HKx : Hid ((w7.alloc (.cells #[.int .i64 tw0, .int .i64 tw1, .int .i64 tw2, .slice X.a1 tw3 X.c1, .slice X.a2 tw4 X.c2] 51)).heap[w7.heap.size]? = some (.cells X.cells.toArray 51)) := by
    show _ = _
    rw [unhide HCL]
    exact (unhide HAx).k0
  have HOx := hide (own_belowG (unhide HO7) (unhide HAx).below)
  have HSx : Hid (T + 1 ≤ (w7.alloc (.cells #[.int .i64 tw0, .int .i64 tw1, .int .i64 tw2, .slice X.a1 tw3 X.c1, .slice X.a2 tw4 X.c2] 51)).heap.size) := by
    show _ ≤ _
    rw [(unhide HAx).size]
    omega
  have KT := hide kT
  have hlT : T < w7.heap.size := by omega
  have HS7 := hide hs7
  clear HX HA6 HO6 HU6 HB6 hb6 hb7 k6 k7 kT HCL hs7
  go_wp2_with (at_builtin; refine wpList_appTf _ rfl (.tmp 11) (.tmp 13) rfl (T + 1) w7.heap.size i tc ta (rowV (fun j => (U j).cells) i) X rfl rfl (unhide HOx) (unhide HKx) (by omega) (unhide HSx) ?_)
  intro g cap w9 hown9 hgr hat hgl
  have hs7 := unhide HS7
  generalize w7.alloc (.cells #[.int .i64 tw0, .int .i64 tw1, .int .i64 tw2, .slice X.a1 tw3 X.c1, .slice X.a2 tw4 X.c2] 51) = wa at *
  have hsa := (unhide HAx).size
  have hba := (unhide HAx).below
  have hob : ∀ k, (Value.slice ta i tc).ownBlock = some k → T + 1 ≤ k ∧ k < w7.heap.size := fun k e => (unhide HO7).lt k e
  have hTn : (Value.slice ta i tc).ownBlock ≠ some T := fun q => by have := (hob T q).1; omega
  have hgT : T + 1 ≤ g := by
    rcases hat with q | q
    · exact (hob g q).1
    · omega
  have k9 : w9.heap[T]? = some (.cells #[.slice ta i tc] 47) := by
    rw [hgr.block T (by omega) (fun e => hTn e.symm), hba.block T (by omega)]
    exact unhide KT
  have HB9 : Hid (Below w0.heap.size w0 w9) := ((unhide HB7).trans (hba.mono (by rw [← unhide HZ0]; omega))).grown hgr (by rw [← unhide HZ0]; omega) (fun k e => by rw [← unhide HZ0]; have := (hob k e).1; omega)
  have hs9 := hgr.size
  have HWR : Hid (frE (V i).f (V 0).f = 0 → WrR V w0 T (i + 1) (w9.setCell ⟨T, 0, none⟩ (.slice (some ⟨g, 0, none⟩) (i + 1) cap))) := fun hE => by
    obtain ⟨hx1, hx2, hx3, hx4⟩ := unhide HX7 hE
    have step : ∀ (U0 : TfV) j, frE (V j).f (V 0).f = 0 → U0.T = (V j).f.tf → U0.in w7 → (∀ x, U0.a1 = some x → T < x.block ∧ (Value.slice ta i tc).ownBlock ≠ some x.block) → (∀ x, U0.a2 = some x → T < x.block ∧ (Value.slice ta i tc).ownBlock ≠ some x.block) → TldW V T (w9.setCell ⟨T, 0, none⟩ (.slice (some ⟨g, 0, none⟩) (i + 1) cap)) (.slice (some ⟨g, 0, none⟩) (i + 1) cap) U0 j := fun U0 j h1 h2 h3 h4 h5 => by
      have b1 : ∀ x : Addr, x.block < w7.heap.size → T < x.block → (Value.slice ta i tc).ownBlock ≠ some x.block → (w9.setCell ⟨T, 0, none⟩ (.slice (some ⟨g, 0, none⟩) (i + 1) cap)).heap[x.block]? = w7.heap[x.block]? := fun x hl ht hn => by
        rw [Below.heap_setCell _ _ _ _ (by show x.block ≠ T; omega)]
        exact (hgr.block x.block (by omega) (fun e => hn e.symm)).trans (hba.block x.block hl)
      have nb : ∀ x : Addr, x.block < w7.heap.size → (Value.slice ta i tc).ownBlock ≠ some x.block → (Value.slice (some ⟨g, 0, none⟩) (i + 1) cap).ownBlock ≠ some x.block := fun x hl hn e => by
        have e : some g = some x.block := e
        injection e with e
        rcases hat with q | q
        · exact hn (by rw [q, e])
        · omega
      exact ⟨⟨h1, h2, h3.block (fun x e => b1 x (h3.lt1 x e) (h4 x e).1 (h4 x e).2) (fun x e => b1 x (h3.lt2 x e) (h5 x e).1 (h5 x e).2), fun x e => nb x (h3.lt1 x e) (h4 x e).2, fun x e => nb x (h3.lt2 x e) (h5 x e).2⟩, fun x e => (h4 x e).1, fun x e => (h5 x e).1⟩
    have k10 := set_cells (j := 0) k9 (.slice (some ⟨g, 0, none⟩) (i + 1) cap)
    simp only [List.setIfInBounds_toArray, List.set_cons_zero] at k10
    refine ⟨(unhide HB9).setCell (p := ⟨T, 0, none⟩) (by rw [← unhide HZ0]; exact hT0) _, by rw [← unhide HZ0]; exact hT0, by simp [World.setCell]; omega, some ⟨g, 0, none⟩, cap, (fun j => if j = i then X else U j), k10, ?_, ?_⟩
    · have e : rowV (fun j => ((fun j => if j = i then X else U j) j).cells) (i + 1) = rowV (fun j => (U j).cells) i ++ X.cells := by
        show rowV _ i ++ _ = _
        rw [rowV_congr (G := fun j => (U j).cells) i (fun j hj => by show (if j = i then X else U j).cells = _; rw [if_neg (by omega)])]
        show _ ++ (if i = i then X else U i).cells = _
        rw [if_pos rfl]
      rw [e]
      exact own_setG hown9 (p := ⟨T, 0, none⟩) (Nat.lt_succ_self T) _
    · intro j hj
      show TldW V T _ _ (if j = i then X else U j) j
      by_cases e : j = i
      · rw [if_pos e, e]
        exact step X i hE hx1 hx2 (fun x q => ⟨by have := (hx3 x q).1; omega, fun q2 => by have := (hx3 x q).1; have := unhide HObl _ q2; omega⟩) (fun x q => ⟨by have := (hx4 x q).1; omega, fun q2 => by have := (hx4 x q).1; have := unhide HObl _ q2; omega⟩)
      · rw [if_neg e]
        have h := unhide HU7 j (by omega)
        exact step (U j) j h.1.ok h.1.eq h.1.is (fun x q => ⟨h.2.1 x q, h.1.n1 x q⟩) (fun x q => ⟨h.2.2 x q, h.1.n2 x q⟩)
  clear HOx HKx HSx HAx HU7 HO7 HB7 HX7 hown9 hgr hat hsa hba hob p0 p1 p2 p3 p4 pT KT hs7
  have p9 : w9.cell? ⟨T, 0, none⟩ = some (.slice ta i tc) := blk_cell k9 0
  have f9 := blk_frozen k9 0
  have hl9 : T < w9.heap.size := by omega
  go_wp2
  go_ret
  exact ⟨by rw [← unhide HEV]; rfl, (unhide HB9).setCell (p := ⟨T, 0, none⟩) (by rw [← unhide HZ0]; exact hT0) _, unhide HWR⟩
end Go.Proofs.YtjcoahahponabaaDoor
