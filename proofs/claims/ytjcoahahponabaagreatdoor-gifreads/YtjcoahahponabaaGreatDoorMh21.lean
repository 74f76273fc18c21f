/- Moving pictures: a frame is told, behind those that are: Write's closure. Written by genGpw.py. Moving pictures: the program's Write. Moving pictures: the program's Read: what is thrown is caught. -/
import Derived.Test.YtjcoahahponabaaGreatDoorGp6
import Derived.Test.YtjcoahahponabaaGreatDoorMh12
import Derived.Test.YtjcoahahponabaaGreatDoorMh13
import Derived.Test.YtjcoahahponabaaGreatDoorGr5
import Derived.Defers
import Derived.Recover
import Derived.Laws.Pointers
namespace Go.Proofs.YtjcoahahponabaaGreatDoor
open Go.RowKit

theorem nm_block {w w' : World} {a : Option Addr} {l : List Nat} (h : IsNm w a l) (e : ∀ x, a = some x → w'.heap[x.block]? = w.heap[x.block]?) : IsNm w' a l := by
  obtain ⟨g, rfl, hg, hc⟩ := h
  have e1 : w'.heap[g]? = w.heap[g]? := e _ rfl
  refine ⟨g, rfl, ?_, fun j hj => by rw [World.cell?_of_block (a := ⟨g, j, none⟩) e1]; exact hc j hj⟩
  rcases Nat.lt_or_ge g w'.heap.size with h | h
  · exact h
  · rw [Array.getElem?_eq_none h, Array.getElem?_eq_getElem hg] at e1
    simp at e1
theorem TfV.in.block {V : TfV} {w w' : World} (h : V.in w) (e1 : ∀ x, V.a1 = some x → w'.heap[x.block]? = w.heap[x.block]?) (e2 : ∀ x, V.a2 = some x → w'.heap[x.block]? = w.heap[x.block]?) : V.in w' :=
  ⟨h.ok, isPx_block h.px (fun x e _ => e1 x e), nm_block h.nm e2⟩
theorem set5_at {w : World} {k : Nat} {o0 o1 o2 o3 o4 : Value} {t : TypeId} (h : w.heap[k]? = some (.cells #[o0, o1, o2, o3, o4] t)) (v0 v1 v2 v3 v4 : Value) : (((((w.setCell ⟨k, 0, none⟩ v0).setCell ⟨k, 1, none⟩ v1).setCell ⟨k, 2, none⟩ v2).setCell ⟨k, 3, none⟩ v3).setCell ⟨k, 4, none⟩ v4).heap[k]? = some (.cells #[v0, v1, v2, v3, v4] t) := by
  have := set_cells (j := 4) (set_cells (j := 3) (set_cells (j := 2) (set_cells (j := 1) (set_cells (j := 0) h v0) v1) v2) v3) v4
  simpa using this
theorem frE_right {f g : Fr} (h : frE f g = 0) : RightP f.W f.H f.n := by
  unfold frE at h
  split at h
  · next q => exact q.1
  · omega
theorem frE_same {f g : Fr} (h : frE f g = 0) (h0 : frE g g = 0) : f.n = g.n := by
  have h1 := frE_right h
  have h2 := frE_right h0
  unfold frE at h
  split at h
  · next q =>
    have a1 := h1.2.2
    have a2 := h2.2.2
    rw [q.2.1, q.2.2] at a1
    omega
  · omega
theorem TfV.cells_length (V : TfV) : V.cells.length = 5 := rfl

theorem tf_info : (Tryz.prog.info? 98).map (fun i => (i.zero, i.size, i.bytes)) = some (some (.agg #[.int .i64 0, .int .i64 0, .int .i64 0, .slice none 0 0, .slice none 0 0]), 5, 72) := by kernel_rfl
/-- A told frame behind told frames of one's own. -/
theorem wpList_appTf (w : World) {ops : Array Oper} {rest : List Oper} {o : Oper} {a : Act} {Q : Exit → Act → World → Prop} (hgd : o.guard = none) (sx x : Operand)
    (ho : o.op = .call { callee := .builtin .append, args := #[sx, x], argTypes := #[94, 94] }) (base q n c : Nat) (s : Option Addr) (F : List Value) (V : TfV) (hs : a.eval sx = .slice s n c) (hx : a.eval x = .slice (some ⟨q, 0, none⟩) 1 1)
    (hown : w.ownsRow base 98 5 (.slice s n c) n F) (hq : w.heap[q]? = some (.cells V.cells.toArray 98)) (hn : n ≤ 100000) (hbase : base ≤ w.heap.size)
    (h : ∀ g cap w', w'.ownsRow base 98 5 (.slice (some ⟨g, 0, none⟩) (n + 1) cap) (n + 1) (F ++ V.cells) → w.grownBy w' (Value.slice s n c).ownBlock → ((Value.slice s n c).ownBlock = some g ∨ g = w.heap.size) → g < w'.heap.size → wpList Tryz.prog ops Q rest (a.put o.dst (.slice (some ⟨g, 0, none⟩) (n + 1) cap)) w') : wpList Tryz.prog ops Q (o :: rest) a w := by
  obtain ⟨i0, hi, hz0, hz1, hz2⟩ := info_parts tf_info
  exact wpList_append_lies w hgd sx x 94 ho base 98 i0 _ 5 72 Tryz.underlying94 hi hz0 hz1 hz2 rfl (by omega) _ n F hs hown ⟨q, 0, none⟩ 1 1 V.cells hx rfl (fun j u hj => by
    have hadd : (⟨q, 0, none⟩ : Addr).add j = ⟨q, j, none⟩ := by unfold Addr.add; split <;> simp_all
    rw [hadd, blk_cell hq]
    simpa using hj) (fun u hu => by
    simp only [TfV.cells, List.mem_cons, List.not_mem_nil, or_false] at hu
    rcases hu with rfl | rfl | rfl | rfl | rfl <;> rfl) (by omega) (by unfold maxLen; omega) (by omega) hbase _ rfl h

theorem TfV.in.lt1 {V : TfV} {w : World} (h : V.in w) : ∀ x, V.a1 = some x → x.block < w.heap.size := fun x e => h.px.lt x e (by have := h.ok.K1; omega)
theorem TfV.in.lt2 {V : TfV} {w : World} (h : V.in w) : ∀ x, V.a2 = some x → x.block < w.heap.size := fun x e => by
  obtain ⟨q, e2, hq, _⟩ := h.nm
  rw [e] at e2
  injection e2 with e2
  subst e2
  exact hq
theorem own_setG {w : World} {base n size : Nat} {e : TypeId} {v : Value} {xs : List Value} (h : w.ownsRow base e size v n xs) {p : Addr} (hp : p.block < base) (y : Value) : (w.setCell p y).ownsRow base e size v n xs :=
  own_stay h (fun g hg => by
    have := (h.lt g hg).1
    exact Below.heap_setCell _ _ _ _ (by omega))
/-- The told frames so far. -/
structure TldA (V : Nat → FrV) (w : World) (tv : Value) (U : TfV) (j : Nat) : Prop where
  ok : frE (V j).f (V 0).f = 0
  eq : U.T = (V j).f.tf
  is : U.in w
  n1 : ∀ x, U.a1 = some x → tv.ownBlock ≠ some x.block
  n2 : ∀ x, U.a2 = some x → tv.ownBlock ≠ some x.block

/-- And they lie behind a variable. -/
def TldW (V : Nat → FrV) (T : Nat) (w : World) (tv : Value) (U : TfV) (j : Nat) : Prop :=
  TldA V w tv U j ∧ (∀ x, U.a1 = some x → T < x.block) ∧ (∀ x, U.a2 = some x → T < x.block)
theorem TldW.below {V : Nat → FrV} {T : Nat} {w w' : World} {tv : Value} {U : TfV} {j : Nat} (h : TldW V T w tv U j) (hb : Below w.heap.size w w') : TldW V T w' tv U j :=
  ⟨⟨h.1.ok, h.1.eq, h.1.is.below hb, h.1.n1, h.1.n2⟩, h.2⟩
/-- What Write has told so far, in a variable of its own. -/
def WrR (V : Nat → FrV) (w0 : World) (T i : Nat) (wr : World) : Prop :=
  Below w0.heap.size w0 wr ∧ w0.heap.size ≤ T ∧ T < wr.heap.size ∧ ∃ (ta : Option Addr) (tc : Nat) (U : Nat → TfV), wr.heap[T]? = some (.cells #[.slice ta i tc] 94) ∧ wr.ownsRow (T + 1) 98 5 (.slice ta i tc) i (rowV (fun j => (U j).cells) i) ∧ ∀ j, j < i → TldW V T wr (.slice ta i tc) (U j) j
theorem WrR.below {V : Nat → FrV} {w0 : World} {T i : Nat} {w w' : World} (h : WrR V w0 T i w) (hb : Below w.heap.size w w') : WrR V w0 T i w' := by
  obtain ⟨h1, h2, h3, ta, tc, U, h4, h5, h6⟩ := h
  exact ⟨h1.trans (hb.mono h1.size), h2, Nat.lt_of_lt_of_le h3 hb.size, ta, tc, U, blk_below h4 hb h3, own_belowG h5 hb, fun j hj => (h6 j hj).below hb⟩

theorem geV_good {aS : Nat → Addr} {k : Nat} (h : k = 0) : Value.nilIface = geV aS k := by unfold geV; rw [if_pos h]
theorem geV_bad {aS : Nat → Addr} {k : Nat} (h : k ≠ 0) : sentV aS (k - 1) = geV aS k := by unfold geV; rw [if_neg h]

set_option maxHeartbeats 8000000 in
set_option maxRecDepth 100000 in
theorem wtell_any (V : Nat → FrV) (w0 : World) (T i : Nat) (wr : World) (aS : Nat → Addr) (hS : Told w0 [1, 2, 6] aS) (hV : (V i).in w0) (hi : i ≤ 100) (hR : WrR V w0 T i wr) (hc : chE (V i).f (V 0).f = 0) :
    Calls Tryz.prog 58 #[.agg #[.int .i64 (V i).f.W, .int .i64 (V i).f.H, .slice (V i).a (V i).f.n (V i).c, .int .i64 (V i).f.d], .pointer (some ⟨T, 0, none⟩)] wr fun e w' => e = .returned (geV aS (frE (V i).f (V 0).f)) ∧ Below w0.heap.size w0 w' ∧ (frE (V i).f (V 0).f = 0 → WrR V w0 T (i + 1) w') := by
  obtain ⟨hb0, hT0, hTl, ta, tc, U, hk, hown, hU⟩ := hR
  obtain ⟨hOK, hd⟩ := chE_zero hc
  have HA := hide (al1 wr (.cells #[.int .i64 (V i).f.W, .int .i64 (V i).f.H, .slice (V i).a (V i).f.n (V i).c, .int .i64 (V i).f.d] 92))
  have HFO := hide (fun wx (hb : Below wr.heap.size wr wx) => frameOf_any (V i).f (V 0).f (V i).a (V i).c wx aS (hS.below (hb0.trans (hb.mono hb0.size))) (hV.below (hb0.trans (hb.mono hb0.size))) hOK hd)
  have hsz0 := hb0.size
  obtain ⟨z0, hz0⟩ : ∃ z, z = w0.heap.size := ⟨_, rfl⟩
  rw [← hz0] at hsz0 hT0
  have HZ0 := hide hz0
  have HB0 := hide hb0
  have HK := hide hk
  have HObl : Hid (∀ k, (Value.slice ta i tc).ownBlock = some k → k < wr.heap.size) := fun k e => (hown.lt k e).2
  have HO := hide hown
  have HU := hide hU
  clear hS hV hOK hd hb0 hk hown hU hc hz0
  go_enter Tryz.func58, Tryz.ntmps58
  go_wp2_with fail
  generalize wr.alloc (.cells #[.int .i64 (V i).f.W, .int .i64 (V i).f.H, .slice (V i).a (V i).f.n (V i).c, .int .i64 (V i).f.d] 92) = w5 at *
  obtain ⟨hs5, k5, hb5⟩ := unhide HA
  refine (unhide HFO w5 hb5).mono ?_
  rintro e w6 ⟨hr, hb6⟩
  have hX : ∃ (X : TfV) (ev : Value), e = .returned (.tuple #[.agg #[.int .i64 (X.T.W : Int), .int .i64 (X.T.H : Int), .int .i64 (X.T.d : Int), .slice X.a1 X.T.U.length X.c1, .slice X.a2 X.T.N.length X.c2], ev]) ∧ ev = geV aS (frE (V i).f (V 0).f) ∧ (frE (V i).f (V 0).f = 0 → X.T = (V i).f.tf ∧ X.in w6 ∧ (∀ x, X.a1 = some x → w5.heap.size ≤ x.block) ∧ (∀ x, X.a2 = some x → w5.heap.size ≤ x.block)) := by
    rcases hr with ⟨h, a1, c1, a2, c2, rfl, hin, hn1, hn2⟩ | ⟨h, rfl⟩
    · exact ⟨⟨(V i).f.tf, a1, c1, a2, c2⟩, .nilIface, rfl, geV_good h, fun _ => ⟨rfl, hin, hn1, hn2⟩⟩
    · exact ⟨⟨⟨0, 0, 0, [], []⟩, none, 0, none, 0⟩, _, rfl, geV_bad h, fun q => absurd q h⟩
  obtain ⟨X, ev, rfl, hev, hX⟩ := hX
  have HEV := hide hev
  have HX := hide hX
  have hs6 := hb6.size
  have hs5b := hb5.size
  have k6 := blk_below (blk_below (unhide HK) hb5 hTl) hb6 (by omega)
  have HB6 := hide ((unhide HB0).trans ((hb5.trans (hb6.mono hs5b)).mono (by rw [← unhide HZ0]; omega)))
  have HO6 := hide (own_belowG (own_belowG (unhide HO) hb5) hb6)
  have HU6 : Hid (∀ j, j < i → TldW V T w6 (.slice ta i tc) (U j) j) := fun j hj => ((unhide HU j hj).below hb5).below hb6
  clear HA HFO HK HO HU HB0 hr hev hX hb5 k5
  have HA6 := hide (al1 w6 (.cells #[.int .i64 (X.T.W : Int), .int .i64 (X.T.H : Int), .int .i64 (X.T.d : Int), .slice X.a1 X.T.U.length X.c1, .slice X.a2 X.T.N.length X.c2] 98))
  have HCL : Hid (X.cells = [.int .i64 (X.T.W : Int), .int .i64 (X.T.H : Int), .int .i64 (X.T.d : Int), .slice X.a1 X.T.U.length X.c1, .slice X.a2 X.T.N.length X.c2]) := rfl
  generalize (X.T.W : Int) = tw0 at *
  generalize (X.T.H : Int) = tw1 at *
  generalize (X.T.d : Int) = tw2 at *
  generalize X.T.U.length = tw3 at *
  generalize X.T.N.length = tw4 at *
  go_upto_region 2 with fail
  generalize w6.alloc (.cells #[.int .i64 tw0, .int .i64 tw1, .int .i64 tw2, .slice X.a1 tw3 X.c1, .slice X.a2 tw4 X.c2] 98) = w7 at *
  obtain ⟨hs7, k7, hb7⟩ := unhide HA6
  have HB7 := hide ((unhide HB6).trans (hb7.mono (by rw [← unhide HZ0]; omega)))
  have HO7 := hide (own_belowG (unhide HO6) hb7)
  have HU7 : Hid (∀ j, j < i → TldW V T w7 (.slice ta i tc) (U j) j) := fun j hj => (unhide HU6 j hj).below hb7
  have kT := blk_below k6 hb7 (by omega)
  have HX7 : Hid (frE (V i).f (V 0).f = 0 → X.T = (V i).f.tf ∧ X.in w7 ∧ (∀ x, X.a1 = some x → wr.heap.size ≤ x.block ∧ x.block < w7.heap.size) ∧ (∀ x, X.a2 = some x → wr.heap.size ≤ x.block ∧ x.block < w7.heap.size)) := fun q => by
    obtain ⟨h1, h2, h3, h4⟩ := unhide HX q
    have h2' := h2.below hb7
    exact ⟨h1, h2', fun x e => ⟨by have := h3 x e; omega, h2'.lt1 x e⟩, fun x e => ⟨by have := h4 x e; omega, h2'.lt2 x e⟩⟩
  have p0 : w7.cell? ⟨w6.heap.size, 0, none⟩ = some (.int .i64 tw0) := blk_cell k7 0
  have p1 : w7.cell? ⟨w6.heap.size, 1, none⟩ = some (.int .i64 tw1) := blk_cell k7 1
  have p2 : w7.cell? ⟨w6.heap.size, 2, none⟩ = some (.int .i64 tw2) := blk_cell k7 2
  have p3 : w7.cell? ⟨w6.heap.size, 3, none⟩ = some (.slice X.a1 tw3 X.c1) := blk_cell k7 3
  have p4 : w7.cell? ⟨w6.heap.size, 4, none⟩ = some (.slice X.a2 tw4 X.c2) := blk_cell k7 4
  have pT : w7.cell? ⟨T, 0, none⟩ = some (.slice ta i tc) := blk_cell kT 0
  have HAx := hide (al1 w7 (.cells #[.int .i64 tw0, .int .i64 tw1, .int .i64 tw2, .slice X.a1 tw3 X.c1, .slice X.a2 tw4 X.c2] 98))
  have HKx : Hid ((w7.alloc (.cells #[.int .i64 tw0, .int .i64 tw1, .int .i64 tw2, .slice X.a1 tw3 X.c1, .slice X.a2 tw4 X.c2] 98)).heap[w7.heap.size]? = some (.cells X.cells.toArray 98)) := by
    show _ = _
    rw [unhide HCL]
    exact (unhide HAx).k0
  have HOx := hide (own_belowG (unhide HO7) (unhide HAx).below)
  have HSx : Hid (T + 1 ≤ (w7.alloc (.cells #[.int .i64 tw0, .int .i64 tw1, .int .i64 tw2, .slice X.a1 tw3 X.c1, .slice X.a2 tw4 X.c2] 98)).heap.size) := by
    show _ ≤ _
    rw [(unhide HAx).size]
    omega
  have KT := hide kT
  have hlT : T < w7.heap.size := by omega
  have HS7 := hide hs7
  clear HX HA6 HO6 HU6 HB6 hb6 hb7 k6 k7 kT HCL hs7
  go_wp2_with (at_builtin; refine wpList_appTf _ rfl (.tmp 11) (.tmp 13) rfl (T + 1) w7.heap.size i tc ta (rowV (fun j => (U j).cells) i) X rfl rfl (unhide HOx) (unhide HKx) (by omega) (unhide HSx) ?_)
  intro g cap w9 hown9 hgr hat hgl
  have hs7 := unhide HS7
  generalize w7.alloc (.cells #[.int .i64 tw0, .int .i64 tw1, .int .i64 tw2, .slice X.a1 tw3 X.c1, .slice X.a2 tw4 X.c2] 98) = wa at *
  have hsa := (unhide HAx).size
  have hba := (unhide HAx).below
  have hob : ∀ k, (Value.slice ta i tc).ownBlock = some k → T + 1 ≤ k ∧ k < w7.heap.size := fun k e => (unhide HO7).lt k e
  have hTn : (Value.slice ta i tc).ownBlock ≠ some T := fun q => by have := (hob T q).1; omega
  have hgT : T + 1 ≤ g := by
    rcases hat with q | q
    · exact (hob g q).1
    · omega
  have k9 : w9.heap[T]? = some (.cells #[.slice ta i tc] 94) := by
    rw [hgr.block T (by omega) (fun e => hTn e.symm), hba.block T (by omega)]
    exact unhide KT
  have HB9 : Hid (Below w0.heap.size w0 w9) := ((unhide HB7).trans (hba.mono (by rw [← unhide HZ0]; omega))).grown hgr (by rw [← unhide HZ0]; omega) (fun k e => by rw [← unhide HZ0]; have := (hob k e).1; omega)
  have hs9 := hgr.size
  have HWR : Hid (frE (V i).f (V 0).f = 0 → WrR V w0 T (i + 1) (w9.setCell ⟨T, 0, none⟩ (.slice (some ⟨g, 0, none⟩) (i + 1) cap))) := fun hE => by
    obtain ⟨hx1, hx2, hx3, hx4⟩ := unhide HX7 hE
    have step : ∀ (U0 : TfV) j, frE (V j).f (V 0).f = 0 → U0.T = (V j).f.tf → U0.in w7 → (∀ x, U0.a1 = some x → T < x.block ∧ (Value.slice ta i tc).ownBlock ≠ some x.block) → (∀ x, U0.a2 = some x → T < x.block ∧ (Value.slice ta i tc).ownBlock ≠ some x.block) → TldW V T (w9.setCell ⟨T, 0, none⟩ (.slice (some ⟨g, 0, none⟩) (i + 1) cap)) (.slice (some ⟨g, 0, none⟩) (i + 1) cap) U0 j := fun U0 j h1 h2 h3 h4 h5 => by
      have b1 : ∀ x : Addr, x.block < w7.heap.size → T < x.block → (Value.slice ta i tc).ownBlock ≠ some x.block → (w9.setCell ⟨T, 0, none⟩ (.slice (some ⟨g, 0, none⟩) (i + 1) cap)).heap[x.block]? = w7.heap[x.block]? := fun x hl ht hn => by
        rw [Below.heap_setCell _ _ _ _ (by show x.block ≠ T; omega)]
        exact (hgr.block x.block (by omega) (fun e => hn e.symm)).trans (hba.block x.block hl)
      have nb : ∀ x : Addr, x.block < w7.heap.size → (Value.slice ta i tc).ownBlock ≠ some x.block → (Value.slice (some ⟨g, 0, none⟩) (i + 1) cap).ownBlock ≠ some x.block := fun x hl hn e => by
        have e : some g = some x.block := e
        injection e with e
        rcases hat with q | q
        · exact hn (by rw [q, e])
        · omega
      exact ⟨⟨h1, h2, h3.block (fun x e => b1 x (h3.lt1 x e) (h4 x e).1 (h4 x e).2) (fun x e => b1 x (h3.lt2 x e) (h5 x e).1 (h5 x e).2), fun x e => nb x (h3.lt1 x e) (h4 x e).2, fun x e => nb x (h3.lt2 x e) (h5 x e).2⟩, fun x e => (h4 x e).1, fun x e => (h5 x e).1⟩
    have k10 := set_cells (j := 0) k9 (.slice (some ⟨g, 0, none⟩) (i + 1) cap)
    simp only [List.setIfInBounds_toArray, List.set_cons_zero] at k10
    refine ⟨(unhide HB9).setCell (p := ⟨T, 0, none⟩) (by rw [← unhide HZ0]; exact hT0) _, by rw [← unhide HZ0]; exact hT0, by simp [World.setCell]; omega, some ⟨g, 0, none⟩, cap, (fun j => if j = i then X else U j), k10, ?_, ?_⟩
    · have e : rowV (fun j => ((fun j => if j = i then X else U j) j).cells) (i + 1) = rowV (fun j => (U j).cells) i ++ X.cells := by
        show rowV _ i ++ _ = _
        rw [rowV_congr (G := fun j => (U j).cells) i (fun j hj => by show (if j = i then X else U j).cells = _; rw [if_neg (by omega)])]
        show _ ++ (if i = i then X else U i).cells = _
        rw [if_pos rfl]
      rw [e]
      exact own_setG hown9 (p := ⟨T, 0, none⟩) (Nat.lt_succ_self T) _
    · intro j hj
      show TldW V T _ _ (if j = i then X else U j) j
      by_cases e : j = i
      · rw [if_pos e, e]
        exact step X i hE hx1 hx2 (fun x q => ⟨by have := (hx3 x q).1; omega, fun q2 => by have := (hx3 x q).1; have := unhide HObl _ q2; omega⟩) (fun x q => ⟨by have := (hx4 x q).1; omega, fun q2 => by have := (hx4 x q).1; have := unhide HObl _ q2; omega⟩)
      · rw [if_neg e]
        have h := unhide HU7 j (by omega)
        exact step (U j) j h.1.ok h.1.eq h.1.is (fun x q => ⟨h.2.1 x q, h.1.n1 x q⟩) (fun x q => ⟨h.2.2 x q, h.1.n2 x q⟩)
  clear HOx HKx HSx HAx HU7 HO7 HB7 HX7 hown9 hgr hat hsa hba hob p0 p1 p2 p3 p4 pT KT hs7
  have p9 : w9.cell? ⟨T, 0, none⟩ = some (.slice ta i tc) := blk_cell k9 0
  have f9 := blk_frozen k9 0
  have hl9 : T < w9.heap.size := by omega
  go_wp2
  go_ret
  exact ⟨by rw [← unhide HEV]; rfl, (unhide HB9).setCell (p := ⟨T, 0, none⟩) (by rw [← unhide HZ0]; exact hT0) _, unhide HWR⟩
end Go.Proofs.YtjcoahahponabaaGreatDoor
namespace Go.Proofs.YtjcoahahponabaaGreatDoor
open Go.RowKit

/-- How the frames are told. -/
def tfsF (V : Nat → FrV) (n : Nat) : List Tf := (List.range n).map fun i => (V i).f.tf
/-- What Write answers. -/
def WrA (V : Nat → FrV) (n : Nat) (loops : Int) (aS : Nat → Addr) (w w' : World) (e : Ending) : Prop :=
  (¬ (fewP n (V 0).f ∧ 0 ≤ loops ∧ loops ≤ 65535) ∧ e = .returned (.tuple #[.string ⟨#[]⟩, sentV aS 1])) ∨
  ((fewP n (V 0).f ∧ 0 ≤ loops ∧ loops ≤ 65535) ∧ ∃ i, i < n ∧ (∀ j, j < i → frE (V j).f (V 0).f = 0) ∧ frE (V i).f (V 0).f ≠ 0 ∧ ∃ p, e = .returned (.tuple #[.string ⟨#[]⟩, .iface 131 (.pointer (some ⟨p, 0, none⟩))]) ∧ w.heap.size ≤ p ∧ w'.cell? ⟨p, 0, none⟩ = some (.int .i64 (i : Int)) ∧ w'.cell? ⟨p, 1, none⟩ = some (sentV aS (frE (V i).f (V 0).f - 1))) ∨
  ((fewP n (V 0).f ∧ 0 ≤ loops ∧ loops ≤ 65535) ∧ (∀ j, j < n → frE (V j).f (V 0).f = 0) ∧ e = .returned (.tuple #[.string ⟨(gifL (V 0).f.W.toNat (V 0).f.H.toNat (tfsF V n) loops.toNat).toArray⟩, .nilIface]))

/-- What is wrong with a frame: ahead of its colors, or with them. -/
theorem eaE_fr (V : Nat → FrV) (j : Nat) : eaE V (fun i => frE (V i).f (V 0).f) j = frE (V j).f (V 0).f := by
  by_cases h1 : RightP (V j).f.W (V j).f.H (V j).f.n ∧ (V j).f.W = (V 0).f.W ∧ (V j).f.H = (V 0).f.H
  · by_cases h2 : 0 ≤ (V j).f.d ∧ (V j).f.d ≤ 65535
    · rw [eaE_do (chE_ok h1 h2)]
    · rw [eaE_ch (by rw [chE_bound h1 h2]; omega), chE_bound h1 h2]
      unfold frE
      rw [if_pos h1, if_neg h2]
  · rw [eaE_ch (by rw [chE_shape h1]; omega), chE_shape h1]
    unfold frE
    rw [if_neg h1]
/-- What is asked of each, of Write's closure. -/
theorem weach_any (s : Option Addr) (n c : Nat) (loops : Int) (V : Nat → FrV) (w wE : World) (aS : Nat → Addr) (T : Nat) (hS : Told w [1, 2, 6] aS) (hR : IsRw w 4 s n (fun i => (V i).cells)) (hV : ∀ i, i < n → (V i).in w) (h0 : WrR V w T 0 wE) :
    Calls Tryz.prog 57 #[.slice s n c, .int .i64 loops, .func (.func 58) #[] #[.pointer (some ⟨T, 0, none⟩)]] wE fun e w' => EaA V n loops aS (fun i => frE (V i).f (V 0).f) (fun i => WrR V w T i) w w' e ∧ Below w.heap.size w w' :=
  each_any s n c loops V w wE aS 58 #[.pointer (some ⟨T, 0, none⟩)] (fun i => WrR V w T i) (fun i => frE (V i).f (V 0).f) (hS.sub (by simp)) hR h0
    (fun i w1 w2 h hb => h.below hb) (fun i w1 h => h.1) (enters_of Tryz.func58 (by kernel_rfl) rfl)
    (fun i hi hn wr h hc => wtell_any V w T i wr aS hS (hV i hi) (by omega) h hc)

set_option maxHeartbeats 16000000 in
set_option maxRecDepth 100000 in
theorem gwrite_any (s : Option Addr) (n c : Nat) (loops : Int) (V : Nat → FrV) (w : World) (aS : Nat → Addr) (hS : Told w [1, 2, 6] aS) (hR : IsRw w 4 s n (fun i => (V i).cells)) (hV : ∀ i, i < n → (V i).in w) :
    Calls Tryz.prog 25 #[.slice s n c, .int .i64 loops] w fun e w' => WrA V n loops aS w w' e ∧ Below w.heap.size w w' := by
  have HA := hide (al1 w (.cells #[.slice none 0 0] 94))
  have HEa := hide (fun wE h0 => weach_any s n c loops V w wE aS w.heap.size hS hR hV h0)
  clear hS hR hV
  go_enter Tryz.func25, Tryz.ntmps25
  go_wp2_with fail
  generalize w.alloc (.cells #[.slice none 0 0] 94) = w1 at *
  obtain ⟨hs1, k1, hb1⟩ := unhide HA
  have HE1 := hide (unhide HEa w1 ⟨hb1, Nat.le_refl _, by omega, none, 0, (fun _ => default : Nat → TfV), k1, World.ownsRow_nil _ _ _ _, fun j hj => absurd hj (Nat.not_lt_zero j)⟩)
  clear HEa HA hs1 k1 hb1
  refine (unhide HE1).mono ?_
  rintro e w2 ⟨hr, hb2⟩
  have HB2 := hide hb2
  clear HE1 hb2
  rcases hr with ⟨hN, rfl⟩ | ⟨hP, i, hi, hj, hE, p, rfl, hp, hc0, hc1⟩ | ⟨hP, hall, rfl, hW⟩
  · have HRes : Hid (WrA V n loops aS w w2 (.returned (.tuple #[.string ⟨#[]⟩, sentV aS 1]))) := .inl ⟨hN, rfl⟩
    obtain ⟨t1, v1, e1⟩ : ∃ t v, sentV aS 1 = .iface t v := ⟨_, _, rfl⟩
    rw [e1] at HRes ⊢
    clear hN e1
    go_wp2
    go_ret2
    exact ⟨unhide HRes, unhide HB2⟩
  · have HRes : Hid (WrA V n loops aS w w2 (.returned (.tuple #[.string ⟨#[]⟩, .iface 131 (.pointer (some ⟨p, 0, none⟩))]))) :=
      .inr (.inl ⟨hP, i, hi, fun j h => by rw [← eaE_fr]; exact hj j h, by rw [← eaE_fr]; exact hE, p, rfl, hp, hc0, by rw [← eaE_fr]; exact hc1⟩)
    clear hP hi hj hE hp hc0 hc1
    go_wp2
    go_ret2
    exact ⟨unhide HRes, unhide HB2⟩
  · obtain ⟨_, hT0, hTl, ta, tc, U, hk, hown, hU⟩ := hW
    obtain ⟨lp, rfl⟩ := Int.eq_ofNat_of_zero_le hP.2.1
    have hn1 : 1 ≤ n ∧ n ≤ 16 := hP.1.1
    have hok : ∀ j, j < n → frE (V j).f (V 0).f = 0 := fun j h => by rw [← eaE_fr]; exact hall j h
    have e0 := hok 0 (by omega)
    have hlen : ∀ j, j < n → (U j).T.N.length = (V 0).f.n := fun j hj => by
      rw [(hU j hj).1.eq]
      show (nmL _ _).length = _
      rw [nmL_length]
      exact frE_same (hok j hj) e0
    have hfew : (V 0).f.n * n ≤ 60000 := by
      rcases hP.1.2 with q | q
      · exact absurd (frE_right e0) q
      · exact q
    have hRw : IsRw w2 5 ta n (fun j => (U j).cells) := own_rw hown (fun j => rfl) (by unfold maxLen; omega)
    have HWt := hide (written_any ta n tc (V 0).f.n lp U w2 hRw (fun j hj => (hU j hj).1.is) hlen hn1.1 hn1.2 hfew (by omega))
    have HRes : Hid (∀ w', WrA V n (lp : Int) aS w w' (.returned (.tuple #[.string ⟨(gifL (U 0).T.W (U 0).T.H (tfsL U n) lp).toArray⟩, .nilIface]))) := fun w' => by
      refine .inr (.inr ⟨hP, hok, ?_⟩)
      have e1 : tfsL U n = tfsF V n := List.map_congr_left (fun j hj => (hU j (List.mem_range.1 hj)).1.eq)
      rw [e1, (hU 0 (by omega)).1.eq]
      rfl
    have p0 : w2.cell? ⟨w.heap.size, 0, none⟩ = some (.slice ta n tc) := blk_cell hk 0
    have hz : w.heap.size ≤ w2.heap.size := (unhide HB2).size
    clear hP hall hT0 hTl hk hown hU hok e0 hlen hfew hRw
    go_wp2_with fail
    refine (unhide HWt).mono ?_
    rintro e w7 ⟨rfl, hb7⟩
    have HB7 := hide ((unhide HB2).trans (hb7.mono hz))
    clear HWt hb7 p0 hz
    go_wp2
    go_ret2
    exact ⟨unhide HRes _, unhide HB7⟩
end Go.Proofs.YtjcoahahponabaaGreatDoor
namespace Go.Proofs.YtjcoahahponabaaGreatDoor
open Go.RowKit Lz

theorem newReaderG_any (s : ByteArray) (w : World) (hs : s.size ≤ 300000) :
    Calls Tryz.prog 72 #[.string s] w fun e w' => ∃ R, e = .returned (.pointer (some ⟨R, 0, none⟩)) ∧ w.heap.size ≤ R ∧ GR w' R s ∧ Below w.heap.size w w' := by
  have d1 : decide ((s.size : Int) > 300000) = false := decide_eq_false (by omega)
  have d1' : decide ((300000 : Int) < (s.size : Int)) = false := d1
  have d1n : decide (300000 < s.size) = false := decide_eq_false (by omega)
  have HA := hide (al1 w (.cells #[.string s] 158))
  go_enter Tryz.func72, Tryz.ntmps72
  go_wp2
  go_ret
  exact ⟨w.heap.size, rfl, Nat.le_refl _, (unhide HA).k0, (unhide HA).below⟩

theorem errorOf_any (t : TypeId) (x : Value) (w : World) :
    Calls Tryz.prog 71 #[.iface 155 (.agg #[.iface t x])] w fun e w' => e = .returned (.iface t x) ∧ Below w.heap.size w w' := by
  have hta : ∀ (v : Value) (w : World), (Instr.typeAssert (.iface 155 v) 20 155 true).run Tryz.prog w = .ok (.tuple #[v, .bool true]) w := fun _ _ => by kernel_rfl
  go_enter Tryz.func71, Tryz.ntmps71
  go_wp2
  go_ret
  exact ⟨rfl, (Below.refl _ _).alloc (Nat.le_refl _) _⟩

theorem catchG_idle (a b c : Addr) (w : World) :
    CallsD Tryz.prog 70 #[.pointer (some a), .pointer (some b), .pointer (some c)] .returning w fun e u' w' => e = .returned (.tuple #[]) ∧ u' = .returning ∧ w' = w := by
  refine callsD_of_wpS Tryz.func70 rfl fun c₀ cs hu => ?_
  apply wpS_seq
  apply wpS_region
  simp [wpOpsS, go_sem, recoverD, hu, Tryz.ntmps70, Exit.thenS]
  refine wpS_of_wp ?_
  go_wp2
  cases c₀
  simp_all [bodyPostS, results, Tryz.results70]

set_option maxHeartbeats 2000000 in
set_option maxRecDepth 100000 in
theorem catchG_thrown (A B C : Nat) (t : TypeId) (x va vb vc : Value) (w : World) (hAB : A < B) (hBC : B < C) (ha : w.cell? ⟨A, 0, none⟩ = some va) (hb : w.cell? ⟨B, 0, none⟩ = some vb) (hc : w.cell? ⟨C, 0, none⟩ = some vc) (fa : w.frozen? ⟨A, 0, none⟩ = false) (fb : w.frozen? ⟨B, 0, none⟩ = false) (fc : w.frozen? ⟨C, 0, none⟩ = false) :
    CallsD Tryz.prog 70 #[.pointer (some ⟨A, 0, none⟩), .pointer (some ⟨B, 0, none⟩), .pointer (some ⟨C, 0, none⟩)] (.panicking (gthr t x)) w fun e u' w' => e = .returned (.tuple #[]) ∧ u' = .panicking [{ v := .iface 155 (.agg #[.iface t x]), recovered := true }] ∧ w'.cell? ⟨A, 0, none⟩ = some (.slice none 0 0) ∧ w'.cell? ⟨B, 0, none⟩ = some (.int .i64 0) ∧ w'.cell? ⟨C, 0, none⟩ = some (.iface t x) ∧ Below A w w' := by
  have nAB : ¬ A = B := by omega
  have nBC : ¬ B = C := by omega
  have nAC : ¬ A = C := by omega
  have nBA : ¬ B = A := by omega
  have nCB : ¬ C = B := by omega
  have nCA : ¬ C = A := by omega
  unfold gthr
  have hAl := World.block_lt_of_cell? _ _ ha
  have hBl := World.block_lt_of_cell? _ _ hb
  have hCl := World.block_lt_of_cell? _ _ hc
  simp only at hAl hBl hCl
  refine callsD_of_wpS Tryz.func70 rfl fun c₀ cs hu => ?_
  apply wpS_seq
  apply wpS_region
  simp [wpOpsS, go_sem, recoverD, hu, Tryz.ntmps70, Exit.thenS]
  rw [show (Array.replicate 6 (undef : Value)) = #[undef, undef, undef, undef, undef, undef] from rfl]
  simp only [List.setIfInBounds_toArray, List.set_cons_zero, List.set_cons_succ, List.append_toArray, List.cons_append, List.nil_append]
  refine wpS_of_wp ?_
  go_wp2_with fail
  refine (errorOf_any t x w).mono ?_
  rintro e w0 ⟨rfl, bz⟩
  have ha0 := (bz.cell (p := ⟨A, 0, none⟩) hAl).trans ha
  have hb0 := (bz.cell (p := ⟨B, 0, none⟩) hBl).trans hb
  have hc0 := (bz.cell (p := ⟨C, 0, none⟩) hCl).trans hc
  have fa0 := (bz.frozen (p := ⟨A, 0, none⟩) hAl).trans fa
  have fb0 := (bz.frozen (p := ⟨B, 0, none⟩) hBl).trans fb
  have fc0 := (bz.frozen (p := ⟨C, 0, none⟩) hCl).trans fc
  have HF : Hid (∀ w2, w2 = ((w0.setCell ⟨A, 0, none⟩ (.slice none 0 0)).setCell ⟨B, 0, none⟩ (.int .i64 0)).setCell ⟨C, 0, none⟩ (.iface t x) → w2.cell? ⟨A, 0, none⟩ = some (.slice none 0 0) ∧ w2.cell? ⟨B, 0, none⟩ = some (.int .i64 0) ∧ w2.cell? ⟨C, 0, none⟩ = some (.iface t x) ∧ Below A w w2) := fun w2 e => by
    subst e
    have q : ∀ (X Y : Nat), X ≠ Y → (⟨X, 0, none⟩ : Addr) ≠ ⟨Y, 0, none⟩ := fun X Y h e => h (by injection e)
    refine ⟨?_, ?_, ?_, ?_⟩
    · rw [World.cell?_setCell_other _ _ _ _ (q C A (by omega)), World.cell?_setCell_other _ _ _ _ (q B A (by omega))]
      exact World.cell?_setCell_same _ _ _ ha0
    · rw [World.cell?_setCell_other _ _ _ _ (q C B (by omega))]
      exact World.cell?_setCell_same _ _ _ ((World.cell?_setCell_other _ _ _ _ (q A B (by omega))).trans hb0)
    · exact World.cell?_setCell_same _ _ _ ((World.cell?_setCell_other _ _ _ _ (q B C (by omega))).trans ((World.cell?_setCell_other _ _ _ _ (q A C (by omega))).trans hc0))
    · exact (((bz.mono (show A ≤ w.heap.size by omega)).setCell (p := ⟨A, 0, none⟩) (Nat.le_refl _) _).setCell (p := ⟨B, 0, none⟩) (Nat.le_of_lt hAB) _).setCell (p := ⟨C, 0, none⟩) (by show A ≤ C; omega) _
  clear ha hb hc fa fb fc bz
  go_wp2
  obtain ⟨h1, h2, h3, h4⟩ := unhide HF _ rfl
  cases c₀
  simp_all [bodyPostS, results, Tryz.results70]
end Go.Proofs.YtjcoahahponabaaGreatDoor
