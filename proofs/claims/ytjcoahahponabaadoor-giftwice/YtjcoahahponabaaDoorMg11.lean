/- Which pictures are right: the program's. Results that lie in cells. Pictures: the program's small tests, and a pixel at a place. Rows of pixels that are written in place; pictures that lie in blocks of their own. -/
import Derived.Test.YtjcoahahponabaaDoorPx1
import Derived.Test.YtjcoahahponabaaDoorMg1
import Derived.Test.YtjcoahahponabaaDoorMg5
import Derived.Test.YtjcoahahponabaaDoorMg4
namespace Go.Proofs.YtjcoahahponabaaDoor
open Go.RowKit

theorem isSide_any (z : Int) (w : World) :
    Calls Tryd.prog 50 #[.int .i64 z] w fun e w' => e = .returned (.bool (decide (1 ≤ z ∧ z ≤ 256))) ∧ w' = w := by
  by_cases h1 : 1 ≤ z
  · have d1 : decide (z ≥ 1) = true := decide_eq_true h1
    have d1' : decide (1 ≤ z) = true := d1
    by_cases h2 : z ≤ 256
    · have d2 : decide (z ≤ 256) = true := decide_eq_true h2
      rw [decide_eq_true (⟨h1, h2⟩ : 1 ≤ z ∧ z ≤ 256)]
      clear h1 h2
      go_enter Tryd.func50, Tryd.ntmps50
      go_wp2
      go_ret
      exact ⟨rfl, rfl⟩
    · have d2 : decide (z ≤ 256) = false := decide_eq_false h2
      rw [decide_eq_false (fun q : 1 ≤ z ∧ z ≤ 256 => h2 q.2)]
      clear h1 h2
      go_enter Tryd.func50, Tryd.ntmps50
      go_wp2
      go_ret
      exact ⟨rfl, rfl⟩
  · have d1 : decide (z ≥ 1) = false := decide_eq_false h1
    have d1' : decide (1 ≤ z) = false := d1
    rw [decide_eq_false (fun q : 1 ≤ z ∧ z ≤ 256 => h1 q.1)]
    clear h1
    go_enter Tryd.func50, Tryd.ntmps50
    go_wp2
    go_ret
    exact ⟨rfl, rfl⟩

theorem isRight_any (W H : Int) (a : Option Addr) (n c : Nat) (w : World) :
    Calls Tryd.prog 39 #[.agg #[.int .i64 W, .int .i64 H, .slice a n c]] w fun e w' => e = .returned (.bool (decide (RightP W H n))) ∧ Below w.heap.size w w' := by
  have hb : Below w.heap.size w (w.alloc (.cells #[.int .i64 W, .int .i64 H, .slice a n c] 35)) := (Below.refl _ _).alloc (Nat.le_refl _) _
  have HS := hide isSide_any
  by_cases h1 : 1 ≤ W ∧ W ≤ 256
  · by_cases h2 : 1 ≤ H ∧ H ≤ 256
    · have hz : 0 ≤ W * H ∧ W * H ≤ 65536 := by
        have q1 := Int.mul_nonneg (show 0 ≤ W by omega) (show 0 ≤ H by omega)
        have q2 : W * H ≤ 256 * 256 := Int.mul_le_mul h1.2 h2.2 (by omega) (by omega)
        omega
      obtain ⟨m, hm⟩ : ∃ m, m = W * H := ⟨_, rfl⟩
      have hm' : W * H = m := hm.symm
      have hR : decide (RightP W H n) = decide ((n : Int) = m) := by
        unfold RightP
        rw [hm]
        congr 1
        simp [h1, h2]
      rw [hR]
      rw [← hm] at hz
      have e1 := fun w => isSide_any W w
      have e2 := fun w => isSide_any H w
      rw [decide_eq_true h1] at e1
      rw [decide_eq_true h2] at e2
      have E1 := hide e1
      have E2 := hide e2
      have hbq : ((n : Int) == m) = decide ((n : Int) = m) := by
        by_cases q : (n : Int) = m
        · rw [decide_eq_true q]; simpa using q
        · rw [decide_eq_false q]; simpa using q
      clear hm hR e1 e2 HS h1 h2
      go_enter Tryd.func39, Tryd.ntmps39
      go_wp2_with fail
      refine (unhide E1 _).mono ?_; rintro e w1 ⟨rfl, rfl⟩
      go_wp2_with fail
      refine (unhide E2 _).mono ?_; rintro e w1 ⟨rfl, rfl⟩
      go_wp2
      go_ret
      exact ⟨by first | rfl | rw [hbq], hb⟩
    · have e1 := fun w => isSide_any W w
      have e2 := fun w => isSide_any H w
      rw [decide_eq_true h1] at e1
      rw [decide_eq_false h2] at e2
      have E1 := hide e1
      have E2 := hide e2
      rw [decide_eq_false (fun q : RightP W H n => h2 q.2.1)]
      clear e1 e2 HS h1 h2
      go_enter Tryd.func39, Tryd.ntmps39
      go_wp2_with fail
      refine (unhide E1 _).mono ?_; rintro e w1 ⟨rfl, rfl⟩
      go_wp2_with fail
      refine (unhide E2 _).mono ?_; rintro e w1 ⟨rfl, rfl⟩
      go_wp2
      go_ret
      exact ⟨rfl, hb⟩
  · have e1 := fun w => isSide_any W w
    rw [decide_eq_false h1] at e1
    have E1 := hide e1
    rw [decide_eq_false (fun q : RightP W H n => h1 q.1)]
    clear e1 HS h1
    go_enter Tryd.func39, Tryd.ntmps39
    go_wp2_with fail
    refine (unhide E1 _).mono ?_; rintro e w1 ⟨rfl, rfl⟩
    go_wp2
    go_ret
    exact ⟨rfl, hb⟩
end Go.Proofs.YtjcoahahponabaaDoor
namespace Go.Proofs.YtjcoahahponabaaDoor
open Go.RowKit

theorem results_c {fn : Func} {p : Tmp} {ty : TypeId} (h : fn.results = #[.cell p ty]) (tmps : Array Value) (P : Program) (w : World) :
    (results fn tmps).run P w = ((asAddr (tmps.getD p undef)).run P w).andThen fun a w₁ => (loadVar ty a).run P w₁ := by
  simp only [results, h]
  simp [Sem.run_bind, Result.andThen]
theorem results_tc {fn : Func} {p u : Tmp} {ty : TypeId} (h : fn.results = #[.tmp u, .cell p ty]) (tmps : Array Value) (P : Program) (w : World) :
    (results fn tmps).run P w = ((asAddr (tmps.getD p undef)).run P w).andThen fun a w₁ => ((loadVar ty a).run P w₁).andThen fun v w₂ => .ok (.tuple #[tmps.getD u undef, v]) w₂ := by
  simp only [results, h]
  simp [Sem.run_bind, Result.andThen]
theorem results_ct {fn : Func} {p u : Tmp} {ty : TypeId} (h : fn.results = #[.cell p ty, .tmp u]) (tmps : Array Value) (P : Program) (w : World) :
    (results fn tmps).run P w = ((asAddr (tmps.getD p undef)).run P w).andThen fun a w₁ => ((loadVar ty a).run P w₁).andThen fun v w₂ => .ok (.tuple #[v, tmps.getD u undef]) w₂ := by
  simp only [results, h]
  simp [Sem.run_bind, Result.andThen]
end Go.Proofs.YtjcoahahponabaaDoor
namespace Go.Proofs.YtjcoahahponabaaDoor
open Go.RowKit



theorem below_two (w : World) (o o2 : Obj) : Below w.heap.size w ((w.alloc o).alloc o2) := ((Below.refl _ _).alloc (Nat.le_refl _) _).alloc (by simp) _

end Go.Proofs.YtjcoahahponabaaDoor
namespace Go.Proofs.YtjcoahahponabaaDoor
open Go.RowKit

/-- A row with one place changed. -/
def updP (p : Nat → Px) (i : Nat) (v : Px) : Nat → Px := fun j => if j = i then v else p j
/-- Pixels in a block of their own, that may be written. -/
structure PR (w : World) (g n : Nat) (p : Nat → Px) : Prop where
  ex : ∃ cur, w.heap[g]? = some (.cells cur 44)
  px : ∀ i, i < n → PxAt w g (i * 4) (p i)
theorem PR.lt {w : World} {g n : Nat} {p : Nat → Px} (h : PR w g n p) : g < w.heap.size := by obtain ⟨c, h⟩ := h.ex; exact blk_lt h
theorem PR.fr {w : World} {g n : Nat} {p : Nat → Px} (h : PR w g n p) (j : Nat) : w.frozen? ⟨g, j, none⟩ = false := by obtain ⟨c, h⟩ := h.ex; exact blk_frozen h j
theorem PxAt.block {w w' : World} {b off : Nat} {p : Px} (h : PxAt w b off p) (e : w'.heap[b]? = w.heap[b]?) : PxAt w' b off p :=
  ⟨(World.cell?_of_block (a := ⟨b, off, none⟩) e).trans h.r, (World.cell?_of_block (a := ⟨b, off + 1, none⟩) e).trans h.g, (World.cell?_of_block (a := ⟨b, off + 2, none⟩) e).trans h.b, (World.cell?_of_block (a := ⟨b, off + 3, none⟩) e).trans h.a⟩
theorem PR.block {w w' : World} {g n : Nat} {p : Nat → Px} (h : PR w g n p) (e : w'.heap[g]? = w.heap[g]?) : PR w' g n p := by
  obtain ⟨c, hc⟩ := h.ex
  exact ⟨⟨c, e.trans hc⟩, fun i hi => (h.px i hi).block e⟩
theorem PR.below {w w' : World} {g n B : Nat} {p : Nat → Px} (h : PR w g n p) (hb : Below B w w') (hB : g < B) : PR w' g n p := h.block (hb.block g hB)
theorem PR.isPx {w : World} {g n : Nat} {p : Nat → Px} (h : PR w g n p) (hn : n ≤ 100000) : IsPx w (some ⟨g, 0, none⟩) n p :=
  .inr ⟨g, 0, rfl, by unfold maxLen; omega, fun i hi => by rw [Nat.zero_add]; exact h.px i hi⟩
theorem PR.congr {w : World} {g n : Nat} {p q : Nat → Px} (h : PR w g n p) (e : ∀ i, i < n → p i = q i) : PR w g n q := ⟨h.ex, fun i hi => by rw [← e i hi]; exact h.px i hi⟩

/-- Four cells in a row are stored. -/
def put4 (w : World) (g o : Nat) (v : Px) : World := (((w.setCell ⟨g, o, none⟩ (.int .u8 (v.r.toNat : Int))).setCell ⟨g, o + 1, none⟩ (.int .u8 (v.g.toNat : Int))).setCell ⟨g, o + 2, none⟩ (.int .u8 (v.b.toNat : Int))).setCell ⟨g, o + 3, none⟩ (.int .u8 (v.a.toNat : Int))
theorem ofs_ne {g a b : Nat} (h : a ≠ b) : (⟨g, a, none⟩ : Addr) ≠ ⟨g, b, none⟩ := fun e => h (by injection e)
theorem put4_far (w : World) (g o k : Nat) (v : Px) (h : k ≠ g) : (put4 w g o v).heap[k]? = w.heap[k]? := by
  unfold put4
  rw [Below.heap_setCell _ _ _ _ h, Below.heap_setCell _ _ _ _ h, Below.heap_setCell _ _ _ _ h, Below.heap_setCell _ _ _ _ h]
theorem put4_size (w : World) (g o : Nat) (v : Px) : (put4 w g o v).heap.size = w.heap.size := by simp [put4, World.setCell]
theorem put4_off (w : World) (g o j : Nat) (v : Px) (h : j < o ∨ o + 4 ≤ j) : (put4 w g o v).cell? ⟨g, j, none⟩ = w.cell? ⟨g, j, none⟩ := by
  unfold put4
  rw [World.cell?_setCell_other _ _ _ _ (ofs_ne (by omega)), World.cell?_setCell_other _ _ _ _ (ofs_ne (by omega)), World.cell?_setCell_other _ _ _ _ (ofs_ne (by omega)), World.cell?_setCell_other _ _ _ _ (ofs_ne (by omega))]
theorem put4_at {w : World} {g o : Nat} {u : Px} (v : Px) (h : PxAt w g o u) : PxAt (put4 w g o v) g o v := by
  unfold put4
  refine ⟨?_, ?_, ?_, ?_⟩
  · rw [World.cell?_setCell_other _ _ _ _ (ofs_ne (by omega)), World.cell?_setCell_other _ _ _ _ (ofs_ne (by omega)), World.cell?_setCell_other _ _ _ _ (ofs_ne (by omega))]
    exact World.cell?_setCell_same _ _ _ h.r
  · rw [World.cell?_setCell_other _ _ _ _ (ofs_ne (by omega)), World.cell?_setCell_other _ _ _ _ (ofs_ne (by omega))]
    exact World.cell?_setCell_same _ _ _ ((World.cell?_setCell_other _ _ _ _ (ofs_ne (by omega))).trans h.g)
  · rw [World.cell?_setCell_other _ _ _ _ (ofs_ne (by omega))]
    exact World.cell?_setCell_same _ _ _ ((World.cell?_setCell_other _ _ _ _ (ofs_ne (by omega))).trans ((World.cell?_setCell_other _ _ _ _ (ofs_ne (by omega))).trans h.b))
  · exact World.cell?_setCell_same _ _ _ ((World.cell?_setCell_other _ _ _ _ (ofs_ne (by omega))).trans ((World.cell?_setCell_other _ _ _ _ (ofs_ne (by omega))).trans ((World.cell?_setCell_other _ _ _ _ (ofs_ne (by omega))).trans h.a)))
theorem set_ex {w : World} {g : Nat} (j : Nat) (u : Value) (h : ∃ cur, w.heap[g]? = some (.cells cur 44)) : ∃ cur, (w.setCell ⟨g, j, none⟩ u).heap[g]? = some (.cells cur 44) := by
  obtain ⟨c, h⟩ := h
  have hl := blk_lt h
  refine ⟨c.setIfInBounds j u, ?_⟩
  have hg : w.heap[g] = .cells c 44 := by rw [Array.getElem?_eq_getElem hl] at h; exact Option.some.inj h
  simp [World.setCell, Array.getElem?_modify, h]
theorem PR.put {w : World} {g n i : Nat} {p : Nat → Px} (h : PR w g n p) (hi : i < n) (v : Px) : PR (put4 w g (i * 4) v) g n (updP p i v) := by
  refine ⟨?_, fun j hj => ?_⟩
  · unfold put4
    exact set_ex _ _ (set_ex _ _ (set_ex _ _ (set_ex _ _ h.ex)))
  · unfold updP
    by_cases e : j = i
    · subst e
      rw [if_pos rfl]
      exact put4_at v (h.px j hj)
    · rw [if_neg e]
      have c := h.px j hj
      exact ⟨(put4_off _ _ _ _ _ (by omega)).trans c.r, (put4_off _ _ _ _ _ (by omega)).trans c.g, (put4_off _ _ _ _ _ (by omega)).trans c.b, (put4_off _ _ _ _ _ (by omega)).trans c.a⟩
theorem put4_below {B : Nat} {w0 w : World} (h : Below B w0 w) {g o : Nat} (hg : B ≤ g) (v : Px) : Below B w0 (put4 w g o v) :=
  (((h.setCell (p := ⟨g, o, none⟩) hg _).setCell (p := ⟨g, o + 1, none⟩) hg _).setCell (p := ⟨g, o + 2, none⟩) hg _).setCell (p := ⟨g, o + 3, none⟩) hg _

/-- A row of a call's own, as one that may be written. -/
theorem own_PR {w : World} {base n cap : Nat} {a : Option Addr} {p : Nat → Px} (h : w.ownsRow base 44 4 (.slice a n cap) n (pxVals p n)) (h0 : 1 ≤ n) : ∃ g, a = some ⟨g, 0, none⟩ ∧ base ≤ g ∧ PR w g n p := by
  rcases h.2 with ⟨_, q⟩ | ⟨g, cap', cur, hv, hb, hh, _⟩
  · omega
  · injection hv with hv _ _
    subst hv
    refine ⟨g, rfl, hb, ⟨cur, hh⟩, fun i hi => ?_⟩
    have hc : ∀ j, j < 4 → w.cell? ⟨g, i * 4 + j, none⟩ = (p i).cells[j]? := fun j hj => by
      rw [h.cellAt (i * 4 + j) (by omega)]
      exact pxVals_at p n i j hi hj
    exact ⟨hc 0 (by omega), hc 1 (by omega), hc 2 (by omega), hc 3 (by omega)⟩
def px0 : Px := ⟨0, 0, 0, 0⟩
theorem make_pxn (n : Nat) (hn : n ≤ 100000) (w : World) : (Instr.makeSlice 33 (.int .i64 (n : Int)) (.int .i64 (n : Int))).run Tryd.prog w = .ok (.slice (some ⟨w.heap.size, 0, none⟩) n n) (w.alloc (.cells (madeCells #[.int .u8 0, .int .u8 0, .int .u8 0, .int .u8 0] (n * 4)) 44)) := by
  obtain ⟨i0, hi, hz0, hz1, hz2⟩ := info_parts px_info
  have hr := run_make (P := Tryd.prog) w 33 44 i0 (.agg #[.int .u8 0, .int .u8 0, .int .u8 0, .int .u8 0]) Tryd.underlying33 hi hz0 .i64 .i64 n n (by omega) (by omega) (by rw [hz2]; omega) (by omega)
  simp only [Int.toNat_natCast, hz1] at hr
  exact hr
theorem made_PR (w : World) (n : Nat) : PR (w.alloc (.cells (madeCells #[.int .u8 0, .int .u8 0, .int .u8 0, .int .u8 0] (n * 4)) 44)) w.heap.size n (fun _ => px0) := by
  have hb := heap_alloc_new w (.cells (madeCells #[.int .u8 0, .int .u8 0, .int .u8 0, .int .u8 0] (n * 4)) 44)
  have hc : ∀ k, k < n * 4 → (madeCells #[.int .u8 0, .int .u8 0, .int .u8 0, .int .u8 0] (n * 4))[k]? = some (.int .u8 0) := fun k hk => by
    have e4 : k % 4 = 0 ∨ k % 4 = 1 ∨ k % 4 = 2 ∨ k % 4 = 3 := by omega
    rcases e4 with e | e | e | e <;> simp [madeCells, hk, e]
  refine ⟨⟨_, hb⟩, fun i hi => ⟨?_, ?_, ?_, ?_⟩⟩
  · exact (blk_cell hb (i * 4)).trans (hc _ (by omega))
  · exact (blk_cell hb (i * 4 + 1)).trans (hc _ (by omega))
  · exact (blk_cell hb (i * 4 + 2)).trans (hc _ (by omega))
  · exact (blk_cell hb (i * 4 + 3)).trans (hc _ (by omega))
end Go.Proofs.YtjcoahahponabaaDoor
