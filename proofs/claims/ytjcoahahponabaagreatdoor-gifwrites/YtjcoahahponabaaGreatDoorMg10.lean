/- Which pictures are right: the program's. Results that lie in cells. Pictures: the program's small tests, and a pixel at a place. Rows of pixels that are written in place; pictures that lie in blocks of their own. Places that are near: the program's. Pictures: parts, places that are near, pixels painted: the program's. Pictures: pixels that are meant become one color: the program's. Pictures: the functions that tell a pixel of each place: the program's. Written by genrt.py. Pictures: what the functions of package raster refuse. Written by genrt5.py. Pictures: what the functions of package raster refuse as out of bounds. Written by genrt5.py. Pictures: what the functions of package raster answer. Written by genrt5.py. Pictures turned: the four ways as one; plain facts on pictures that are flipped and turned. Pictures in blocks: what the walks of the statements use. -/
import Derived.Test.YtjcoahahponabaaGreatDoorPx1
import Derived.Test.YtjcoahahponabaaGreatDoorMg1
import Derived.Test.YtjcoahahponabaaGreatDoorMg4
namespace Go.Proofs.YtjcoahahponabaaGreatDoor
open Go.RowKit

theorem isSide_any (z : Int) (w : World) :
    Calls Tryz.prog 105 #[.int .i64 z] w fun e w' => e = .returned (.bool (decide (1 ≤ z ∧ z ≤ 256))) ∧ w' = w := by
  by_cases h1 : 1 ≤ z
  · have d1 : decide (z ≥ 1) = true := decide_eq_true h1
    have d1' : decide (1 ≤ z) = true := d1
    by_cases h2 : z ≤ 256
    · have d2 : decide (z ≤ 256) = true := decide_eq_true h2
      rw [decide_eq_true (⟨h1, h2⟩ : 1 ≤ z ∧ z ≤ 256)]
      clear h1 h2
      go_enter Tryz.func105, Tryz.ntmps105
      go_wp2
      go_ret
      exact ⟨rfl, rfl⟩
    · have d2 : decide (z ≤ 256) = false := decide_eq_false h2
      rw [decide_eq_false (fun q : 1 ≤ z ∧ z ≤ 256 => h2 q.2)]
      clear h1 h2
      go_enter Tryz.func105, Tryz.ntmps105
      go_wp2
      go_ret
      exact ⟨rfl, rfl⟩
  · have d1 : decide (z ≥ 1) = false := decide_eq_false h1
    have d1' : decide (1 ≤ z) = false := d1
    rw [decide_eq_false (fun q : 1 ≤ z ∧ z ≤ 256 => h1 q.1)]
    clear h1
    go_enter Tryz.func105, Tryz.ntmps105
    go_wp2
    go_ret
    exact ⟨rfl, rfl⟩

theorem isRight_any (W H : Int) (a : Option Addr) (n c : Nat) (w : World) :
    Calls Tryz.prog 116 #[.agg #[.int .i64 W, .int .i64 H, .slice a n c]] w fun e w' => e = .returned (.bool (decide (RightP W H n))) ∧ Below w.heap.size w w' := by
  have hb : Below w.heap.size w (w.alloc (.cells #[.int .i64 W, .int .i64 H, .slice a n c] 27)) := (Below.refl _ _).alloc (Nat.le_refl _) _
  have HS := hide isSide_any
  by_cases h1 : 1 ≤ W ∧ W ≤ 256
  · by_cases h2 : 1 ≤ H ∧ H ≤ 256
    · have hz : 0 ≤ W * H ∧ W * H ≤ 65536 := by
        have q1 := Int.mul_nonneg (show 0 ≤ W by omega) (show 0 ≤ H by omega)
        have q2 : W * H ≤ 256 * 256 := Int.mul_le_mul h1.2 h2.2 (by omega) (by omega)
        omega
      obtain ⟨m, hm⟩ : ∃ m, m = W * H := ⟨_, rfl⟩
      have hm' : W * H = m := hm.symm
      have hR : decide (RightP W H n) = decide ((n : Int) = m) := by
        unfold RightP
        rw [hm]
        congr 1
        simp [h1, h2]
      rw [hR]
      rw [← hm] at hz
      have e1 := fun w => isSide_any W w
      have e2 := fun w => isSide_any H w
      rw [decide_eq_true h1] at e1
      rw [decide_eq_true h2] at e2
      have E1 := hide e1
      have E2 := hide e2
      have hbq : ((n : Int) == m) = decide ((n : Int) = m) := by
        by_cases q : (n : Int) = m
        · rw [decide_eq_true q]; simpa using q
        · rw [decide_eq_false q]; simpa using q
      clear hm hR e1 e2 HS h1 h2
      go_enter Tryz.func116, Tryz.ntmps116
      go_wp2_with fail
      refine (unhide E1 _).mono ?_; rintro e w1 ⟨rfl, rfl⟩
      go_wp2_with fail
      refine (unhide E2 _).mono ?_; rintro e w1 ⟨rfl, rfl⟩
      go_wp2
      go_ret
      exact ⟨by first | rfl | rw [hbq], hb⟩
    · have e1 := fun w => isSide_any W w
      have e2 := fun w => isSide_any H w
      rw [decide_eq_true h1] at e1
      rw [decide_eq_false h2] at e2
      have E1 := hide e1
      have E2 := hide e2
      rw [decide_eq_false (fun q : RightP W H n => h2 q.2.1)]
      clear e1 e2 HS h1 h2
      go_enter Tryz.func116, Tryz.ntmps116
      go_wp2_with fail
      refine (unhide E1 _).mono ?_; rintro e w1 ⟨rfl, rfl⟩
      go_wp2_with fail
      refine (unhide E2 _).mono ?_; rintro e w1 ⟨rfl, rfl⟩
      go_wp2
      go_ret
      exact ⟨rfl, hb⟩
  · have e1 := fun w => isSide_any W w
    rw [decide_eq_false h1] at e1
    have E1 := hide e1
    rw [decide_eq_false (fun q : RightP W H n => h1 q.1)]
    clear e1 HS h1
    go_enter Tryz.func116, Tryz.ntmps116
    go_wp2_with fail
    refine (unhide E1 _).mono ?_; rintro e w1 ⟨rfl, rfl⟩
    go_wp2
    go_ret
    exact ⟨rfl, hb⟩
end Go.Proofs.YtjcoahahponabaaGreatDoor
namespace Go.Proofs.YtjcoahahponabaaGreatDoor
open Go.RowKit

theorem results_c {fn : Func} {p : Tmp} {ty : TypeId} (h : fn.results = #[.cell p ty]) (tmps : Array Value) (P : Program) (w : World) :
    (results fn tmps).run P w = ((asAddr (tmps.getD p undef)).run P w).andThen fun a w₁ => (loadVar ty a).run P w₁ := by
  simp only [results, h]
  simp [Sem.run_bind, Result.andThen]
theorem results_tc {fn : Func} {p u : Tmp} {ty : TypeId} (h : fn.results = #[.tmp u, .cell p ty]) (tmps : Array Value) (P : Program) (w : World) :
    (results fn tmps).run P w = ((asAddr (tmps.getD p undef)).run P w).andThen fun a w₁ => ((loadVar ty a).run P w₁).andThen fun v w₂ => .ok (.tuple #[tmps.getD u undef, v]) w₂ := by
  simp only [results, h]
  simp [Sem.run_bind, Result.andThen]
theorem results_ct {fn : Func} {p u : Tmp} {ty : TypeId} (h : fn.results = #[.cell p ty, .tmp u]) (tmps : Array Value) (P : Program) (w : World) :
    (results fn tmps).run P w = ((asAddr (tmps.getD p undef)).run P w).andThen fun a w₁ => ((loadVar ty a).run P w₁).andThen fun v w₂ => .ok (.tuple #[v, tmps.getD u undef]) w₂ := by
  simp only [results, h]
  simp [Sem.run_bind, Result.andThen]
end Go.Proofs.YtjcoahahponabaaGreatDoor
namespace Go.Proofs.YtjcoahahponabaaGreatDoor
open Go.RowKit



theorem below_two (w : World) (o o2 : Obj) : Below w.heap.size w ((w.alloc o).alloc o2) := ((Below.refl _ _).alloc (Nat.le_refl _) _).alloc (by simp) _

end Go.Proofs.YtjcoahahponabaaGreatDoor
namespace Go.Proofs.YtjcoahahponabaaGreatDoor
open Go.RowKit

/-- A row with one place changed. -/
def updP (p : Nat → Px) (i : Nat) (v : Px) : Nat → Px := fun j => if j = i then v else p j
/-- Pixels in a block of their own, that may be written. -/
structure PR (w : World) (g n : Nat) (p : Nat → Px) : Prop where
  ex : ∃ cur, w.heap[g]? = some (.cells cur 78)
  px : ∀ i, i < n → PxAt w g (i * 4) (p i)
theorem PR.lt {w : World} {g n : Nat} {p : Nat → Px} (h : PR w g n p) : g < w.heap.size := by obtain ⟨c, h⟩ := h.ex; exact blk_lt h
theorem PR.fr {w : World} {g n : Nat} {p : Nat → Px} (h : PR w g n p) (j : Nat) : w.frozen? ⟨g, j, none⟩ = false := by obtain ⟨c, h⟩ := h.ex; exact blk_frozen h j
theorem PxAt.block {w w' : World} {b off : Nat} {p : Px} (h : PxAt w b off p) (e : w'.heap[b]? = w.heap[b]?) : PxAt w' b off p :=
  ⟨(World.cell?_of_block (a := ⟨b, off, none⟩) e).trans h.r, (World.cell?_of_block (a := ⟨b, off + 1, none⟩) e).trans h.g, (World.cell?_of_block (a := ⟨b, off + 2, none⟩) e).trans h.b, (World.cell?_of_block (a := ⟨b, off + 3, none⟩) e).trans h.a⟩
theorem PR.block {w w' : World} {g n : Nat} {p : Nat → Px} (h : PR w g n p) (e : w'.heap[g]? = w.heap[g]?) : PR w' g n p := by
  obtain ⟨c, hc⟩ := h.ex
  exact ⟨⟨c, e.trans hc⟩, fun i hi => (h.px i hi).block e⟩
theorem PR.below {w w' : World} {g n B : Nat} {p : Nat → Px} (h : PR w g n p) (hb : Below B w w') (hB : g < B) : PR w' g n p := h.block (hb.block g hB)
theorem PR.isPx {w : World} {g n : Nat} {p : Nat → Px} (h : PR w g n p) (hn : n ≤ 100000) : IsPx w (some ⟨g, 0, none⟩) n p :=
  .inr ⟨g, 0, rfl, by unfold maxLen; omega, fun i hi => by rw [Nat.zero_add]; exact h.px i hi⟩
theorem PR.congr {w : World} {g n : Nat} {p q : Nat → Px} (h : PR w g n p) (e : ∀ i, i < n → p i = q i) : PR w g n q := ⟨h.ex, fun i hi => by rw [← e i hi]; exact h.px i hi⟩

/-- Four cells in a row are stored. -/
def put4 (w : World) (g o : Nat) (v : Px) : World := (((w.setCell ⟨g, o, none⟩ (.int .u8 (v.r.toNat : Int))).setCell ⟨g, o + 1, none⟩ (.int .u8 (v.g.toNat : Int))).setCell ⟨g, o + 2, none⟩ (.int .u8 (v.b.toNat : Int))).setCell ⟨g, o + 3, none⟩ (.int .u8 (v.a.toNat : Int))
theorem ofs_ne {g a b : Nat} (h : a ≠ b) : (⟨g, a, none⟩ : Addr) ≠ ⟨g, b, none⟩ := fun e => h (by injection e)
theorem put4_far (w : World) (g o k : Nat) (v : Px) (h : k ≠ g) : (put4 w g o v).heap[k]? = w.heap[k]? := by
  unfold put4
  rw [Below.heap_setCell _ _ _ _ h, Below.heap_setCell _ _ _ _ h, Below.heap_setCell _ _ _ _ h, Below.heap_setCell _ _ _ _ h]
theorem put4_size (w : World) (g o : Nat) (v : Px) : (put4 w g o v).heap.size = w.heap.size := by simp [put4, World.setCell]
theorem put4_off (w : World) (g o j : Nat) (v : Px) (h : j < o ∨ o + 4 ≤ j) : (put4 w g o v).cell? ⟨g, j, none⟩ = w.cell? ⟨g, j, none⟩ := by
  unfold put4
  rw [World.cell?_setCell_other _ _ _ _ (ofs_ne (by omega)), World.cell?_setCell_other _ _ _ _ (ofs_ne (by omega)), World.cell?_setCell_other _ _ _ _ (ofs_ne (by omega)), World.cell?_setCell_other _ _ _ _ (ofs_ne (by omega))]
theorem put4_at {w : World} {g o : Nat} {u : Px} (v : Px) (h : PxAt w g o u) : PxAt (put4 w g o v) g o v := by
  unfold put4
  refine ⟨?_, ?_, ?_, ?_⟩
  · rw [World.cell?_setCell_other _ _ _ _ (ofs_ne (by omega)), World.cell?_setCell_other _ _ _ _ (ofs_ne (by omega)), World.cell?_setCell_other _ _ _ _ (ofs_ne (by omega))]
    exact World.cell?_setCell_same _ _ _ h.r
  · rw [World.cell?_setCell_other _ _ _ _ (ofs_ne (by omega)), World.cell?_setCell_other _ _ _ _ (ofs_ne (by omega))]
    exact World.cell?_setCell_same _ _ _ ((World.cell?_setCell_other _ _ _ _ (ofs_ne (by omega))).trans h.g)
  · rw [World.cell?_setCell_other _ _ _ _ (ofs_ne (by omega))]
    exact World.cell?_setCell_same _ _ _ ((World.cell?_setCell_other _ _ _ _ (ofs_ne (by omega))).trans ((World.cell?_setCell_other _ _ _ _ (ofs_ne (by omega))).trans h.b))
  · exact World.cell?_setCell_same _ _ _ ((World.cell?_setCell_other _ _ _ _ (ofs_ne (by omega))).trans ((World.cell?_setCell_other _ _ _ _ (ofs_ne (by omega))).trans ((World.cell?_setCell_other _ _ _ _ (ofs_ne (by omega))).trans h.a)))
theorem set_ex {w : World} {g : Nat} (j : Nat) (u : Value) (h : ∃ cur, w.heap[g]? = some (.cells cur 78)) : ∃ cur, (w.setCell ⟨g, j, none⟩ u).heap[g]? = some (.cells cur 78) := by
  obtain ⟨c, h⟩ := h
  have hl := blk_lt h
  refine ⟨c.setIfInBounds j u, ?_⟩
  have hg : w.heap[g] = .cells c 78 := by rw [Array.getElem?_eq_getElem hl] at h; exact Option.some.inj h
  simp [World.setCell, Array.getElem?_modify, h]
theorem PR.put {w : World} {g n i : Nat} {p : Nat → Px} (h : PR w g n p) (hi : i < n) (v : Px) : PR (put4 w g (i * 4) v) g n (updP p i v) := by
  refine ⟨?_, fun j hj => ?_⟩
  · unfold put4
    exact set_ex _ _ (set_ex _ _ (set_ex _ _ (set_ex _ _ h.ex)))
  · unfold updP
    by_cases e : j = i
    · subst e
      rw [if_pos rfl]
      exact put4_at v (h.px j hj)
    · rw [if_neg e]
      have c := h.px j hj
      exact ⟨(put4_off _ _ _ _ _ (by omega)).trans c.r, (put4_off _ _ _ _ _ (by omega)).trans c.g, (put4_off _ _ _ _ _ (by omega)).trans c.b, (put4_off _ _ _ _ _ (by omega)).trans c.a⟩
theorem put4_below {B : Nat} {w0 w : World} (h : Below B w0 w) {g o : Nat} (hg : B ≤ g) (v : Px) : Below B w0 (put4 w g o v) :=
  (((h.setCell (p := ⟨g, o, none⟩) hg _).setCell (p := ⟨g, o + 1, none⟩) hg _).setCell (p := ⟨g, o + 2, none⟩) hg _).setCell (p := ⟨g, o + 3, none⟩) hg _

/-- A row of a call's own, as one that may be written. -/
theorem own_PR {w : World} {base n cap : Nat} {a : Option Addr} {p : Nat → Px} (h : w.ownsRow base 78 4 (.slice a n cap) n (pxVals p n)) (h0 : 1 ≤ n) : ∃ g, a = some ⟨g, 0, none⟩ ∧ base ≤ g ∧ PR w g n p := by
  rcases h.2 with ⟨_, q⟩ | ⟨g, cap', cur, hv, hb, hh, _⟩
  · omega
  · injection hv with hv _ _
    subst hv
    refine ⟨g, rfl, hb, ⟨cur, hh⟩, fun i hi => ?_⟩
    have hc : ∀ j, j < 4 → w.cell? ⟨g, i * 4 + j, none⟩ = (p i).cells[j]? := fun j hj => by
      rw [h.cellAt (i * 4 + j) (by omega)]
      exact pxVals_at p n i j hi hj
    exact ⟨hc 0 (by omega), hc 1 (by omega), hc 2 (by omega), hc 3 (by omega)⟩
def px0 : Px := ⟨0, 0, 0, 0⟩
theorem make_pxn (n : Nat) (hn : n ≤ 100000) (w : World) : (Instr.makeSlice 25 (.int .i64 (n : Int)) (.int .i64 (n : Int))).run Tryz.prog w = .ok (.slice (some ⟨w.heap.size, 0, none⟩) n n) (w.alloc (.cells (madeCells #[.int .u8 0, .int .u8 0, .int .u8 0, .int .u8 0] (n * 4)) 78)) := by
  obtain ⟨i0, hi, hz0, hz1, hz2⟩ := info_parts px_info
  have hr := run_make (P := Tryz.prog) w 25 78 i0 (.agg #[.int .u8 0, .int .u8 0, .int .u8 0, .int .u8 0]) Tryz.underlying25 hi hz0 .i64 .i64 n n (by omega) (by omega) (by rw [hz2]; omega) (by omega)
  simp only [Int.toNat_natCast, hz1] at hr
  exact hr
theorem made_PR (w : World) (n : Nat) : PR (w.alloc (.cells (madeCells #[.int .u8 0, .int .u8 0, .int .u8 0, .int .u8 0] (n * 4)) 78)) w.heap.size n (fun _ => px0) := by
  have hb := heap_alloc_new w (.cells (madeCells #[.int .u8 0, .int .u8 0, .int .u8 0, .int .u8 0] (n * 4)) 78)
  have hc : ∀ k, k < n * 4 → (madeCells #[.int .u8 0, .int .u8 0, .int .u8 0, .int .u8 0] (n * 4))[k]? = some (.int .u8 0) := fun k hk => by
    have e4 : k % 4 = 0 ∨ k % 4 = 1 ∨ k % 4 = 2 ∨ k % 4 = 3 := by omega
    rcases e4 with e | e | e | e <;> simp [madeCells, hk, e]
  refine ⟨⟨_, hb⟩, fun i hi => ⟨?_, ?_, ?_, ?_⟩⟩
  · exact (blk_cell hb (i * 4)).trans (hc _ (by omega))
  · exact (blk_cell hb (i * 4 + 1)).trans (hc _ (by omega))
  · exact (blk_cell hb (i * 4 + 2)).trans (hc _ (by omega))
  · exact (blk_cell hb (i * 4 + 3)).trans (hc _ (by omega))
end Go.Proofs.YtjcoahahponabaaGreatDoor
namespace Go.Proofs.YtjcoahahponabaaGreatDoor
open Go.RowKit

theorem ret_boolR {a b : Bool} (h : a = b) : Ending.returned (.bool a) = .returned (.bool b) := by rw [h]

set_option maxHeartbeats 2000000 in
theorem areNear_any (k n c : Nat) (z : Nat → Int) (w : World) (hn : n ≤ 8) (hc : ∀ i, i < n → w.cell? ⟨k, i, none⟩ = some (.int .i64 (z i))) (b : Bool) (hb : b = true ↔ ∀ i, i < n → -10000 ≤ z i ∧ z i ≤ 10000) :
    Calls Tryz.prog 138 #[.slice (some ⟨k, 0, none⟩) n c] w fun e w' => e = .returned (.bool b) ∧ w' = w := by
  have HC := hide hc
  have HB := hide hb
  clear hc hb
  go_enter Tryz.func138, Tryz.ntmps138
  go_wp2
  go_loopw [7] (fun iv wr => ∃ i : Nat, i ≤ n ∧ iv = .int .i64 (i : Int) ∧ Hid (∀ j, j < i → -10000 ≤ z j ∧ z j ≤ 10000) ∧ wr = w) (fun iv _ => n - (intOf iv).toNat)
  case atStart => exact ⟨0, by omega, rfl, fun j hj => by omega, rfl⟩
  case round =>
    obtain ⟨i, hi, rfl, HI, rfl⟩ := hrel
    by_cases hlt : i < n
    · have d1 : decide ((i : Int) < (n : Int)) = true := by simp; omega
      have d1n : decide (i < n) = true := decide_eq_true hlt
      have hii : (i : Int) < (n : Int) := by omega
      have c0 := unhide HC i hlt
      have d : (decide (z i < -10000) = true ∧ Hid (¬ (-10000 ≤ z i ∧ z i ≤ 10000))) ∨ (decide (z i < -10000) = false ∧ decide (z i > 10000) = true ∧ Hid (¬ (-10000 ≤ z i ∧ z i ≤ 10000))) ∨ (decide (z i < -10000) = false ∧ decide (z i > 10000) = false ∧ Hid (-10000 ≤ z i ∧ z i ≤ 10000)) := by
        by_cases h1 : z i < -10000
        · exact .inl ⟨decide_eq_true h1, fun h => by omega⟩
        · by_cases h2 : z i > 10000
          · exact .inr (.inl ⟨decide_eq_false h1, decide_eq_true h2, fun h => by omega⟩)
          · exact .inr (.inr ⟨decide_eq_false h1, decide_eq_false h2, by show _ ∧ _; omega⟩)
      rcases d with ⟨d2, HN⟩ | ⟨d2, d3, HN⟩ | ⟨d2, d3, HN⟩
      · have HR : Hid (b = false) := by
          show b = false
          rcases b with _ | _
          · rfl
          · exact absurd ((unhide HB).1 rfl i hlt) (unhide HN)
        clear HB HI HN
        go_wp2
        go_ret
        exact ⟨ret_boolR (unhide HR).symm, rfl⟩
      · have HR : Hid (b = false) := by
          show b = false
          rcases b with _ | _
          · rfl
          · exact absurd ((unhide HB).1 rfl i hlt) (unhide HN)
        clear HB HI HN
        go_wp2
        go_ret
        exact ⟨ret_boolR (unhide HR).symm, rfl⟩
      · have HJ : Hid (∀ j, j < i + 1 → -10000 ≤ z j ∧ z j ≤ 10000) := fun j hj => by
          rcases Nat.lt_or_ge j i with q | q
          · exact unhide HI j q
          · obtain rfl : j = i := by omega
            exact unhide HN
        clear HI HN
        go_wp2
        go_roundw
        case rel => exact ⟨i + 1, by omega, by go_num, HJ, trivial⟩
        case measure => simp [intOf]; omega
    · obtain rfl : i = n := by omega
      have d1 : decide ((i : Int) < (i : Int)) = false := by simp
      have HR : Hid (b = true) := (unhide HB).2 (unhide HI)
      go_wp2
      go_ret
      exact ⟨ret_boolR (unhide HR).symm, rfl⟩
end Go.Proofs.YtjcoahahponabaaGreatDoor
namespace Go.Proofs.YtjcoahahponabaaGreatDoor
open Go.RowKit




end Go.Proofs.YtjcoahahponabaaGreatDoor
namespace Go.Proofs.YtjcoahahponabaaGreatDoor
open Go.RowKit

def picO (W H : Int) (a : Option Addr) (n c : Nat) : Obj := .cells #[.int .i64 W, .int .i64 H, .slice a n c] 27
def pixO (p : Px) : Obj := .cells #[.int .u8 (p.r.toNat : Int), .int .u8 (p.g.toNat : Int), .int .u8 (p.b.toNat : Int), .int .u8 (p.a.toNat : Int)] 78


end Go.Proofs.YtjcoahahponabaaGreatDoor
namespace Go.Proofs.YtjcoahahponabaaGreatDoor
open Go.RowKit








end Go.Proofs.YtjcoahahponabaaGreatDoor
namespace Go.Proofs.YtjcoahahponabaaGreatDoor
open Go.RowKit

theorem far3 (w : World) (k b o : Nat) (v1 v2 v3 : Value) (h : k ≠ b) : (((w.setCell ⟨k, 0, none⟩ v1).setCell ⟨k, 1, none⟩ v2).setCell ⟨k, 2, none⟩ v3).cell? ⟨b, o, none⟩ = w.cell? ⟨b, o, none⟩ := by
  rw [World.cell?_setCell_far _ _ _ _ h, World.cell?_setCell_far _ _ _ _ h, World.cell?_setCell_far _ _ _ _ h]










end Go.Proofs.YtjcoahahponabaaGreatDoor
namespace Go.Proofs.YtjcoahahponabaaGreatDoor
open Go.RowKit

theorem rightN {W H n : Nat} (hW0 : 1 ≤ W) (hW : W ≤ 256) (hH0 : 1 ≤ H) (hH : H ≤ 256) (hn : n = W * H) : RightP (W : Int) (H : Int) n := ⟨by omega, by omega, by rw [hn]; simp⟩
/-- Near. -/
def Nr (z : Int) : Prop := -10000 ≤ z ∧ z ≤ 10000
instance (z : Int) : Decidable (Nr z) := by unfold Nr; infer_instance
theorem near4_any (z0 z1 z2 z3 : Int) (w : World) :
    Calls Tryz.prog 138 #[.slice (some ⟨w.heap.size, 0, none⟩) 4 4] (w.alloc (.cells #[.int .i64 z0, .int .i64 z1, .int .i64 z2, .int .i64 z3] 3)) fun e w' => e = .returned (.bool (decide (Nr z0 ∧ Nr z1 ∧ Nr z2 ∧ Nr z3))) ∧ w' = w.alloc (.cells #[.int .i64 z0, .int .i64 z1, .int .i64 z2, .int .i64 z3] 3) := by
  have k := heap_alloc_new w (.cells #[.int .i64 z0, .int .i64 z1, .int .i64 z2, .int .i64 z3] 3)
  have e4 : ∀ i, i < 4 → i = 0 ∨ i = 1 ∨ i = 2 ∨ i = 3 := fun i h => by omega
  refine areNear_any w.heap.size 4 4 (fun i => if i = 0 then z0 else if i = 1 then z1 else if i = 2 then z2 else z3) _ (by omega) (fun i hi => ?_) _ ?_
  · rcases e4 i hi with rfl | rfl | rfl | rfl <;> exact blk_cell k _
  · rw [decide_eq_true_eq]
    constructor
    · rintro ⟨h0, h1, h2, h3⟩ i hi
      rcases e4 i hi with rfl | rfl | rfl | rfl
      · exact h0
      · exact h1
      · exact h2
      · exact h3
    · intro h
      exact ⟨h 0 (by omega), h 1 (by omega), h 2 (by omega), h 3 (by omega)⟩
theorem near2_any (z0 z1 : Int) (w : World) :
    Calls Tryz.prog 138 #[.slice (some ⟨w.heap.size, 0, none⟩) 2 2] (w.alloc (.cells #[.int .i64 z0, .int .i64 z1] 3)) fun e w' => e = .returned (.bool (decide (Nr z0 ∧ Nr z1))) ∧ w' = w.alloc (.cells #[.int .i64 z0, .int .i64 z1] 3) := by
  have k := heap_alloc_new w (.cells #[.int .i64 z0, .int .i64 z1] 3)
  have e2 : ∀ i, i < 2 → i = 0 ∨ i = 1 := fun i h => by omega
  refine areNear_any w.heap.size 2 2 (fun i => if i = 0 then z0 else z1) _ (by omega) (fun i hi => ?_) _ ?_
  · rcases e2 i hi with rfl | rfl <;> exact blk_cell k _
  · rw [decide_eq_true_eq]
    constructor
    · rintro ⟨h0, h1⟩ i hi
      rcases e2 i hi with rfl | rfl
      · exact h0
      · exact h1
    · intro h
      exact ⟨h 0 (by omega), h 1 (by omega)⟩










end Go.Proofs.YtjcoahahponabaaGreatDoor
namespace Go.Proofs.YtjcoahahponabaaGreatDoor
open Go.RowKit











end Go.Proofs.YtjcoahahponabaaGreatDoor
namespace Go.Proofs.YtjcoahahponabaaGreatDoor
open Go.RowKit

theorem and_three (z : Int) : bits .and .i64 z 3 = z % 4 := by
  have h1 : (BitVec.ofInt 64 3).toNat = 2 ^ 2 - 1 := by decide
  have key : (BitVec.ofInt 64 z &&& BitVec.ofInt 64 3).toNat = (z % ((2 ^ 64 : Nat) : Int)).toNat % 2 ^ 2 := by
    rw [BitVec.toNat_and, BitVec.toNat_ofInt, h1, Nat.and_two_pow_sub_one_eq_mod]
  show IntKind.i64.wrap ((BitVec.ofInt 64 z &&& BitVec.ofInt 64 3).toNat : Nat) = _
  rw [key, IntKind.wrap_i64]
  omega

/-- The sides and the pixels of a picture that is turned k quarters. -/
def tW (k W H : Nat) : Nat := if k = 1 ∨ k = 3 then H else W
def tG (k W H : Nat) (p : Nat → Px) (x y : Nat) : Px :=
  if k = 1 then p ((H - 1 - x) * W + y) else if k = 2 then p ((H - 1 - y) * W + (W - 1 - x)) else if k = 3 then p (x * W + (W - 1 - y)) else p (y * W + x)
def tP (k W H : Nat) (p : Nat → Px) : Nat → Px := grid (tW k W H) (tG k W H p)

theorem place_lt {x y W H : Nat} (hx : x < W) (hy : y < H) : y * W + x < W * H := by
  have h2 : (y + 1) * W ≤ H * W := Nat.mul_le_mul_right W hy
  rw [Nat.mul_comm W H]
  rw [Nat.succ_mul] at h2
  omega
/-- A fact on all places is one on all of a row. -/
theorem by_places {W H : Nat} {f g : Nat → Px} (hW : 1 ≤ W) (h : ∀ x y, x < W → y < H → f (y * W + x) = g (y * W + x)) : ∀ i, i < W * H → f i = g i := fun i hi => by
  have hx : i % W < W := Nat.mod_lt _ (by omega)
  have hy : i / W < H := Nat.div_lt_of_lt_mul (by rw [Nat.mul_comm] at hi; rw [Nat.mul_comm]; exact hi)
  have e : i / W * W + i % W = i := by rw [Nat.mul_comm]; exact Nat.div_add_mod i W
  have q := h _ _ hx hy
  rw [e] at q
  exact q
theorem tP_at (k W H : Nat) (p : Nat → Px) (x y : Nat) (hx : x < tW k W H) : tP k W H p (y * tW k W H + x) = tG k W H p x y := grid_at _ _ _ _ hx

/-- Turned, and turned back. -/
theorem turned_back (k k' W H : Nat) (p : Nat → Px) (hk : k < 4) (hk' : k' < 4) (h : (k + k') % 4 = 0) (hW : 1 ≤ W) :
    tW k' (tW k W H) (tW k H W) = W ∧ tW k' (tW k H W) (tW k W H) = H ∧ ∀ i, i < W * H → tP k' (tW k W H) (tW k H W) (tP k W H p) i = p i := by
  have hc : (k = 0 ∧ k' = 0) ∨ (k = 1 ∧ k' = 3) ∨ (k = 2 ∧ k' = 2) ∨ (k = 3 ∧ k' = 1) := by omega
  rcases hc with ⟨rfl, rfl⟩ | ⟨rfl, rfl⟩ | ⟨rfl, rfl⟩ | ⟨rfl, rfl⟩
  · refine ⟨rfl, rfl, by_places hW fun x y hx hy => ?_⟩
    refine (grid_at W _ x y hx).trans ?_
    show grid W (tG 0 W H p) (y * W + x) = _
    exact grid_at W _ x y hx
  · refine ⟨rfl, rfl, by_places hW fun x y hx hy => ?_⟩
    refine (grid_at W _ x y hx).trans ?_
    show grid H (tG 1 W H p) (x * H + (H - 1 - y)) = _
    refine (grid_at H _ (H - 1 - y) x (by omega)).trans ?_
    show p ((H - 1 - (H - 1 - y)) * W + x) = _
    rw [show H - 1 - (H - 1 - y) = y by omega]
  · refine ⟨rfl, rfl, by_places hW fun x y hx hy => ?_⟩
    refine (grid_at W _ x y hx).trans ?_
    show grid W (tG 2 W H p) ((H - 1 - y) * W + (W - 1 - x)) = _
    refine (grid_at W _ (W - 1 - x) (H - 1 - y) (by omega)).trans ?_
    show p ((H - 1 - (H - 1 - y)) * W + (W - 1 - (W - 1 - x))) = _
    rw [show H - 1 - (H - 1 - y) = y by omega, show W - 1 - (W - 1 - x) = x by omega]
  · refine ⟨rfl, rfl, by_places hW fun x y hx hy => ?_⟩
    refine (grid_at W _ x y hx).trans ?_
    show grid H (tG 3 W H p) ((W - 1 - x) * H + y) = _
    refine (grid_at H _ y (W - 1 - x) (by omega)).trans ?_
    show p (y * W + (W - 1 - (W - 1 - x))) = _
    rw [show W - 1 - (W - 1 - x) = x by omega]

/-- Flipped both ways it is turned twice. -/
def fD (W H : Nat) (p : Nat → Px) : Nat → Px := grid W fun x y => p ((H - 1 - y) * W + x)
def fL (W : Nat) (p : Nat → Px) : Nat → Px := grid W fun x y => p (y * W + (W - 1 - x))
theorem flipped_back (W H : Nat) (p : Nat → Px) (hW : 1 ≤ W) : ∀ i, i < W * H → fD W H (fD W H p) i = p i := by_places hW fun x y hx hy => by
  unfold fD
  rw [grid_at _ _ _ _ hx, grid_at _ _ _ _ hx, show H - 1 - (H - 1 - y) = y by omega]
theorem flipped_both (W H : Nat) (p : Nat → Px) (hW : 1 ≤ W) : ∀ i, i < W * H → fL W (fD W H p) i = tP 2 W H p i := by_places hW fun x y hx hy => by
  have e : tW 2 W H = W := rfl
  have q := tP_at 2 W H p x y hx
  rw [e] at q
  rw [q]
  unfold fL fD
  rw [grid_at _ _ _ _ hx, grid_at _ _ _ _ (by omega)]
  rfl


end Go.Proofs.YtjcoahahponabaaGreatDoor
namespace Go.Proofs.YtjcoahahponabaaGreatDoor
open Go.RowKit

theorem turn_sides (k W H : Nat) : (tW k W H = W ∧ tW k H W = H) ∨ (tW k W H = H ∧ tW k H W = W) := by
  unfold tW
  by_cases h : k = 1 ∨ k = 3
  · right; simp [h]
  · left; simp [h]

theorem own_isPx (W H : Int) (a : Option Addr) (n c : Nat) (p : Nat → Px) (w : World) (hP : IsPx w a n p) (hn : n ≤ 100000) :
    Calls Tryz.prog 42 #[.agg #[.int .i64 W, .int .i64 H, .slice a n c]] w fun e w' => ∃ a2 c2, e = .returned (.agg #[.int .i64 W, .int .i64 H, .slice a2 n c2]) ∧ IsPx w' a2 n p ∧ Below w.heap.size w w' :=
  (own_any W H a n c p w hP hn).mono fun _ _ ⟨a2, c2, he, ho, hb⟩ => ⟨a2, c2, he, own_px ho (by unfold maxLen; omega), hb⟩

/-- A block of three cells is stored. -/
structure Put3 (w w' w0 : World) (k B : Nat) (x y z : Value) (t : TypeId) : Prop where
  size : w'.heap.size = w.heap.size
  blk : w'.heap[k]? = some (.cells #[x, y, z] t)
  rest : ∀ j, j ≠ k → w'.heap[j]? = w.heap[j]?
  below : Below B w0 w'
  px : ∀ a n (p : Nat → Px), IsPx w a n p → IsPx w' a n p
theorem set_cells {w : World} {k j : Nat} {cs : Array Value} {t : TypeId} (h : w.heap[k]? = some (.cells cs t)) (u : Value) : (w.setCell ⟨k, j, none⟩ u).heap[k]? = some (.cells (cs.setIfInBounds j u) t) := by
  simp [World.setCell, Array.getElem?_modify, h]
theorem isPx_block {w w' : World} {a : Option Addr} {n : Nat} {p : Nat → Px} (h : IsPx w a n p) (e : ∀ q, a = some q → 0 < n → w'.heap[q.block]? = w.heap[q.block]?) : IsPx w' a n p := by
  rcases h with h | ⟨b, off, ha, hl, h⟩
  · exact .inl h
  · exact .inr ⟨b, off, ha, hl, fun i hi => (h i hi).block (e _ ha (by omega))⟩
/-- Where a picture lies, no pixel does. -/
theorem px_not_pic {w : World} {k b off s1 s2 : Nat} {x y : Int} {s : Option Addr} {t : TypeId} {p : Px} (h : w.heap[k]? = some (.cells #[.int .i64 x, .int .i64 y, .slice s s1 s2] t)) (hp : PxAt w b off p) : b ≠ k := by
  rintro rfl
  have e := (blk_cell h off).symm.trans hp.r
  match off, e with
  | 0, e => simp at e
  | 1, e => simp at e
  | 2, e => simp at e
  | o + 3, e => simp at e
theorem put3 {w w0 : World} {k B s1 s2 : Nat} {a b : Int} {s : Option Addr} {t : TypeId} (h : w.heap[k]? = some (.cells #[.int .i64 a, .int .i64 b, .slice s s1 s2] t)) (x y z : Value) (hb : Below B w0 w) (hk : B ≤ k) :
    Put3 w (((w.setCell ⟨k, 0, none⟩ x).setCell ⟨k, 1, none⟩ y).setCell ⟨k, 2, none⟩ z) w0 k B x y z t := by
  have hr : ∀ j, j ≠ k → (((w.setCell ⟨k, 0, none⟩ x).setCell ⟨k, 1, none⟩ y).setCell ⟨k, 2, none⟩ z).heap[j]? = w.heap[j]? := fun j hj => by
    rw [Below.heap_setCell _ _ _ _ hj, Below.heap_setCell _ _ _ _ hj, Below.heap_setCell _ _ _ _ hj]
  exact ⟨by simp [World.setCell], set_cells (set_cells (set_cells h x) y) z, hr, ((hb.setCell (p := ⟨k, 0, none⟩) hk _).setCell (p := ⟨k, 1, none⟩) hk _).setCell (p := ⟨k, 2, none⟩) hk _, fun a n p hp => by
    rcases hp with hp | ⟨b, off, rfl, hm, hp⟩
    · exact .inl hp
    · exact .inr ⟨b, off, rfl, hm, fun i hi => (hp i hi).block (hr _ (px_not_pic h (hp i hi)))⟩⟩
/-- What several orders lead to, shown once, for any world and any block. -/
theorem once1 {G0 : Prop} {G : World → Nat → Option Addr → Nat → Prop} (F : World → Nat → Option Addr → Nat → Prop) (h : (∀ w b a c, F w b a c → G w b a c) → G0) (r : ∀ w b a c, F w b a c → G w b a c) : G0 := h r
theorem once2 {G0 : Prop} {G : World → Nat → Option Addr → Nat → Option Addr → Nat → Prop} (F : World → Nat → Option Addr → Nat → Option Addr → Nat → Prop) (h : (∀ w b a c a' c', F w b a c a' c' → G w b a c a' c') → G0) (r : ∀ w b a c a' c', F w b a c a' c' → G w b a c a' c') : G0 := h r
theorem bcell {w wx : World} {k o : Nat} {v : Value} (h : Below w.heap.size w wx) (hl : k < w.heap.size) (c : w.cell? ⟨k, o, none⟩ = some v) : wx.cell? ⟨k, o, none⟩ = some v := (h.cell (p := ⟨k, o, none⟩) hl).trans c
theorem bel_trans {w wx wy : World} (h : Below w.heap.size w wx) (hb : Below wx.heap.size wx wy) : Below w.heap.size w wy := h.trans (hb.mono h.size)
theorem set3_below {B k : Nat} {w0 w : World} (h : Below B w0 w) (hk : B ≤ k) (x y z : Value) : Below B w0 (((w.setCell ⟨k, 0, none⟩ x).setCell ⟨k, 1, none⟩ y).setCell ⟨k, 2, none⟩ z) :=
  ((h.setCell (p := ⟨k, 0, none⟩) hk _).setCell (p := ⟨k, 1, none⟩) hk _).setCell (p := ⟨k, 2, none⟩) hk _
theorem IsPx.allocP {w : World} {a : Option Addr} {n : Nat} {p : Nat → Px} (h : IsPx w a n p) (o : Obj) : IsPx (w.alloc o) a n p := h.below ((Below.refl _ _).alloc (Nat.le_refl _) _)
/-- A fresh block that stands behind calls is stored: what is known then. -/
theorem fin3 {w wx : World} {k s1 s2 : Nat} {a b : Int} {s : Option Addr} {t : TypeId} (h : wx.heap[k]? = some (.cells #[.int .i64 a, .int .i64 b, .slice s s1 s2] t)) (hb : Below w.heap.size w wx) (hk : w.heap.size ≤ k) (x y z : Value) :
    Put3 wx (((wx.setCell ⟨k, 0, none⟩ x).setCell ⟨k, 1, none⟩ y).setCell ⟨k, 2, none⟩ z) w k w.heap.size x y z t := put3 h x y z hb hk
end Go.Proofs.YtjcoahahponabaaGreatDoor
