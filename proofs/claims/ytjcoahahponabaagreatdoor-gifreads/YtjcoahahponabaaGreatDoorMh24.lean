/- Moving pictures: frames handed back: the statements' own. Moving pictures: frames of the same pictures are the same: the document's SameFrames. Pictures of one color: the document's. Moving pictures: what is written is read, as a call; a moving picture of one pixel. -/
import Derived.Test.YtjcoahahponabaaGreatDoorGs2
import Derived.Test.YtjcoahahponabaaGreatDoorMh13
import Derived.Test.YtjcoahahponabaaGreatDoorPx1
import Derived.Test.YtjcoahahponabaaGreatDoorMh10
import Derived.Test.YtjcoahahponabaaGreatDoorMh22
import Derived.Test.YtjcoahahponabaaGreatDoorGr7
namespace Go.Proofs.YtjcoahahponabaaGreatDoor
open Go.RowKit

theorem rF_info : (Tryz.prog.info? 71).map (fun i => (i.zero, i.size, i.bytes)) = some (some (.agg #[.int .i64 0, .int .i64 0, .slice none 0 0, .int .i64 0]), 4, 48) := by kernel_rfl
/-- A frame behind frames of one's own. -/
theorem wpList_appRf (w : World) {ops : Array Oper} {rest : List Oper} {o : Oper} {a : Act} {Q : Exit → Act → World → Prop} (hgd : o.guard = none) (sx x : Operand)
    (ho : o.op = .call { callee := .builtin .append, args := #[sx, x], argTypes := #[55, 55] }) (base q n c : Nat) (s : Option Addr) (F : List Value) (V : FrV) (hs : a.eval sx = .slice s n c) (hx : a.eval x = .slice (some ⟨q, 0, none⟩) 1 1)
    (hown : w.ownsRow base 71 4 (.slice s n c) n F) (hq : w.heap[q]? = some (.cells V.cells.toArray 71)) (hn : n ≤ 100000) (hbase : base ≤ w.heap.size)
    (h : ∀ g cap w', w'.ownsRow base 71 4 (.slice (some ⟨g, 0, none⟩) (n + 1) cap) (n + 1) (F ++ V.cells) → w.grownBy w' (Value.slice s n c).ownBlock → ((Value.slice s n c).ownBlock = some g ∨ g = w.heap.size) → g < w'.heap.size → wpList Tryz.prog ops Q rest (a.put o.dst (.slice (some ⟨g, 0, none⟩) (n + 1) cap)) w') : wpList Tryz.prog ops Q (o :: rest) a w := by
  obtain ⟨i0, hi, hz0, hz1, hz2⟩ := info_parts rF_info
  exact wpList_append_lies w hgd sx x 55 ho base 71 i0 _ 4 48 Tryz.underlying55 hi hz0 hz1 hz2 rfl (by omega) _ n F hs hown ⟨q, 0, none⟩ 1 1 V.cells hx rfl (fun j u hj => by
    have hadd : (⟨q, 0, none⟩ : Addr).add j = ⟨q, j, none⟩ := by unfold Addr.add; split <;> simp_all
    rw [hadd, blk_cell hq]
    simpa using hj) (fun u hu => by
    simp only [FrV.cells, List.mem_cons, List.not_mem_nil, or_false] at hu
    rcases hu with rfl | rfl | rfl | rfl <;> rfl) (by omega) (by unfold maxLen; omega) (by omega) hbase _ rfl h

/-- What the operations yield. -/
def bkS (T0 S0 : Value) (i b o : Nat) (x : FrV) : Nat → Value → World → Prop
  | 0, v, _ => v = T0
  | 1, v, _ => v = S0
  | 2, v, _ => v = .int .i64 (i : Int)
  | 3, v, _ => v = .pointer (some ⟨b, o, none⟩)
  | 4, v, _ => v = .pointer (some ⟨b, o, none⟩)
  | 5, v, _ => v = .agg #[.int .i64 x.f.W, .int .i64 x.f.H, .slice x.a x.f.n x.c]
  | 6, v, _ => v = S0
  | 7, v, _ => v = .int .i64 (i : Int)
  | 8, v, _ => v = .pointer (some ⟨b, o, none⟩)
  | 9, v, _ => v = .pointer (some ⟨b, o + 3, none⟩)
  | 10, v, _ => v = .int .i64 x.f.d
  | 11, v, _ => v = .agg #[.int .i64 x.f.W, .int .i64 x.f.H, .slice x.a x.f.n x.c, .int .i64 x.f.d]
  | 12, v, w => ∃ g, v = .slice (some ⟨g, 0, none⟩) 1 1 ∧ w.heap[g]? = some (.cells x.cells.toArray 71)
  | _, _, _ => True
theorem bkS_below (T0 S0 : Value) (i b o : Nat) (x : FrV) : ∀ k v w w', bkS T0 S0 i b o x k v w → Below w.heap.size w w' → bkS T0 S0 i b o x k v w'
  | 0, _, _, _, h, _ => h
  | 1, _, _, _, h, _ => h
  | 2, _, _, _, h, _ => h
  | 3, _, _, _, h, _ => h
  | 4, _, _, _, h, _ => h
  | 5, _, _, _, h, _ => h
  | 6, _, _, _, h, _ => h
  | 7, _, _, _, h, _ => h
  | 8, _, _, _, h, _ => h
  | 9, _, _, _, h, _ => h
  | 10, _, _, _, h, _ => h
  | 11, _, _, _, h, _ => h
  | 12, _, _, _, ⟨g, e, hk⟩, hb => ⟨g, e, blk_below hk hb (blk_lt hk)⟩
  | _ + 13, _, _, _, _, _ => trivial
theorem arr26 (tm : Array Value) (h : tm.size = 26) : ∃ v0 v1 v2 v3 v4 v5 v6 v7 v8 v9 v10 v11 v12 v13 v14 v15 v16 v17 v18 v19 v20 v21 v22 v23 v24 v25 : Value, tm = #[v0, v1, v2, v3, v4, v5, v6, v7, v8, v9, v10, v11, v12, v13, v14, v15, v16, v17, v18, v19, v20, v21, v22, v23, v24, v25] := by
  obtain ⟨l⟩ := tm
  match l, h with
  | [v0, v1, v2, v3, v4, v5, v6, v7, v8, v9, v10, v11, v12, v13, v14, v15, v16, v17, v18, v19, v20, v21, v22, v23, v24, v25], _ => exact ⟨_, _, _, _, _, _, _, _, _, _, _, _, _, _, _, _, _, _, _, _, _, _, _, _, _, _, rfl⟩

set_option maxHeartbeats 4000000 in
set_option maxRecDepth 100000 in
theorem backFrames_any (s : Option Addr) (n c : Nat) (V : Nat → FrV) (w : World) (hR : IsRw w 4 s n (fun i => (V i).cells)) (hn : n ≤ 100) :
    Calls Tryz.prog 31 #[.slice s n c] w fun e w' => ∃ (ta : Option Addr) (tc : Nat), e = .returned (.slice ta n tc) ∧ w'.ownsRow w.heap.size 71 4 (.slice ta n tc) n (rowV (fun j => (V j).cells) n) ∧ Below w.heap.size w w' := by
  have HRW := hide (fun wr (hb : Below w.heap.size w wr) => hR.below hb)
  obtain ⟨B, hB⟩ : ∃ B, B = w.heap.size := ⟨_, rfl⟩
  rw [← hB] at HRW ⊢
  have HB0 : Hid (Below B w w) := Below.refl _ _
  have HO0 : Hid (w.ownsRow B 71 4 (.slice none 0 0) 0 (rowV (fun j => (V j).cells) 0)) := World.ownsRow_nil _ _ _ _
  have hz0 : B ≤ w.heap.size := by omega
  have HBE := hide hB
  clear hR hB
  go_enter Tryz.func31, Tryz.ntmps31
  go_wp2
  go_loopw [3, 4] (fun tv iv wr => ∃ (i : Nat) (ta : Option Addr) (tc : Nat), i ≤ n ∧ iv = .int .i64 (i : Int) ∧ tv = .slice ta i tc ∧ Hid (wr.ownsRow B 71 4 (.slice ta i tc) i (rowV (fun j => (V j).cells) i)) ∧ Hid (Below B w wr) ∧ B ≤ wr.heap.size) (fun _ iv _ => n - (intOf iv).toNat)
  case atStart => exact ⟨0, none, 0, by omega, rfl, rfl, HO0, HB0, hz0⟩
  case round =>
    clear HO0 HB0 hz0
    obtain ⟨i, ta, tc, hi, rfl, rfl, HO, HB, hz⟩ := hrel
    by_cases hlt : i < n
    · have d1 : decide ((i : Int) < (n : Int)) = true := decide_eq_true (by omega)
      have d1n : decide (i < n) = true := decide_eq_true hlt
      have hii : (i : Int) < (n : Int) := by omega
      obtain ⟨b, off, rfl, _, hc⟩ := (unhide HRW wr (unhide HB)).resolve_left (by omega)
      have hv := hc i hlt
      have x0 : wr.cell? ⟨b, off + i * 4, none⟩ = some (.int .i64 (V i).f.W) := hv 0 _ rfl
      have x1 : wr.cell? ⟨b, off + i * 4 + 1, none⟩ = some (.int .i64 (V i).f.H) := hv 1 _ rfl
      have x2 : wr.cell? ⟨b, off + i * 4 + 2, none⟩ = some (.slice (V i).a (V i).f.n (V i).c) := hv 2 _ rfl
      have x3 : wr.cell? ⟨b, off + i * 4 + 3, none⟩ = some (.int .i64 (V i).f.d) := hv 3 _ rfl
      have hlb := World.block_lt_of_cell? _ _ x0
      simp only at hlb
      obtain ⟨x, hx⟩ : ∃ x, x = V i := ⟨_, rfl⟩
      rw [← hx] at x0 x1 x2 x3
      have HX := hide hx
      clear hc hv hx
      go_upto_region 5 with fail
      refine region_last2 (bkS (.slice ta i tc) (.slice (some ⟨b, off, none⟩) n c) i b (off + i * 4) x) wr.heap.size wr 26 rfl rfl (by kernel_rfl) (by kernel_rfl) (by simp) (Below.refl _ _) (Nat.le_refl _) (bkS_below _ _ _ _ _ _) ?_ ?_
      · intro k hk
        replace hk : k + 2 < 15 := by simpa using hk
        rcases k with _ | _ | _ | _ | _ | _ | _ | _ | _ | _ | _ | _ | _ | k
        · intro o ho a w hA hBw hd
          simp only [List.getElem?_toArray, List.getElem?_cons_zero, Option.some.injEq] at ho
          subst ho
          have e0 : a.tmps.getD 3 undef = .slice ta i tc := hA.far 3 (by simp)
          exact st_val2 (.slice ta i tc) (by simp [execOp, Act.eval, go_sem, e0]) rfl (Below.refl _ _)
        · intro o ho a w hA hBw hd
          simp only [List.getElem?_toArray, List.getElem?_cons_succ, List.getElem?_cons_zero, Option.some.injEq] at ho
          subst ho
          have e0 : a.tmps.getD 0 undef = .slice (some ⟨b, off, none⟩) n c := hA.far 0 (by simp)
          exact st_val2 (.slice (some ⟨b, off, none⟩) n c) (by simp [execOp, Act.eval, go_sem, e0]) rfl (Below.refl _ _)
        · intro o ho a w hA hBw hd
          simp only [List.getElem?_toArray, List.getElem?_cons_succ, List.getElem?_cons_zero, Option.some.injEq] at ho
          subst ho
          have e0 : a.tmps.getD 4 undef = .int .i64 (i : Int) := hA.far 4 (by simp)
          exact st_val2 (.int .i64 (i : Int)) (by simp [execOp, Act.eval, go_sem, e0]) rfl (Below.refl _ _)
        · intro o ho a w hA hBw hd
          simp only [List.getElem?_toArray, List.getElem?_cons_succ, List.getElem?_cons_zero, Option.some.injEq] at ho
          subst ho
          have e1 : a.tmps.getD 12 undef = .slice (some ⟨b, off, none⟩) n c := hd ⟨1, .data⟩ (by simp) rfl _ 12 rfl rfl
          have e2 : a.tmps.getD 13 undef = .int .i64 (i : Int) := hd ⟨2, .data⟩ (by simp) rfl _ 13 rfl rfl
          exact st_val2 (.pointer (some ⟨b, off + i * 4, none⟩)) (by simp [execOp, Act.eval, go_sem, e1, e2]; omega) rfl (Below.refl _ _)
        · intro o ho a w hA hBw hd
          simp only [List.getElem?_toArray, List.getElem?_cons_succ, List.getElem?_cons_zero, Option.some.injEq] at ho
          subst ho
          have e3 : a.tmps.getD 14 undef = .pointer (some ⟨b, off + i * 4, none⟩) := hd ⟨3, .data⟩ (by simp) rfl _ 14 rfl rfl
          exact st_val2 (.pointer (some ⟨b, off + i * 4, none⟩)) (by simp [execOp, Act.eval, go_sem, e3]) rfl (Below.refl _ _)
        · intro o ho a w hA hBw hd
          simp only [List.getElem?_toArray, List.getElem?_cons_succ, List.getElem?_cons_zero, Option.some.injEq] at ho
          subst ho
          have e4 : a.tmps.getD 15 undef = .pointer (some ⟨b, off + i * 4, none⟩) := hd ⟨4, .data⟩ (by simp) rfl _ 15 rfl rfl
          have c0 := (hA.below.cell (p := ⟨b, off + i * 4, none⟩) hlb).trans x0
          have c1 := (hA.below.cell (p := ⟨b, off + i * 4 + 1, none⟩) hlb).trans x1
          have c2 := (hA.below.cell (p := ⟨b, off + i * 4 + 2, none⟩) hlb).trans x2
          exact st_val2 (.agg #[.int .i64 x.f.W, .int .i64 x.f.H, .slice x.a x.f.n x.c]) (by simp [execOp, Act.eval, go_sem, e4, c0, c1, c2]) rfl (Below.refl _ _)
        · intro o ho a w hA hBw hd
          simp only [List.getElem?_toArray, List.getElem?_cons_succ, List.getElem?_cons_zero, Option.some.injEq] at ho
          subst ho
          have e0 : a.tmps.getD 0 undef = .slice (some ⟨b, off, none⟩) n c := hA.far 0 (by simp)
          exact st_val2 (.slice (some ⟨b, off, none⟩) n c) (by simp [execOp, Act.eval, go_sem, e0]) rfl (Below.refl _ _)
        · intro o ho a w hA hBw hd
          simp only [List.getElem?_toArray, List.getElem?_cons_succ, List.getElem?_cons_zero, Option.some.injEq] at ho
          subst ho
          have e0 : a.tmps.getD 4 undef = .int .i64 (i : Int) := hA.far 4 (by simp)
          exact st_val2 (.int .i64 (i : Int)) (by simp [execOp, Act.eval, go_sem, e0]) rfl (Below.refl _ _)
        · intro o ho a w hA hBw hd
          simp only [List.getElem?_toArray, List.getElem?_cons_succ, List.getElem?_cons_zero, Option.some.injEq] at ho
          subst ho
          have e6 : a.tmps.getD 17 undef = .slice (some ⟨b, off, none⟩) n c := hd ⟨6, .data⟩ (by simp) rfl _ 17 rfl rfl
          have e7 : a.tmps.getD 18 undef = .int .i64 (i : Int) := hd ⟨7, .data⟩ (by simp) rfl _ 18 rfl rfl
          exact st_val2 (.pointer (some ⟨b, off + i * 4, none⟩)) (by simp [execOp, Act.eval, go_sem, e6, e7]; omega) rfl (Below.refl _ _)
        · intro o ho a w hA hBw hd
          simp only [List.getElem?_toArray, List.getElem?_cons_succ, List.getElem?_cons_zero, Option.some.injEq] at ho
          subst ho
          have e8 : a.tmps.getD 19 undef = .pointer (some ⟨b, off + i * 4, none⟩) := hd ⟨8, .data⟩ (by simp) rfl _ 19 rfl rfl
          exact st_val2 (.pointer (some ⟨b, off + i * 4 + 3, none⟩)) (by simp [execOp, Act.eval, go_sem, e8]) rfl (Below.refl _ _)
        · intro o ho a w hA hBw hd
          simp only [List.getElem?_toArray, List.getElem?_cons_succ, List.getElem?_cons_zero, Option.some.injEq] at ho
          subst ho
          have e9 : a.tmps.getD 20 undef = .pointer (some ⟨b, off + i * 4 + 3, none⟩) := hd ⟨9, .data⟩ (by simp) rfl _ 20 rfl rfl
          have c3 := (hA.below.cell (p := ⟨b, off + i * 4 + 3, none⟩) hlb).trans x3
          exact st_val2 (.int .i64 x.f.d) (by simp [execOp, Act.eval, go_sem, e9, c3]) rfl (Below.refl _ _)
        · intro o ho a w hA hBw hd
          simp only [List.getElem?_toArray, List.getElem?_cons_succ, List.getElem?_cons_zero, Option.some.injEq] at ho
          subst ho
          have e5 : a.tmps.getD 16 undef = .agg #[.int .i64 x.f.W, .int .i64 x.f.H, .slice x.a x.f.n x.c] := hd ⟨5, .data⟩ (by simp) rfl _ 16 rfl rfl
          have e10 : a.tmps.getD 21 undef = .int .i64 x.f.d := hd ⟨10, .data⟩ (by simp) rfl _ 21 rfl rfl
          rw [Array.getD_eq_getD_getElem?] at e5 e10
          exact st_val2 (.agg #[.int .i64 x.f.W, .int .i64 x.f.H, .slice x.a x.f.n x.c, .int .i64 x.f.d]) (by simp [execOp, Act.eval, go_sem, e5, e10]) rfl (Below.refl _ _)
        · intro o ho a w hA hBw hd
          simp only [List.getElem?_toArray, List.getElem?_cons_succ, List.getElem?_cons_zero, Option.some.injEq] at ho
          subst ho
          have e11 : a.tmps.getD 22 undef = .agg #[.int .i64 x.f.W, .int .i64 x.f.H, .slice x.a x.f.n x.c, .int .i64 x.f.d] := hd ⟨11, .data⟩ (by simp) rfl _ 22 rfl rfl
          have hA1 := al1 w (.cells #[.int .i64 x.f.W, .int .i64 x.f.H, .slice x.a x.f.n x.c, .int .i64 x.f.d] 71)
          rw [Array.getD_eq_getD_getElem?] at e11
          exact st_val2 (w' := w.alloc (.cells #[.int .i64 x.f.W, .int .i64 x.f.H, .slice x.a x.f.n x.c, .int .i64 x.f.d] 71)) (.slice (some ⟨w.heap.size, 0, none⟩) 1 1) (by simp [execOp, Act.eval, go_sem, e11]) ⟨w.heap.size, rfl, hA1.k0⟩ hA1.below
        · omega
      · intro o o2 a w2 ho ho2 hA hBw hg
        have e11 : a.tmps.getD 11 undef = .slice ta i tc := hg 0 _ 11 (by simp) rfl rfl
        obtain ⟨gx, e23, hk⟩ : ∃ gx, a.tmps.getD 23 undef = .slice (some ⟨gx, 0, none⟩) 1 1 ∧ w2.heap[gx]? = some (.cells x.cells.toArray 71) := hg 12 _ 23 (by simp) rfl rfl
        have y0 : a.tmps.getD 0 undef = .slice (some ⟨b, off, none⟩) n c := hA.far 0 (by simp)
        have y1 : a.tmps.getD 1 undef = undef := hA.far 1 (by simp)
        have y2 : a.tmps.getD 2 undef = .slice none 0 0 := hA.far 2 (by simp)
        have y4 : a.tmps.getD 4 undef = .int .i64 (i : Int) := hA.far 4 (by simp)
        have y25 : a.tmps.getD 25 undef = undef := hA.far 25 (by simp)
        have hsz : a.tmps.size = 26 := hA.size
        have hdf : a.defers = [] := hA.defers
        have hbb := hA.below
        clear hA hg
        simp at ho ho2
        subst ho ho2
        refine wpList_appRf w2 rfl (.tmp 11) (.tmp 23) rfl B gx i tc ta (rowV (fun j => (V j).cells) i) x e11 e23 (own_belowG (unhide HO) hbb) hk (by omega) (by omega) ?_
        intro g cap w9 hown hgr hat hgl
        have HB9 : Hid (Below B w w9) := ((unhide HB).trans (hbb.mono hz)).grown hgr (by have := hbb.size; omega) (fun k e => ((unhide HO).lt k e).1)
        have hz9 : B ≤ w9.heap.size := by have := hgr.size; omega
        have HOn : Hid (w9.ownsRow B 71 4 (.slice (some ⟨g, 0, none⟩) (i + 1) cap) (i + 1) (rowV (fun j => (V j).cells) (i + 1))) := by
          show World.ownsRow _ _ _ _ _ _ (rowV (fun j => (V j).cells) i ++ (V i).cells)
          rw [← unhide HX]
          exact hown
        refine wpList_assign1 (.tmp 24) rfl rfl ?_
        clear hown hgr hat hgl hbb hk HO HB HX e11 e23
        obtain ⟨tm, df⟩ := a
        simp only at y0 y1 y2 y4 y25 hsz hdf
        subst hdf
        obtain ⟨v0, v1, v2, v3, v4, v5, v6, v7, v8, v9, v10, v11, v12, v13, v14, v15, v16, v17, v18, v19, v20, v21, v22, v23, v24, v25, rfl⟩ := arr26 tm hsz
        simp at y0 y1 y2 y4 y25
        subst y0 y1 y2 y4 y25
        go_wp2
        go_roundw
        case rel => exact ⟨i + 1, some ⟨g, 0, none⟩, cap, by omega, by go_num, rfl, HOn, HB9, hz9⟩
        case measure => simp [intOf]; omega
    · obtain rfl : i = n := by omega
      have d1 : decide ((i : Int) < (i : Int)) = false := by simp
      clear HRW
      go_wp2
      go_ret
      exact ⟨ta, tc, rfl, by first | exact unhide HO | (rw [← unhide HBE]; exact unhide HO), by first | exact unhide HB | (rw [← unhide HBE]; exact unhide HB)⟩
end Go.Proofs.YtjcoahahponabaaGreatDoor
namespace Go.Proofs.YtjcoahahponabaaGreatDoor
open Go.RowKit

/-- Two frames that show the same, as long. -/
def SameF (f g : Fr) : Prop := f.W = g.W ∧ f.H = g.H ∧ f.n = g.n ∧ f.d = g.d ∧ ∀ k, k < f.n → f.q k = g.q k

set_option maxHeartbeats 8000000 in
set_option maxRecDepth 100000 in
theorem sameFrames_any (s t : Option Addr) (n c d : Nat) (V U : Nat → FrV) (w : World) (hR : IsRw w 4 s n (fun i => (V i).cells)) (hT : IsRw w 4 t n (fun i => (U i).cells)) (hV : ∀ i, i < n → (V i).in w) (hU : ∀ i, i < n → (U i).in w)
    (he : ∀ i, i < n → SameF (V i).f (U i).f) (hn : n ≤ 100) (hZ : ∀ i, i < n → (V i).f.n ≤ 100000) :
    Calls Tryz.prog 56 #[.slice s n c, .slice t n d] w fun e w' => e = .returned (.bool true) ∧ Below w.heap.size w w' := by
  have HRW := hide (fun wr (hb : Below w.heap.size w wr) => hR.below hb)
  have HTW := hide (fun wr (hb : Below w.heap.size w wr) => hT.below hb)
  have HVW := hide (fun wr (hb : Below w.heap.size w wr) i (hi : i < n) => (hV i hi).below hb)
  have HUW := hide (fun wr (hb : Below w.heap.size w wr) i (hi : i < n) => (hU i hi).below hb)
  have HE := hide he
  have HZ := hide hZ
  obtain ⟨B, hB⟩ : ∃ B, B = w.heap.size := ⟨_, rfl⟩
  rw [← hB] at HRW HTW HVW HUW ⊢
  have HB0 : Hid (Below B w w) := Below.refl _ _
  have hz0 : B ≤ w.heap.size := by omega
  clear hR hT hV hU he hZ hB
  go_enter Tryz.func56, Tryz.ntmps56
  go_wp2
  go_loopw [5] (fun iv wr => ∃ (i : Nat), i ≤ n ∧ iv = .int .i64 (i : Int) ∧ Hid (Below B w wr) ∧ B ≤ wr.heap.size) (fun iv _ => n - (intOf iv).toNat)
  case atStart => exact ⟨0, by omega, rfl, HB0, hz0⟩
  case round =>
    clear HB0 hz0
    obtain ⟨i, hi, rfl, HB, hz⟩ := hrel
    by_cases hlt : i < n
    · have d1 : decide ((i : Int) < (n : Int)) = true := decide_eq_true (by omega)
      have d1n : decide (i < n) = true := decide_eq_true hlt
      have hii : (i : Int) < (n : Int) := by omega
      obtain ⟨b, off, rfl, _, hc⟩ := (unhide HRW wr (unhide HB)).resolve_left (by omega)
      obtain ⟨b2, off2, rfl, _, hc2⟩ := (unhide HTW wr (unhide HB)).resolve_left (by omega)
      obtain ⟨e1, e2, e3, e4, e5⟩ := unhide HE i hlt
      have hv := hc i hlt
      have hv2 := hc2 i hlt
      have x0 : wr.cell? ⟨b, off + i * 4, none⟩ = some (.int .i64 (V i).f.W) := hv 0 _ rfl
      have x1 : wr.cell? ⟨b, off + i * 4 + 1, none⟩ = some (.int .i64 (V i).f.H) := hv 1 _ rfl
      have x2 : wr.cell? ⟨b, off + i * 4 + 2, none⟩ = some (.slice (V i).a (V i).f.n (V i).c) := hv 2 _ rfl
      have x3 : wr.cell? ⟨b, off + i * 4 + 3, none⟩ = some (.int .i64 (V i).f.d) := hv 3 _ rfl
      have y0 : wr.cell? ⟨b2, off2 + i * 4, none⟩ = some (.int .i64 (V i).f.W) := by rw [e1]; exact hv2 0 _ rfl
      have y1 : wr.cell? ⟨b2, off2 + i * 4 + 1, none⟩ = some (.int .i64 (V i).f.H) := by rw [e2]; exact hv2 1 _ rfl
      have y2 : wr.cell? ⟨b2, off2 + i * 4 + 2, none⟩ = some (.slice (U i).a (V i).f.n (U i).c) := by rw [e3]; exact hv2 2 _ rfl
      have y3 : wr.cell? ⟨b2, off2 + i * 4 + 3, none⟩ = some (.int .i64 (V i).f.d) := by rw [e4]; exact hv2 3 _ rfl
      have HCK := hide (fun wx (hb : Below wr.heap.size wr wx) => samePicture_any (V i).f.W (V i).f.H (V i).a (U i).a (V i).f.n (V i).c (U i).c (V i).f.q wx (((unhide HVW wr (unhide HB) i hlt)).below hb)
        (by have h := ((unhide HUW wr (unhide HB) i hlt)).below hb; unfold FrV.in at h; rw [← e3] at h; exact h.congr (fun k hk => (e5 k hk).symm)) (unhide HZ i hlt))
      have hlb := World.block_lt_of_cell? _ _ x0
      have hlb2 := World.block_lt_of_cell? _ _ y0
      simp only at hlb hlb2
      have hKS := hide (fun wx (h : Below wr.heap.size wr wx) => (⟨bcell h hlb x0, bcell h hlb x1, bcell h hlb x2, bcell h hlb x3, bcell h hlb2 y0, bcell h hlb2 y1, bcell h hlb2 y2, bcell h hlb2 y3⟩ : wx.cell? ⟨b, off + i * 4, none⟩ = some (.int .i64 (V i).f.W) ∧ wx.cell? ⟨b, off + i * 4 + 1, none⟩ = some (.int .i64 (V i).f.H) ∧ wx.cell? ⟨b, off + i * 4 + 2, none⟩ = some (.slice (V i).a (V i).f.n (V i).c) ∧ wx.cell? ⟨b, off + i * 4 + 3, none⟩ = some (.int .i64 (V i).f.d) ∧ wx.cell? ⟨b2, off2 + i * 4, none⟩ = some (.int .i64 (V i).f.W) ∧ wx.cell? ⟨b2, off2 + i * 4 + 1, none⟩ = some (.int .i64 (V i).f.H) ∧ wx.cell? ⟨b2, off2 + i * 4 + 2, none⟩ = some (.slice (U i).a (V i).f.n (U i).c) ∧ wx.cell? ⟨b2, off2 + i * 4 + 3, none⟩ = some (.int .i64 (V i).f.d)))
      have hdr := (Below.refl wr.heap.size wr).drew
      clear hc hc2 hv hv2 e1 e2 e3 e4 e5
      generalize (V i).f.W = fW at *
      generalize (V i).f.H = fH at *
      generalize (V i).f.d = fd at *
      generalize (V i).f.n = fn at *
      generalize (V i).a = fa at *
      generalize (V i).c = fc at *
      generalize (U i).a = ga at *
      generalize (U i).c = gc at *
      go_upto_region 6 with fail
      apply onceE (fun wf => Below wr.heap.size wr wf)
      · intro hrest
        go_wp2_with fail
        go_region_held (fun w' => w'.cell? ⟨b, off + i * 4, none⟩ = some (.int .i64 fW) ∧ w'.cell? ⟨b, off + i * 4 + 1, none⟩ = some (.int .i64 fH) ∧ w'.cell? ⟨b, off + i * 4 + 2, none⟩ = some (.slice fa fn fc) ∧ w'.cell? ⟨b, off + i * 4 + 3, none⟩ = some (.int .i64 fd) ∧ w'.cell? ⟨b2, off2 + i * 4, none⟩ = some (.int .i64 fW) ∧ w'.cell? ⟨b2, off2 + i * 4 + 1, none⟩ = some (.int .i64 fH) ∧ w'.cell? ⟨b2, off2 + i * 4 + 2, none⟩ = some (.slice ga fn gc) ∧ w'.cell? ⟨b2, off2 + i * 4 + 3, none⟩ = some (.int .i64 fd)) (exact unhide hKS _ (by (first | with_reducible exact hq6 | with_reducible exact hdr | with_reducible exact hq6.drew | with_reducible exact Below.refl _ _))) ((go_at_call 32; refine (unhide HCK _ (by (first | with_reducible exact hq6 | with_reducible exact hdr | with_reducible exact hq6.drew | with_reducible exact Below.refl _ _))).mono ?_; rintro e w6 ⟨rfl, hb6⟩; have hq6 := bel_trans (w := wr) (by (first | with_reducible exact hq6 | with_reducible exact hdr | with_reducible exact hq6.drew | with_reducible exact Below.refl _ _)) hb6))
        all_goals exact hrest _ (by (first | with_reducible exact hq6 | with_reducible exact hdr | with_reducible exact hq6.drew | with_reducible exact Below.refl _ _))
      rintro w9 hb9
      have HB9 := hide ((unhide HB).trans (hb9.mono hz))
      have hz9 : B ≤ w9.heap.size := by have := hb9.size; omega
      clear HCK HB hb9 hKS hdr x0 x1 x2 x3 y0 y1 y2 y3
      go_wp2
      go_roundw
      case rel => exact ⟨i + 1, by omega, by go_num, HB9, hz9⟩
      case measure => simp [intOf]; omega
    · obtain rfl : i = n := by omega
      have d1 : decide ((i : Int) < (i : Int)) = false := by simp
      have HBw := hide (unhide HB)
      clear HRW HTW HVW HUW HE HZ
      go_wp2
      go_ret
      exact ⟨rfl, unhide HBw⟩
end Go.Proofs.YtjcoahahponabaaGreatDoor
namespace Go.Proofs.YtjcoahahponabaaGreatDoor
open Go.RowKit

set_option maxHeartbeats 4000000 in
set_option maxRecDepth 100000 in
theorem blankC_any (W H : Nat) (q : Px) (w : World) (hW : W ≤ 256) (hH : H ≤ 256) :
    Calls Tryz.prog 35 #[.int .i64 (W : Int), .int .i64 (H : Int), q.val] w fun e w' => ∃ g, e = .returned (.agg #[.int .i64 (W : Int), .int .i64 (H : Int), .slice (some ⟨g, 0, none⟩) (W * H) (W * H)]) ∧ w.heap.size ≤ g ∧ PR w' g (W * H) (fun _ => q) ∧ Below w.heap.size w w' := by
  have hMb : W * H ≤ 65536 := Nat.mul_le_mul hW hH
  obtain ⟨M, hM⟩ : ∃ M, M = W * H := ⟨_, rfl⟩
  have zM : (W : Int) * (H : Int) = (M : Int) := by rw [hM]; simp
  rw [← hM] at hMb ⊢
  have wM : IntKind.i64.wrap (M : Int) = (M : Int) := by rw [IntKind.wrap_i64]; omega
  have hmk := make_pxn M (by omega)
  have HA := hide (al4 w (.cells #[.int .u8 (q.r.toNat : Int), .int .u8 (q.g.toNat : Int), .int .u8 (q.b.toNat : Int), .int .u8 (q.a.toNat : Int)] 78) (.cells #[.int .i64 0, .int .i64 0, .slice none 0 0] 27) (.cells (madeCells #[.int .u8 0, .int .u8 0, .int .u8 0, .int .u8 0] (M * 4)) 78) (.cells #[.int .i64 (W : Int), .int .i64 (H : Int), .slice (some ⟨w.heap.size + 1 + 1, 0, none⟩) M M] 27))
  have HP : Hid (∀ o0 o1 o3, PR ((((w.alloc o0).alloc o1).alloc (.cells (madeCells #[.int .u8 0, .int .u8 0, .int .u8 0, .int .u8 0] (M * 4)) 78)).alloc o3) (w.heap.size + 1 + 1) M (fun _ => px0)) := fun o0 o1 o3 => by
    have h := made_PR ((w.alloc o0).alloc o1) M
    have e : ((w.alloc o0).alloc o1).heap.size = w.heap.size + 1 + 1 := by simp
    rw [e] at h
    exact h.block (Below.heap_alloc _ _ _ h.lt)
  unfold Px.val
  obtain ⟨B, hB⟩ : ∃ B, B = w.heap.size := ⟨_, rfl⟩
  clear hM
  go_enter Tryz.func35, Tryz.ntmps35
  go_wp2
  have HP2 := hide (unhide HP (.cells #[.int .u8 (q.r.toNat : Int), .int .u8 (q.g.toNat : Int), .int .u8 (q.b.toNat : Int), .int .u8 (q.a.toNat : Int)] 78) (.cells #[.int .i64 0, .int .i64 0, .slice none 0 0] 27) (.cells #[.int .i64 (W : Int), .int .i64 (H : Int), .slice (some ⟨w.heap.size + 1 + 1, 0, none⟩) M M] 27))
  clear HP hmk
  generalize (((w.alloc (.cells #[.int .u8 (q.r.toNat : Int), .int .u8 (q.g.toNat : Int), .int .u8 (q.b.toNat : Int), .int .u8 (q.a.toNat : Int)] 78)).alloc (.cells #[.int .i64 0, .int .i64 0, .slice none 0 0] 27)).alloc (.cells (madeCells #[.int .u8 0, .int .u8 0, .int .u8 0, .int .u8 0] (M * 4)) 78)).alloc (.cells #[.int .i64 (W : Int), .int .i64 (H : Int), .slice (some ⟨w.heap.size + 1 + 1, 0, none⟩) M M] 27) = w4 at *
  rw [← hB] at HA HP2 ⊢
  obtain ⟨hs4, k0, k1, _, k3, hb4⟩ := unhide HA
  have HBE := hide hB
  have K0 := hide k0
  have K1 := hide k1
  have K3 := hide k3
  have HB4 := hide hb4
  clear HA hB k0 k1 k3 hb4 hs4
  go_loopw [8] (fun iv wr => ∃ (i : Nat) (p : Nat → Px), i ≤ M ∧ iv = .int .i64 (i : Int) ∧ Hid (PR wr (B + 1 + 1) M p) ∧ Hid (∀ j, j < i → p j = q) ∧ Hid (Below B w wr) ∧ Hid (wr.heap[B]? = some (.cells #[.int .u8 (q.r.toNat : Int), .int .u8 (q.g.toNat : Int), .int .u8 (q.b.toNat : Int), .int .u8 (q.a.toNat : Int)] 78)) ∧ Hid (wr.heap[B + 1]? = some (.cells #[.int .i64 0, .int .i64 0, .slice none 0 0] 27)) ∧ Hid (wr.heap[B + 3]? = some (.cells #[.int .i64 (W : Int), .int .i64 (H : Int), .slice (some ⟨B + 1 + 1, 0, none⟩) M M] 27))) (fun iv _ => M - (intOf iv).toNat)
  case atStart => exact ⟨0, _, by omega, rfl, HP2, fun j hj => by omega, HB4, K0, K1, K3⟩
  case round =>
    clear HP2 HB4 K0 K1 K3
    obtain ⟨i, p, hi, rfl, HP, HQ, HB, K0, K1, K3⟩ := hrel
    have c30 : wr.cell? ⟨B + 3, 0, none⟩ = some (.int .i64 (W : Int)) := blk_cell (unhide K3) 0
    have c31 : wr.cell? ⟨B + 3, 1, none⟩ = some (.int .i64 (H : Int)) := blk_cell (unhide K3) 1
    have c32 : wr.cell? ⟨B + 3, 2, none⟩ = some (.slice (some ⟨B + 1 + 1, 0, none⟩) M M) := blk_cell (unhide K3) 2
    by_cases hlt : i < M
    · have d1 : decide ((i : Int) < (M : Int)) = true := by simp; omega
      have d1n : decide (i < M) = true := decide_eq_true hlt
      have c0 : wr.cell? ⟨B, 0, none⟩ = some (.int .u8 (q.r.toNat : Int)) := blk_cell (unhide K0) 0
      have c1 : wr.cell? ⟨B, 1, none⟩ = some (.int .u8 (q.g.toNat : Int)) := blk_cell (unhide K0) 1
      have c2 : wr.cell? ⟨B, 2, none⟩ = some (.int .u8 (q.b.toNat : Int)) := blk_cell (unhide K0) 2
      have c3 : wr.cell? ⟨B, 3, none⟩ = some (.int .u8 (q.a.toNat : Int)) := blk_cell (unhide K0) 3
      obtain ⟨t0, t1, t2, t3⟩ := (unhide HP).px i hlt
      have f0 := (unhide HP).fr (i * 4)
      have f1 := (unhide HP).fr (i * 4 + 1)
      have f2 := (unhide HP).fr (i * 4 + 2)
      have f3 := (unhide HP).fr (i * 4 + 3)
      have hiM : (i : Int) < (M : Int) := by omega
      go_wp2
      go_roundw
      case rel =>
        refine ⟨i + 1, updP p i q, by omega, by go_num, (unhide HP).put hlt q, ?_, put4_below (unhide HB) (by omega) q, (put4_far _ _ _ _ _ (by omega)).trans (unhide K0), (put4_far _ _ _ _ _ (by omega)).trans (unhide K1), (put4_far _ _ _ _ _ (by omega)).trans (unhide K3)⟩
        intro j hj
        unfold updP
        by_cases e : j = i
        · rw [if_pos e]
        · rw [if_neg e]; exact unhide HQ j (by omega)
      case measure => simp [intOf]; omega
    · obtain rfl : i = M := by omega
      have d1 : decide ((i : Int) < (i : Int)) = false := by simp
      have r0 := blk_frozen (unhide K1) 0
      have r1 := blk_frozen (unhide K1) 1
      have r2 := blk_frozen (unhide K1) 2
      have s0 : wr.cell? ⟨B + 1, 0, none⟩ = some (.int .i64 0) := blk_cell (unhide K1) 0
      have s1 : wr.cell? ⟨B + 1, 1, none⟩ = some (.int .i64 0) := blk_cell (unhide K1) 1
      have s2 : wr.cell? ⟨B + 1, 2, none⟩ = some (.slice none 0 0) := blk_cell (unhide K1) 2
      have hl : B + 1 < wr.heap.size := blk_lt (unhide K1)
      have HF := hide (((unhide HP).congr (q := fun _ => q) (fun j hj => unhide HQ j hj)))
      clear K0 K1 K3 HP HQ
      go_wp2
      refine bodyPost_ret (v := .agg #[.int .i64 (W : Int), .int .i64 (H : Int), .slice (some ⟨B + 1 + 1, 0, none⟩) i i]) ?_ rfl ⟨B + 1 + 1, rfl, ?_, ?_, ?_⟩
      · rw [results_cellP (p := 6) (ty := 27) (by kernel_rfl)]
        go_simp
      · rw [← unhide HBE]; omega
      · exact (unhide HF).block (by rw [Below.heap_setCell _ _ _ _ (by show B + 1 + 1 ≠ B + 1; omega), Below.heap_setCell _ _ _ _ (by show B + 1 + 1 ≠ B + 1; omega), Below.heap_setCell _ _ _ _ (by show B + 1 + 1 ≠ B + 1; omega)])
      · rw [← unhide HBE]
        exact (((unhide HB).setCell (p := ⟨B + 1, 0, none⟩) (by show B ≤ B + 1; omega) _).setCell (p := ⟨B + 1, 1, none⟩) (by show B ≤ B + 1; omega) _).setCell (p := ⟨B + 1, 2, none⟩) (by show B ≤ B + 1; omega) _
theorem blankP_any (W H : Nat) (q : Px) (w : World) (hW : W ≤ 256) (hH : H ≤ 256) :
    Calls Tryz.prog 35 #[.int .i64 (W : Int), .int .i64 (H : Int), q.val] w fun e w' => ∃ g c, e = .returned (.agg #[.int .i64 (W : Int), .int .i64 (H : Int), .slice (some ⟨g, 0, none⟩) (W * H) c]) ∧ w.heap.size ≤ g ∧ PR w' g (W * H) (fun _ => q) ∧ Below w.heap.size w w' := by
  refine (blankC_any W H q w hW hH).mono ?_
  rintro e w' ⟨g, h⟩
  exact ⟨g, _, h⟩
end Go.Proofs.YtjcoahahponabaaGreatDoor
namespace Go.Proofs.YtjcoahahponabaaGreatDoor
open Go.RowKit Lz

theorem tfOk_of {f g : Fr} (h : frE f g = 0) : TfOk f.tf := by
  obtain ⟨h1, _, _, h4, h5, _, h7⟩ := frE_zero h
  have hn := right_few h1
  refine ⟨?_, ?_, ?_, h7, ulk_one _ hn.2, by show (nmL _ _).length ≤ _; rw [nmL_length]; omega, nmL_lt _ _⟩
  · have := h1.1; show 1 ≤ f.W.toNat ∧ f.W.toNat ≤ 256; omega
  · have := h1.2.1; show 1 ≤ f.H.toNat ∧ f.H.toNat ≤ 256; omega
  · show f.d.toNat ≤ 65535; omega
theorem tfsF_length (V : Nat → FrV) (n : Nat) : (tfsF V n).length = n := by unfold tfsF; rw [List.length_map, List.length_range]
theorem frE_n {f g : Fr} (h : frE f g = 0) (h0 : frE g g = 0) : f.n = g.n := frE_same h h0
/-- How long the text is, at most. -/
theorem gif_le (V : Nat → FrV) (n lp : Nat) (he : ∀ j, j < n → frE (V j).f (V 0).f = 0) (h1 : 1 ≤ n) : (gifL (V 0).f.W.toNat (V 0).f.H.toNat (tfsF V n) lp).length ≤ (6 * (V 0).f.n + 1000) * n + 100 := by
  have h := frsL_le (tfsF V n) (V 0).f.n (fun T hT => by
    obtain ⟨j, hj, rfl⟩ := List.mem_map.1 hT
    have hj := List.mem_range.1 hj
    refine ⟨tfOk_of (he j hj), ?_⟩
    show (nmL _ _).length = _
    rw [nmL_length]
    exact frE_same (he j hj) (he 0 (by omega)))
  rw [tfsF_length] at h
  have hb : (beginL (V 0).f.W.toNat (V 0).f.H.toNat).length = 13 := rfl
  have hl : (if 1 < (tfsF V n).length then loopL lp else []).length ≤ 19 := by split <;> simp [loopL, pairL]
  unfold gifL
  simp only [List.length_append, hb, List.length_cons, List.length_nil]
  omega
/-- And at least. -/
theorem gif_ge (V : Nat → FrV) (lp : Nat) : 30 ≤ (gifL (V 0).f.W.toNat (V 0).f.H.toNat (tfsF V 1) lp).length := by
  have hb : (beginL (V 0).f.W.toNat (V 0).f.H.toNat).length = 13 := rfl
  have hh : (hdL (V 0).f.tf).length = 18 := rfl
  have e : tfsF V 1 = [(V 0).f.tf] := rfl
  rw [e]
  unfold gifL
  simp only [List.length_append, hb, List.length_cons, List.length_nil]
  have : (frsL [(V 0).f.tf]).length ≥ 18 := by
    show (frL _ ++ []).length ≥ 18
    unfold frL
    simp only [List.length_append, hh]
    omega
  omega

/-- A frame as it is read again: what covers nothing has no color. -/
def BackF (f g : Fr) : Prop := f.W = g.W ∧ f.H = g.H ∧ f.n = g.n ∧ f.d = g.d ∧ ∀ k, k < f.n → f.q k = clQ g.q k

/-- What is written is read. -/
theorem gback_any (V : Nat → FrV) (n lp : Nat) (w : World) (aS : Nat → Addr) (hS : Told w [1, 2, 6] aS) {tE : TypeId} {xE : Value} (hG : GT w tE xE) (hn : 10 ≤ w.heap.size) (hl : lp < 65536) (hf : fewP n (V 0).f) (he : ∀ j, j < n → frE (V j).f (V 0).f = 0) (hm : (V 0).f.n * n ≤ 24000) :
    Calls Tryz.prog 29 #[.string ⟨(gifL (V 0).f.W.toNat (V 0).f.H.toNat (tfsF V n) lp).toArray⟩] w fun e w' => ∃ (ta : Option Addr) (tc : Nat) (U : Nat → FrV), e = .returned (.tuple #[.slice ta n tc, .int .i64 ((if 1 < n then lp else 0 : Nat) : Int), .nilIface]) ∧ IsRw w' 4 ta n (fun j => (U j).cells) ∧ (∀ j, j < n → (U j).in w' ∧ BackF (U j).f (V j).f) ∧ Below w.heap.size w w' := by
  have hn1 := hf.1
  have hle := gif_le V n lp he hn1.1
  have hm1 : (V 0).f.n ≤ 24000 := Nat.le_trans (Nat.le_mul_of_pos_right _ (by omega)) hm
  rw [Nat.add_mul, Nat.mul_assoc] at hle
  obtain ⟨F, hA, eW, eH, eL, eO, eF, hOk⟩ := told_back V n lp hl hf he hm1
  obtain ⟨r1, _⟩ := frE_zero (he 0 (by omega))
  generalize hs : gifL (V 0).f.W.toNat (V 0).f.H.toNat (tfsF V n) lp = s at *
  have hb : bl ⟨s.toArray⟩ = s := by simp [bl]
  refine (gread_any ⟨s.toArray⟩ w aS hS hG (by show s.toArray.size ≤ _; rw [List.size_toArray]; omega) hn).mono ?_
  rintro e w' ⟨hr, hbw⟩
  rw [hb] at hr
  rcases hr with ⟨F', ta, tc, U, hA', _, _, rfl, hR, hU⟩ | ⟨hN, _⟩
  · rw [hA] at hA'
    injection hA' with hA'
    subst hA'
    rw [eL] at hR hU
    refine ⟨ta, tc, U, by rw [eL, eO], hR, fun j hj => ?_, hbw⟩
    obtain ⟨⟨f, a, c, q1, q2, _, _⟩, hin⟩ := hU j hj
    rw [eF j hj] at q1
    injection q1 with q1
    subst q1
    obtain ⟨g1, g2, g3, g4, _⟩ := frE_zero (he j hj)
    have hWn : (((V 0).f.W.toNat : Nat) : Int) = (V 0).f.W := Int.toNat_of_nonneg (by have := r1.1; omega)
    have hHn : (((V 0).f.H.toNat : Nat) : Int) = (V 0).f.H := Int.toNat_of_nonneg (by have := r1.2.1; omega)
    have hdn : (((V j).f.d.toNat : Nat) : Int) = (V j).f.d := Int.toNat_of_nonneg g4
    have hUf : (U j).f = clF (V 0).f.W.toNat (V 0).f.H.toNat (V j).f := by rw [q2, eW, eH]; rfl
    refine ⟨hin, ?_⟩
    rw [hUf]
    refine ⟨?_, ?_, clF_n _ _ _, hdn, fun k hk => clF_q _ _ _ (by rw [clF_n] at hk; exact hk)⟩
    · rw [g2]; exact hWn
    · rw [g3]; exact hHn
  · exfalso
    refine hN F (fun j => rfV F.W F.H (F.L.getD j ⟨0, []⟩) none 0) hA (fun j hj => ⟨F.L.getD j ⟨0, []⟩, none, 0, ?_, rfl⟩) (hOk _ (fun j hj => ⟨F.L.getD j ⟨0, []⟩, none, 0, ?_, rfl⟩))
    · rw [List.getD_eq_getElem?_getD, List.getElem?_eq_getElem hj]; rfl
    · rw [List.getD_eq_getElem?_getD, List.getElem?_eq_getElem hj]; rfl
end Go.Proofs.YtjcoahahponabaaGreatDoor
