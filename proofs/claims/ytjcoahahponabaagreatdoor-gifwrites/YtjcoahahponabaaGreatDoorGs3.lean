/- Moving pictures: frames handed back: the statements' own. -/
import Derived.Test.YtjcoahahponabaaGreatDoorGs2
namespace Go.Proofs.YtjcoahahponabaaGreatDoor
open Go.RowKit

theorem rF_info : (Tryz.prog.info? 71).map (fun i => (i.zero, i.size, i.bytes)) = some (some (.agg #[.int .i64 0, .int .i64 0, .slice none 0 0, .int .i64 0]), 4, 48) := by kernel_rfl
/-- A frame behind frames of one's own. -/
theorem wpList_appRf (w : World) {ops : Array Oper} {rest : List Oper} {o : Oper} {a : Act} {Q : Exit → Act → World → Prop} (hgd : o.guard = none) (sx x : Operand)
    (ho : o.op = .call { callee := .builtin .append, args := #[sx, x], argTypes := #[55, 55] }) (base q n c : Nat) (s : Option Addr) (F : List Value) (V : FrV) (hs : a.eval sx = .slice s n c) (hx : a.eval x = .slice (some ⟨q, 0, none⟩) 1 1)
    (hown : w.ownsRow base 71 4 (.slice s n c) n F) (hq : w.heap[q]? = some (.cells V.cells.toArray 71)) (hn : n ≤ 100000) (hbase : base ≤ w.heap.size)
    (h : ∀ g cap w', w'.ownsRow base 71 4 (.slice (some ⟨g, 0, none⟩) (n + 1) cap) (n + 1) (F ++ V.cells) → w.grownBy w' (Value.slice s n c).ownBlock → ((Value.slice s n c).ownBlock = some g ∨ g = w.heap.size) → g < w'.heap.size → wpList Tryz.prog ops Q rest (a.put o.dst (.slice (some ⟨g, 0, none⟩) (n + 1) cap)) w') : wpList Tryz.prog ops Q (o :: rest) a w := by
  obtain ⟨i0, hi, hz0, hz1, hz2⟩ := info_parts rF_info
  exact wpList_append_lies w hgd sx x 55 ho base 71 i0 _ 4 48 Tryz.underlying55 hi hz0 hz1 hz2 rfl (by omega) _ n F hs hown ⟨q, 0, none⟩ 1 1 V.cells hx rfl (fun j u hj => by
    have hadd : (⟨q, 0, none⟩ : Addr).add j = ⟨q, j, none⟩ := by unfold Addr.add; split <;> simp_all
    rw [hadd, blk_cell hq]
    simpa using hj) (fun u hu => by
    simp only [FrV.cells, List.mem_cons, List.not_mem_nil, or_false] at hu
    rcases hu with rfl | rfl | rfl | rfl <;> rfl) (by omega) (by unfold maxLen; omega) (by omega) hbase _ rfl h

/-- What the operations yield. -/
def bkS (T0 S0 : Value) (i b o : Nat) (x : FrV) : Nat → Value → World → Prop
  | 0, v, _ => v = T0
  | 1, v, _ => v = S0
  | 2, v, _ => v = .int .i64 (i : Int)
  | 3, v, _ => v = .pointer (some ⟨b, o, none⟩)
  | 4, v, _ => v = .pointer (some ⟨b, o, none⟩)
  | 5, v, _ => v = .agg #[.int .i64 x.f.W, .int .i64 x.f.H, .slice x.a x.f.n x.c]
  | 6, v, _ => v = S0
  | 7, v, _ => v = .int .i64 (i : Int)
  | 8, v, _ => v = .pointer (some ⟨b, o, none⟩)
  | 9, v, _ => v = .pointer (some ⟨b, o + 3, none⟩)
  | 10, v, _ => v = .int .i64 x.f.d
  | 11, v, _ => v = .agg #[.int .i64 x.f.W, .int .i64 x.f.H, .slice x.a x.f.n x.c, .int .i64 x.f.d]
  | 12, v, w => ∃ g, v = .slice (some ⟨g, 0, none⟩) 1 1 ∧ w.heap[g]? = some (.cells x.cells.toArray 71)
  | _, _, _ => True
theorem bkS_below (T0 S0 : Value) (i b o : Nat) (x : FrV) : ∀ k v w w', bkS T0 S0 i b o x k v w → Below w.heap.size w w' → bkS T0 S0 i b o x k v w'
  | 0, _, _, _, h, _ => h
  | 1, _, _, _, h, _ => h
  | 2, _, _, _, h, _ => h
  | 3, _, _, _, h, _ => h
  | 4, _, _, _, h, _ => h
  | 5, _, _, _, h, _ => h
  | 6, _, _, _, h, _ => h
  | 7, _, _, _, h, _ => h
  | 8, _, _, _, h, _ => h
  | 9, _, _, _, h, _ => h
  | 10, _, _, _, h, _ => h
  | 11, _, _, _, h, _ => h
  | 12, _, _, _, ⟨g, e, hk⟩, hb => ⟨g, e, blk_below hk hb (blk_lt hk)⟩
  | _ + 13, _, _, _, _, _ => trivial
theorem arr26 (tm : Array Value) (h : tm.size = 26) : ∃ v0 v1 v2 v3 v4 v5 v6 v7 v8 v9 v10 v11 v12 v13 v14 v15 v16 v17 v18 v19 v20 v21 v22 v23 v24 v25 : Value, tm = #[v0, v1, v2, v3, v4, v5, v6, v7, v8, v9, v10, v11, v12, v13, v14, v15, v16, v17, v18, v19, v20, v21, v22, v23, v24, v25] := by
  obtain ⟨l⟩ := tm
  match l, h with
  | [v0, v1, v2, v3, v4, v5, v6, v7, v8, v9, v10, v11, v12, v13, v14, v15, v16, v17, v18, v19, v20, v21, v22, v23, v24, v25], _ => exact ⟨_, _, _, _, _, _, _, _, _, _, _, _, _, _, _, _, _, _, _, _, _, _, _, _, _, _, rfl⟩

set_option maxHeartbeats 4000000 in
set_option maxRecDepth 100000 in
theorem backFrames_any (s : Option Addr) (n c : Nat) (V : Nat → FrV) (w : World) (hR : IsRw w 4 s n (fun i => (V i).cells)) (hn : n ≤ 100) :
    Calls Tryz.prog 31 #[.slice s n c] w fun e w' => ∃ (ta : Option Addr) (tc : Nat), e = .returned (.slice ta n tc) ∧ w'.ownsRow w.heap.size 71 4 (.slice ta n tc) n (rowV (fun j => (V j).cells) n) ∧ Below w.heap.size w w' := by
  have HRW := hide (fun wr (hb : Below w.heap.size w wr) => hR.below hb)
  obtain ⟨B, hB⟩ : ∃ B, B = w.heap.size := ⟨_, rfl⟩
  rw [← hB] at HRW ⊢
  have HB0 : Hid (Below B w w) := Below.refl _ _
  have HO0 : Hid (w.ownsRow B 71 4 (.slice none 0 0) 0 (rowV (fun j => (V j).cells) 0)) := World.ownsRow_nil _ _ _ _
  have hz0 : B ≤ w.heap.size := by omega
  have HBE := hide hB
  clear hR hB
  go_enter Tryz.func31, Tryz.ntmps31
  go_wp2
  go_loopw [3, 4] (fun tv iv wr => ∃ (i : Nat) (ta : Option Addr) (tc : Nat), i ≤ n ∧ iv = .int .i64 (i : Int) ∧ tv = .slice ta i tc ∧ Hid (wr.ownsRow B 71 4 (.slice ta i tc) i (rowV (fun j => (V j).cells) i)) ∧ Hid (Below B w wr) ∧ B ≤ wr.heap.size) (fun _ iv _ => n - (intOf iv).toNat)
  case atStart => exact ⟨0, none, 0, by omega, rfl, rfl, HO0, HB0, hz0⟩
  case round =>
    clear HO0 HB0 hz0
    obtain ⟨i, ta, tc, hi, rfl, rfl, HO, HB, hz⟩ := hrel
    by_cases hlt : i < n
    · have d1 : decide ((i : Int) < (n : Int)) = true := decide_eq_true (by omega)
      have d1n : decide (i < n) = true := decide_eq_true hlt
      have hii : (i : Int) < (n : Int) := by omega
      obtain ⟨b, off, rfl, _, hc⟩ := (unhide HRW wr (unhide HB)).resolve_left (by omega)
      have hv := hc i hlt
      have x0 : wr.cell? ⟨b, off + i * 4, none⟩ = some (.int .i64 (V i).f.W) := hv 0 _ rfl
      have x1 : wr.cell? ⟨b, off + i * 4 + 1, none⟩ = some (.int .i64 (V i).f.H) := hv 1 _ rfl
      have x2 : wr.cell? ⟨b, off + i * 4 + 2, none⟩ = some (.slice (V i).a (V i).f.n (V i).c) := hv 2 _ rfl
      have x3 : wr.cell? ⟨b, off + i * 4 + 3, none⟩ = some (.int .i64 (V i).f.d) := hv 3 _ rfl
      have hlb := World.block_lt_of_cell? _ _ x0
      simp only at hlb
      obtain ⟨x, hx⟩ : ∃ x, x = V i := ⟨_, rfl⟩
      rw [← hx] at x0 x1 x2 x3
      have HX := hide hx
      clear hc hv hx
      go_upto_region 5 with fail
      refine region_last2 (bkS (.slice ta i tc) (.slice (some ⟨b, off, none⟩) n c) i b (off + i * 4) x) wr.heap.size wr 26 rfl rfl (by kernel_rfl) (by kernel_rfl) (by simp) (Below.refl _ _) (Nat.le_refl _) (bkS_below _ _ _ _ _ _) ?_ ?_
      · intro k hk
        replace hk : k + 2 < 15 := by simpa using hk
        rcases k with _ | _ | _ | _ | _ | _ | _ | _ | _ | _ | _ | _ | _ | k
        · intro o ho a w hA hBw hd
          simp only [List.getElem?_toArray, List.getElem?_cons_zero, Option.some.injEq] at ho
          subst ho
          have e0 : a.tmps.getD 3 undef = .slice ta i tc := hA.far 3 (by simp)
          exact st_val2 (.slice ta i tc) (by simp [execOp, Act.eval, go_sem, e0]) rfl (Below.refl _ _)
        · intro o ho a w hA hBw hd
          simp only [List.getElem?_toArray, List.getElem?_cons_succ, List.getElem?_cons_zero, Option.some.injEq] at ho
          subst ho
          have e0 : a.tmps.getD 0 undef = .slice (some ⟨b, off, none⟩) n c := hA.far 0 (by simp)
          exact st_val2 (.slice (some ⟨b, off, none⟩) n c) (by simp [execOp, Act.eval, go_sem, e0]) rfl (Below.refl _ _)
        · intro o ho a w hA hBw hd
          simp only [List.getElem?_toArray, List.getElem?_cons_succ, List.getElem?_cons_zero, Option.some.injEq] at ho
          subst ho
          have e0 : a.tmps.getD 4 undef = .int .i64 (i : Int) := hA.far 4 (by simp)
          exact st_val2 (.int .i64 (i : Int)) (by simp [execOp, Act.eval, go_sem, e0]) rfl (Below.refl _ _)
        · intro o ho a w hA hBw hd
          simp only [List.getElem?_toArray, List.getElem?_cons_succ, List.getElem?_cons_zero, Option.some.injEq] at ho
          subst ho
          have e1 : a.tmps.getD 12 undef = .slice (some ⟨b, off, none⟩) n c := hd ⟨1, .data⟩ (by simp) rfl _ 12 rfl rfl
          have e2 : a.tmps.getD 13 undef = .int .i64 (i : Int) := hd ⟨2, .data⟩ (by simp) rfl _ 13 rfl rfl
          exact st_val2 (.pointer (some ⟨b, off + i * 4, none⟩)) (by simp [execOp, Act.eval, go_sem, e1, e2]; omega) rfl (Below.refl _ _)
        · intro o ho a w hA hBw hd
          simp only [List.getElem?_toArray, List.getElem?_cons_succ, List.getElem?_cons_zero, Option.some.injEq] at ho
          subst ho
          have e3 : a.tmps.getD 14 undef = .pointer (some ⟨b, off + i * 4, none⟩) := hd ⟨3, .data⟩ (by simp) rfl _ 14 rfl rfl
          exact st_val2 (.pointer (some ⟨b, off + i * 4, none⟩)) (by simp [execOp, Act.eval, go_sem, e3]) rfl (Below.refl _ _)
        · intro o ho a w hA hBw hd
          simp only [List.getElem?_toArray, List.getElem?_cons_succ, List.getElem?_cons_zero, Option.some.injEq] at ho
          subst ho
          have e4 : a.tmps.getD 15 undef = .pointer (some ⟨b, off + i * 4, none⟩) := hd ⟨4, .data⟩ (by simp) rfl _ 15 rfl rfl
          have c0 := (hA.below.cell (p := ⟨b, off + i * 4, none⟩) hlb).trans x0
          have c1 := (hA.below.cell (p := ⟨b, off + i * 4 + 1, none⟩) hlb).trans x1
          have c2 := (hA.below.cell (p := ⟨b, off + i * 4 + 2, none⟩) hlb).trans x2
          exact st_val2 (.agg #[.int .i64 x.f.W, .int .i64 x.f.H, .slice x.a x.f.n x.c]) (by simp [execOp, Act.eval, go_sem, e4, c0, c1, c2]) rfl (Below.refl _ _)
        · intro o ho a w hA hBw hd
          simp only [List.getElem?_toArray, List.getElem?_cons_succ, List.getElem?_cons_zero, Option.some.injEq] at ho
          subst ho
          have e0 : a.tmps.getD 0 undef = .slice (some ⟨b, off, none⟩) n c := hA.far 0 (by simp)
          exact st_val2 (.slice (some ⟨b, off, none⟩) n c) (by simp [execOp, Act.eval, go_sem, e0]) rfl (Below.refl _ _)
        · intro o ho a w hA hBw hd
          simp only [List.getElem?_toArray, List.getElem?_cons_succ, List.getElem?_cons_zero, Option.some.injEq] at ho
          subst ho
          have e0 : a.tmps.getD 4 undef = .int .i64 (i : Int) := hA.far 4 (by simp)
          exact st_val2 (.int .i64 (i : Int)) (by simp [execOp, Act.eval, go_sem, e0]) rfl (Below.refl _ _)
        · intro o ho a w hA hBw hd
          simp only [List.getElem?_toArray, List.getElem?_cons_succ, List.getElem?_cons_zero, Option.some.injEq] at ho
          subst ho
          have e6 : a.tmps.getD 17 undef = .slice (some ⟨b, off, none⟩) n c := hd ⟨6, .data⟩ (by simp) rfl _ 17 rfl rfl
          have e7 : a.tmps.getD 18 undef = .int .i64 (i : Int) := hd ⟨7, .data⟩ (by simp) rfl _ 18 rfl rfl
          exact st_val2 (.pointer (some ⟨b, off + i * 4, none⟩)) (by simp [execOp, Act.eval, go_sem, e6, e7]; omega) rfl (Below.refl _ _)
        · intro o ho a w hA hBw hd
          simp only [List.getElem?_toArray, List.getElem?_cons_succ, List.getElem?_cons_zero, Option.some.injEq] at ho
          subst ho
          have e8 : a.tmps.getD 19 undef = .pointer (some ⟨b, off + i * 4, none⟩) := hd ⟨8, .data⟩ (by simp) rfl _ 19 rfl rfl
          exact st_val2 (.pointer (some ⟨b, off + i * 4 + 3, none⟩)) (by simp [execOp, Act.eval, go_sem, e8]) rfl (Below.refl _ _)
        · intro o ho a w hA hBw hd
          simp only [List.getElem?_toArray, List.getElem?_cons_succ, List.getElem?_cons_zero, Option.some.injEq] at ho
          subst ho
          have e9 : a.tmps.getD 20 undef = .pointer (some ⟨b, off + i * 4 + 3, none⟩) := hd ⟨9, .data⟩ (by simp) rfl _ 20 rfl rfl
          have c3 := (hA.below.cell (p := ⟨b, off + i * 4 + 3, none⟩) hlb).trans x3
          exact st_val2 (.int .i64 x.f.d) (by simp [execOp, Act.eval, go_sem, e9, c3]) rfl (Below.refl _ _)
        · intro o ho a w hA hBw hd
          simp only [List.getElem?_toArray, List.getElem?_cons_succ, List.getElem?_cons_zero, Option.some.injEq] at ho
          subst ho
          have e5 : a.tmps.getD 16 undef = .agg #[.int .i64 x.f.W, .int .i64 x.f.H, .slice x.a x.f.n x.c] := hd ⟨5, .data⟩ (by simp) rfl _ 16 rfl rfl
          have e10 : a.tmps.getD 21 undef = .int .i64 x.f.d := hd ⟨10, .data⟩ (by simp) rfl _ 21 rfl rfl
          rw [Array.getD_eq_getD_getElem?] at e5 e10
          exact st_val2 (.agg #[.int .i64 x.f.W, .int .i64 x.f.H, .slice x.a x.f.n x.c, .int .i64 x.f.d]) (by simp [execOp, Act.eval, go_sem, e5, e10]) rfl (Below.refl _ _)
        · intro o ho a w hA hBw hd
          simp only [List.getElem?_toArray, List.getElem?_cons_succ, List.getElem?_cons_zero, Option.some.injEq] at ho
          subst ho
          have e11 : a.tmps.getD 22 undef = .agg #[.int .i64 x.f.W, .int .i64 x.f.H, .slice x.a x.f.n x.c, .int .i64 x.f.d] := hd ⟨11, .data⟩ (by simp) rfl _ 22 rfl rfl
          have hA1 := al1 w (.cells #[.int .i64 x.f.W, .int .i64 x.f.H, .slice x.a x.f.n x.c, .int .i64 x.f.d] 71)
          rw [Array.getD_eq_getD_getElem?] at e11
          exact st_val2 (w' := w.alloc (.cells #[.int .i64 x.f.W, .int .i64 x.f.H, .slice x.a x.f.n x.c, .int .i64 x.f.d] 71)) (.slice (some ⟨w.heap.size, 0, none⟩) 1 1) (by simp [execOp, Act.eval, go_sem, e11]) ⟨w.heap.size, rfl, hA1.k0⟩ hA1.below
        · omega
      · intro o o2 a w2 ho ho2 hA hBw hg
        have e11 : a.tmps.getD 11 undef = .slice ta i tc := hg 0 _ 11 (by simp) rfl rfl
        obtain ⟨gx, e23, hk⟩ : ∃ gx, a.tmps.getD 23 undef = .slice (some ⟨gx, 0, none⟩) 1 1 ∧ w2.heap[gx]? = some (.cells x.cells.toArray 71) := hg 12 _ 23 (by simp) rfl rfl
        have y0 : a.tmps.getD 0 undef = .slice (some ⟨b, off, none⟩) n c := hA.far 0 (by simp)
        have y1 : a.tmps.getD 1 undef = undef := hA.far 1 (by simp)
        have y2 : a.tmps.getD 2 undef = .slice none 0 0 := hA.far 2 (by simp)
        have y4 : a.tmps.getD 4 undef = .int .i64 (i : Int) := hA.far 4 (by simp)
        have y25 : a.tmps.getD 25 undef = undef := hA.far 25 (by simp)
        have hsz : a.tmps.size = 26 := hA.size
        have hdf : a.defers = [] := hA.defers
        have hbb := hA.below
        clear hA hg
        simp at ho ho2
        subst ho ho2
        refine wpList_appRf w2 rfl (.tmp 11) (.tmp 23) rfl B gx i tc ta (rowV (fun j => (V j).cells) i) x e11 e23 (own_belowG (unhide HO) hbb) hk (by omega) (by omega) ?_
        intro g cap w9 hown hgr hat hgl
        have HB9 : Hid (Below B w w9) := ((unhide HB).trans (hbb.mono hz)).grown hgr (by have := hbb.size; omega) (fun k e => ((unhide HO).lt k e).1)
        have hz9 : B ≤ w9.heap.size := by have := hgr.size; omega
        have HOn : Hid (w9.ownsRow B 71 4 (.slice (some ⟨g, 0, none⟩) (i + 1) cap) (i + 1) (rowV (fun j => (V j).cells) (i + 1))) := by
          show World.ownsRow _ _ _ _ _ _ (rowV (fun j => (V j).cells) i ++ (V i).cells)
          rw [← unhide HX]
          exact hown
        refine wpList_assign1 (.tmp 24) rfl rfl ?_
        clear hown hgr hat hgl hbb hk HO HB HX e11 e23
        obtain ⟨tm, df⟩ := a
        simp only at y0 y1 y2 y4 y25 hsz hdf
        subst hdf
        obtain ⟨v0, v1, v2, v3, v4, v5, v6, v7, v8, v9, v10, v11, v12, v13, v14, v15, v16, v17, v18, v19, v20, v21, v22, v23, v24, v25, rfl⟩ := arr26 tm hsz
        simp at y0 y1 y2 y4 y25
        subst y0 y1 y2 y4 y25
        go_wp2
        go_roundw
        case rel => exact ⟨i + 1, some ⟨g, 0, none⟩, cap, by omega, by go_num, rfl, HOn, HB9, hz9⟩
        case measure => simp [intOf]; omega
    · obtain rfl : i = n := by omega
      have d1 : decide ((i : Int) < (i : Int)) = false := by simp
      clear HRW
      go_wp2
      go_ret
      exact ⟨ta, tc, rfl, by first | exact unhide HO | (rw [← unhide HBE]; exact unhide HO), by first | exact unhide HB | (rw [← unhide HBE]; exact unhide HB)⟩
end Go.Proofs.YtjcoahahponabaaGreatDoor
