/- Moving pictures: frames handed on: the statements' own. -/
import Derived.Test.YtjcoahahponabaaGreatDoorGr5
import Derived.Test.YtjcoahahponabaaGreatDoorMg23
namespace Go.Proofs.YtjcoahahponabaaGreatDoor
open Go.RowKit

/-- Pixels that lie behind M. -/
def PxB (w : World) (M : Nat) (a : Option Addr) (n : Nat) (q : Nat → Px) : Prop := IsPx w a n q ∧ ∀ x, a = some x → M ≤ x.block
theorem PxB.below {w w' : World} {M n : Nat} {a : Option Addr} {q : Nat → Px} (h : PxB w M a n q) (hb : Below w.heap.size w w') : PxB w' M a n q := ⟨h.1.below hb, h.2⟩
/-- What the operations yield. -/
def foS (T0 S0 : Value) (i b o : Nat) (x : FrV) (M : Nat) : Nat → Value → World → Prop
  | 0, v, _ => v = T0
  | 1, v, _ => v = S0
  | 2, v, _ => v = .int .i64 (i : Int)
  | 3, v, _ => v = .pointer (some ⟨b, o, none⟩)
  | 4, v, _ => v = .pointer (some ⟨b, o, none⟩)
  | 5, v, _ => v = .agg #[.int .i64 x.f.W, .int .i64 x.f.H, .slice x.a x.f.n x.c]
  | 6, v, w => ∃ ax cx, v = .agg #[.int .i64 x.f.W, .int .i64 x.f.H, .slice ax x.f.n cx] ∧ PxB w M ax x.f.n x.f.q
  | 7, v, _ => v = S0
  | 8, v, _ => v = .int .i64 (i : Int)
  | 9, v, _ => v = .pointer (some ⟨b, o, none⟩)
  | 10, v, _ => v = .pointer (some ⟨b, o + 3, none⟩)
  | 11, v, _ => v = .int .i64 x.f.d
  | 12, v, w => ∃ ax cx, v = .agg #[.int .i64 x.f.W, .int .i64 x.f.H, .slice ax x.f.n cx, .int .i64 x.f.d] ∧ PxB w M ax x.f.n x.f.q
  | 13, v, w => ∃ g ax cx, v = .slice (some ⟨g, 0, none⟩) 1 1 ∧ w.heap[g]? = some (.cells (FrV.cells ⟨x.f, ax, cx⟩).toArray 92) ∧ PxB w M ax x.f.n x.f.q
  | _, _, _ => True
theorem foS_below (T0 S0 : Value) (i b o : Nat) (x : FrV) (M : Nat) : ∀ k v w w', foS T0 S0 i b o x M k v w → Below w.heap.size w w' → foS T0 S0 i b o x M k v w'
  | 0, _, _, _, h, _ => h
  | 1, _, _, _, h, _ => h
  | 2, _, _, _, h, _ => h
  | 3, _, _, _, h, _ => h
  | 4, _, _, _, h, _ => h
  | 5, _, _, _, h, _ => h
  | 6, _, _, _, ⟨ax, cx, e, h⟩, hb => ⟨ax, cx, e, h.below hb⟩
  | 7, _, _, _, h, _ => h
  | 8, _, _, _, h, _ => h
  | 9, _, _, _, h, _ => h
  | 10, _, _, _, h, _ => h
  | 11, _, _, _, h, _ => h
  | 12, _, _, _, ⟨ax, cx, e, h⟩, hb => ⟨ax, cx, e, h.below hb⟩
  | 13, _, _, _, ⟨g, ax, cx, e, hk, h⟩, hb => ⟨g, ax, cx, e, blk_below hk hb (blk_lt hk), h.below hb⟩
  | _ + 14, _, _, _, _, _ => trivial
section
variable {P : Program} {Q : Exit → Act → World → Prop}
theorem st_val2 {o : Oper} {a : Act} {w w' : World} {S : Value → World → Prop} (v : Value) (h : (execOp a.eval o).run P w = .ok (.value v) w') (hy : S v w') (hb : Below w.heap.size w w') : o.wp P a w (fun a' w' => ∃ v, a' = a.put o.dst v ∧ S v w' ∧ Below w.heap.size w w') Q := by
  unfold Oper.wp
  rw [h]
  exact ⟨v, rfl, hy, hb⟩
theorem st_call2 {o : Oper} {a : Act} {w : World} {S : Value → World → Prop} (f : FuncId) (us : Array Value) (h : (execOp a.eval o).run P w = .ok (.enter f us) w) (hc : Calls P f us w fun e w' => ∃ v, e = .returned v ∧ S v w' ∧ Below w.heap.size w w') : o.wp P a w (fun a' w' => ∃ v, a' = a.put o.dst v ∧ S v w' ∧ Below w.heap.size w w') Q := by
  unfold Oper.wp
  rw [h, Oper.upon_enter]
  refine hc.mono ?_
  rintro e w' ⟨v, rfl, hy, hb⟩
  exact ⟨v, rfl, hy, hb⟩
end
/-- Frames that were handed on so far. -/
structure FoA (w : World) (tv : Value) (x u : FrV) : Prop where
  eq : u.f = x.f
  is : u.in w
  n1 : ∀ p, u.a = some p → 0 < u.f.n → tv.ownBlock ≠ some p.block

theorem arr27 (tm : Array Value) (h : tm.size = 27) : ∃ v0 v1 v2 v3 v4 v5 v6 v7 v8 v9 v10 v11 v12 v13 v14 v15 v16 v17 v18 v19 v20 v21 v22 v23 v24 v25 v26 : Value, tm = #[v0, v1, v2, v3, v4, v5, v6, v7, v8, v9, v10, v11, v12, v13, v14, v15, v16, v17, v18, v19, v20, v21, v22, v23, v24, v25, v26] := by
  obtain ⟨l⟩ := tm
  match l, h with
  | [v0, v1, v2, v3, v4, v5, v6, v7, v8, v9, v10, v11, v12, v13, v14, v15, v16, v17, v18, v19, v20, v21, v22, v23, v24, v25, v26], _ => exact ⟨_, _, _, _, _, _, _, _, _, _, _, _, _, _, _, _, _, _, _, _, _, _, _, _, _, _, _, rfl⟩
theorem wpList_assign1 {P : Program} {ops : Array Oper} {Q : Exit → Act → World → Prop} {o : Oper} {a : Act} {w : World} (x : Operand) (hgd : o.guard = none) (ho : o.op = .assign x) (h : Q .normal (a.put o.dst (a.eval x)) w) : wpList P ops Q [o] a w := by
  unfold wpList
  rw [if_pos (by simp [Region.wanted, hgd])]
  refine .inl ?_
  unfold Oper.wp
  simp only [execOp, ho]
  exact h

set_option maxHeartbeats 4000000 in
set_option maxRecDepth 100000 in
theorem framesOf_any (s : Option Addr) (n c : Nat) (V : Nat → FrV) (w : World) (hR : IsRw w 4 s n (fun i => (V i).cells)) (hV : ∀ i, i < n → (V i).in w) (hn : n ≤ 20) (hZ : ∀ i, i < n → (V i).f.n ≤ 3000) :
    Calls Tryz.prog 26 #[.slice s n c] w fun e w' => ∃ (ta : Option Addr) (tc : Nat) (U : Nat → FrV), e = .returned (.slice ta n tc) ∧ w'.ownsRow w.heap.size 92 4 (.slice ta n tc) n (rowV (fun j => (U j).cells) n) ∧ (∀ j, j < n → FoA w' (.slice ta n tc) (V j) (U j)) ∧ Below w.heap.size w w' := by
  have HRW := hide (fun wr (hb : Below w.heap.size w wr) => hR.below hb)
  have HVW := hide (fun wr (hb : Below w.heap.size w wr) i (hi : i < n) => (hV i hi).below hb)
  have HZ := hide hZ
  obtain ⟨B, hB⟩ : ∃ B, B = w.heap.size := ⟨_, rfl⟩
  rw [← hB] at HRW HVW ⊢
  have HB0 : Hid (Below B w w) := Below.refl _ _
  have HO0 : Hid (w.ownsRow B 92 4 (.slice none 0 0) 0 (rowV (fun j => ((fun _ => default : Nat → FrV) j).cells) 0)) := World.ownsRow_nil _ _ _ _
  have HU0 : Hid (∀ j, j < 0 → FoA w (.slice none 0 0) (V j) ((fun _ => default : Nat → FrV) j)) := fun j hj => absurd hj (Nat.not_lt_zero j)
  have hz0 : B ≤ w.heap.size := by omega
  have HBE := hide hB
  clear hR hV hZ hB
  go_enter Tryz.func26, Tryz.ntmps26
  go_wp2
  go_loopw [3, 4] (fun tv iv wr => ∃ (i : Nat) (ta : Option Addr) (tc : Nat) (U : Nat → FrV), i ≤ n ∧ iv = .int .i64 (i : Int) ∧ tv = .slice ta i tc ∧ Hid (wr.ownsRow B 92 4 (.slice ta i tc) i (rowV (fun j => (U j).cells) i)) ∧ Hid (∀ j, j < i → FoA wr (.slice ta i tc) (V j) (U j)) ∧ Hid (Below B w wr) ∧ B ≤ wr.heap.size) (fun _ iv _ => n - (intOf iv).toNat)
  case atStart => exact ⟨0, none, 0, _, by omega, rfl, rfl, HO0, HU0, HB0, hz0⟩
  case round =>
    clear HO0 HU0 HB0 hz0
    obtain ⟨i, ta, tc, U, hi, rfl, rfl, HO, HU, HB, hz⟩ := hrel
    by_cases hlt : i < n
    · have d1 : decide ((i : Int) < (n : Int)) = true := decide_eq_true (by omega)
      have d1n : decide (i < n) = true := decide_eq_true hlt
      have hii : (i : Int) < (n : Int) := by omega
      obtain ⟨b, off, rfl, _, hc⟩ := (unhide HRW wr (unhide HB)).resolve_left (by omega)
      have hv := hc i hlt
      have x0 : wr.cell? ⟨b, off + i * 4, none⟩ = some (.int .i64 (V i).f.W) := hv 0 _ rfl
      have x1 : wr.cell? ⟨b, off + i * 4 + 1, none⟩ = some (.int .i64 (V i).f.H) := hv 1 _ rfl
      have x2 : wr.cell? ⟨b, off + i * 4 + 2, none⟩ = some (.slice (V i).a (V i).f.n (V i).c) := hv 2 _ rfl
      have x3 : wr.cell? ⟨b, off + i * 4 + 3, none⟩ = some (.int .i64 (V i).f.d) := hv 3 _ rfl
      have hlb := World.block_lt_of_cell? _ _ x0
      simp only at hlb
      have HVi := hide (unhide HVW wr (unhide HB) i hlt)
      have HZi := hide (unhide HZ i hlt)
      obtain ⟨x, hx⟩ : ∃ x, x = V i := ⟨_, rfl⟩
      rw [← hx] at x0 x1 x2 x3 HVi HZi
      have HX := hide hx
      clear hc hv hx
      go_upto_region 5 with fail
      refine region_last2 (foS (.slice ta i tc) (.slice (some ⟨b, off, none⟩) n c) i b (off + i * 4) x wr.heap.size) wr.heap.size wr 27 rfl rfl (by kernel_rfl) (by kernel_rfl) (by simp) (Below.refl _ _) (Nat.le_refl _) (foS_below _ _ _ _ _ _ _) ?_ ?_
      · intro k hk
        replace hk : k + 2 < 16 := by simpa using hk
        rcases k with _ | _ | _ | _ | _ | _ | _ | _ | _ | _ | _ | _ | _ | _ | k
        · intro o ho a w hA hBw hd
          simp only [List.getElem?_toArray, List.getElem?_cons_zero, Option.some.injEq] at ho
          subst ho
          have e0 : a.tmps.getD 3 undef = .slice ta i tc := hA.far 3 (by simp)
          exact st_val2 (.slice ta i tc) (by simp [execOp, Act.eval, go_sem, e0]) rfl (Below.refl _ _)
        · intro o ho a w hA hBw hd
          simp only [List.getElem?_toArray, List.getElem?_cons_succ, List.getElem?_cons_zero, Option.some.injEq] at ho
          subst ho
          have e0 : a.tmps.getD 0 undef = .slice (some ⟨b, off, none⟩) n c := hA.far 0 (by simp)
          exact st_val2 (.slice (some ⟨b, off, none⟩) n c) (by simp [execOp, Act.eval, go_sem, e0]) rfl (Below.refl _ _)
        · intro o ho a w hA hBw hd
          simp only [List.getElem?_toArray, List.getElem?_cons_succ, List.getElem?_cons_zero, Option.some.injEq] at ho
          subst ho
          have e0 : a.tmps.getD 4 undef = .int .i64 (i : Int) := hA.far 4 (by simp)
          exact st_val2 (.int .i64 (i : Int)) (by simp [execOp, Act.eval, go_sem, e0]) rfl (Below.refl _ _)
        · intro o ho a w hA hBw hd
          simp only [List.getElem?_toArray, List.getElem?_cons_succ, List.getElem?_cons_zero, Option.some.injEq] at ho
          subst ho
          have e1 : a.tmps.getD 12 undef = .slice (some ⟨b, off, none⟩) n c := hd ⟨1, .data⟩ (by simp) rfl _ 12 rfl rfl
          have e2 : a.tmps.getD 13 undef = .int .i64 (i : Int) := hd ⟨2, .data⟩ (by simp) rfl _ 13 rfl rfl
          exact st_val2 (.pointer (some ⟨b, off + i * 4, none⟩)) (by simp [execOp, Act.eval, go_sem, e1, e2]; omega) rfl (Below.refl _ _)
        · intro o ho a w hA hBw hd
          simp only [List.getElem?_toArray, List.getElem?_cons_succ, List.getElem?_cons_zero, Option.some.injEq] at ho
          subst ho
          have e3 : a.tmps.getD 14 undef = .pointer (some ⟨b, off + i * 4, none⟩) := hd ⟨3, .data⟩ (by simp) rfl _ 14 rfl rfl
          exact st_val2 (.pointer (some ⟨b, off + i * 4, none⟩)) (by simp [execOp, Act.eval, go_sem, e3]) rfl (Below.refl _ _)
        · intro o ho a w hA hBw hd
          simp only [List.getElem?_toArray, List.getElem?_cons_succ, List.getElem?_cons_zero, Option.some.injEq] at ho
          subst ho
          have e4 : a.tmps.getD 15 undef = .pointer (some ⟨b, off + i * 4, none⟩) := hd ⟨4, .data⟩ (by simp) rfl _ 15 rfl rfl
          have c0 := (hA.below.cell (p := ⟨b, off + i * 4, none⟩) hlb).trans x0
          have c1 := (hA.below.cell (p := ⟨b, off + i * 4 + 1, none⟩) hlb).trans x1
          have c2 := (hA.below.cell (p := ⟨b, off + i * 4 + 2, none⟩) hlb).trans x2
          exact st_val2 (.agg #[.int .i64 x.f.W, .int .i64 x.f.H, .slice x.a x.f.n x.c]) (by simp [execOp, Act.eval, go_sem, e4, c0, c1, c2]) rfl (Below.refl _ _)
        · intro o ho a w hA hBw hd
          simp only [List.getElem?_toArray, List.getElem?_cons_succ, List.getElem?_cons_zero, Option.some.injEq] at ho
          subst ho
          have e5 : a.tmps.getD 16 undef = .agg #[.int .i64 x.f.W, .int .i64 x.f.H, .slice x.a x.f.n x.c] := hd ⟨5, .data⟩ (by simp) rfl _ 16 rfl rfl
          refine st_call2 42 #[.agg #[.int .i64 x.f.W, .int .i64 x.f.H, .slice x.a x.f.n x.c]] (by simp [Act.eval, go_sem, e5]) ?_
          refine (own_any x.f.W x.f.H x.a x.f.n x.c x.f.q w ((unhide HVi).below hA.below) (by have := unhide HZi; omega)).mono ?_
          rintro e w' ⟨a2, c2, rfl, ho, hb⟩
          refine ⟨_, rfl, ⟨a2, c2, rfl, own_px ho (by have := unhide HZi; unfold maxLen; omega), fun p hp => ?_⟩, hb⟩
          subst hp
          have := (ho.lt p.block rfl).1
          have := hA.below.size
          omega
        · intro o ho a w hA hBw hd
          simp only [List.getElem?_toArray, List.getElem?_cons_succ, List.getElem?_cons_zero, Option.some.injEq] at ho
          subst ho
          have e0 : a.tmps.getD 0 undef = .slice (some ⟨b, off, none⟩) n c := hA.far 0 (by simp)
          exact st_val2 (.slice (some ⟨b, off, none⟩) n c) (by simp [execOp, Act.eval, go_sem, e0]) rfl (Below.refl _ _)
        · intro o ho a w hA hBw hd
          simp only [List.getElem?_toArray, List.getElem?_cons_succ, List.getElem?_cons_zero, Option.some.injEq] at ho
          subst ho
          have e0 : a.tmps.getD 4 undef = .int .i64 (i : Int) := hA.far 4 (by simp)
          exact st_val2 (.int .i64 (i : Int)) (by simp [execOp, Act.eval, go_sem, e0]) rfl (Below.refl _ _)
        · intro o ho a w hA hBw hd
          simp only [List.getElem?_toArray, List.getElem?_cons_succ, List.getElem?_cons_zero, Option.some.injEq] at ho
          subst ho
          have e7 : a.tmps.getD 18 undef = .slice (some ⟨b, off, none⟩) n c := hd ⟨7, .data⟩ (by simp) rfl _ 18 rfl rfl
          have e8 : a.tmps.getD 19 undef = .int .i64 (i : Int) := hd ⟨8, .data⟩ (by simp) rfl _ 19 rfl rfl
          exact st_val2 (.pointer (some ⟨b, off + i * 4, none⟩)) (by simp [execOp, Act.eval, go_sem, e7, e8]; omega) rfl (Below.refl _ _)
        · intro o ho a w hA hBw hd
          simp only [List.getElem?_toArray, List.getElem?_cons_succ, List.getElem?_cons_zero, Option.some.injEq] at ho
          subst ho
          have e9 : a.tmps.getD 20 undef = .pointer (some ⟨b, off + i * 4, none⟩) := hd ⟨9, .data⟩ (by simp) rfl _ 20 rfl rfl
          exact st_val2 (.pointer (some ⟨b, off + i * 4 + 3, none⟩)) (by simp [execOp, Act.eval, go_sem, e9]) rfl (Below.refl _ _)
        · intro o ho a w hA hBw hd
          simp only [List.getElem?_toArray, List.getElem?_cons_succ, List.getElem?_cons_zero, Option.some.injEq] at ho
          subst ho
          have e10 : a.tmps.getD 21 undef = .pointer (some ⟨b, off + i * 4 + 3, none⟩) := hd ⟨10, .data⟩ (by simp) rfl _ 21 rfl rfl
          have c3 := (hA.below.cell (p := ⟨b, off + i * 4 + 3, none⟩) hlb).trans x3
          exact st_val2 (.int .i64 x.f.d) (by simp [execOp, Act.eval, go_sem, e10, c3]) rfl (Below.refl _ _)
        · intro o ho a w hA hBw hd
          simp only [List.getElem?_toArray, List.getElem?_cons_succ, List.getElem?_cons_zero, Option.some.injEq] at ho
          subst ho
          obtain ⟨ax, cx, e6, hp⟩ : ∃ ax cx, a.tmps.getD 17 undef = .agg #[.int .i64 x.f.W, .int .i64 x.f.H, .slice ax x.f.n cx] ∧ PxB w wr.heap.size ax x.f.n x.f.q := hd ⟨6, .data⟩ (by simp) rfl _ 17 rfl rfl
          have e11 : a.tmps.getD 22 undef = .int .i64 x.f.d := hd ⟨11, .data⟩ (by simp) rfl _ 22 rfl rfl
          rw [Array.getD_eq_getD_getElem?] at e6 e11
          exact st_val2 (.agg #[.int .i64 x.f.W, .int .i64 x.f.H, .slice ax x.f.n cx, .int .i64 x.f.d]) (by simp [execOp, Act.eval, go_sem, e6, e11]) ⟨ax, cx, rfl, hp⟩ (Below.refl _ _)
        · intro o ho a w hA hBw hd
          simp only [List.getElem?_toArray, List.getElem?_cons_succ, List.getElem?_cons_zero, Option.some.injEq] at ho
          subst ho
          obtain ⟨ax, cx, e12, hp⟩ : ∃ ax cx, a.tmps.getD 23 undef = .agg #[.int .i64 x.f.W, .int .i64 x.f.H, .slice ax x.f.n cx, .int .i64 x.f.d] ∧ PxB w wr.heap.size ax x.f.n x.f.q := hd ⟨12, .data⟩ (by simp) rfl _ 23 rfl rfl
          have hA1 := al1 w (.cells #[.int .i64 x.f.W, .int .i64 x.f.H, .slice ax x.f.n cx, .int .i64 x.f.d] 92)
          rw [Array.getD_eq_getD_getElem?] at e12
          exact st_val2 (w' := w.alloc (.cells #[.int .i64 x.f.W, .int .i64 x.f.H, .slice ax x.f.n cx, .int .i64 x.f.d] 92)) (.slice (some ⟨w.heap.size, 0, none⟩) 1 1) (by simp [execOp, Act.eval, go_sem, e12]) ⟨w.heap.size, ax, cx, rfl, hA1.k0, hp.below hA1.below⟩ hA1.below
        · omega
      · intro o o2 a w2 ho ho2 hA hBw hg
        have e11 : a.tmps.getD 11 undef = .slice ta i tc := hg 0 _ 11 (by simp) rfl rfl
        obtain ⟨gx, ax, cx, e24, hk, hp⟩ : ∃ gx ax cx, a.tmps.getD 24 undef = .slice (some ⟨gx, 0, none⟩) 1 1 ∧ w2.heap[gx]? = some (.cells (FrV.cells ⟨x.f, ax, cx⟩).toArray 92) ∧ PxB w2 wr.heap.size ax x.f.n x.f.q := hg 13 _ 24 (by simp) rfl rfl
        have y0 : a.tmps.getD 0 undef = .slice (some ⟨b, off, none⟩) n c := hA.far 0 (by simp)
        have y1 : a.tmps.getD 1 undef = undef := hA.far 1 (by simp)
        have y2 : a.tmps.getD 2 undef = .slice none 0 0 := hA.far 2 (by simp)
        have y4 : a.tmps.getD 4 undef = .int .i64 (i : Int) := hA.far 4 (by simp)
        have y26 : a.tmps.getD 26 undef = undef := hA.far 26 (by simp)
        have hsz : a.tmps.size = 27 := hA.size
        have hdf : a.defers = [] := hA.defers
        have hbb := hA.below
        clear hA hg
        simp at ho ho2
        subst ho ho2
        refine wpList_appFr w2 rfl (.tmp 11) (.tmp 24) rfl B gx i tc ta (rowV (fun j => (U j).cells) i) ⟨x.f, ax, cx⟩ e11 e24 (own_belowG (unhide HO) hbb) hk (by omega) (by omega) ?_
        intro g cap w9 hown hgr hat hgl
        have hne' : ∀ k, (Value.slice ta i tc).ownBlock = some k → B ≤ k ∧ k < wr.heap.size := fun k e => (unhide HO).lt k e
        have HB9 : Hid (Below B w w9) := ((unhide HB).trans (hbb.mono hz)).grown hgr (by have := hbb.size; omega) (fun k e => (hne' k e).1)
        have hz9 : B ≤ w9.heap.size := by have := hgr.size; omega
        have HUn : Hid (∀ j, j < i + 1 → FoA w9 (.slice (some ⟨g, 0, none⟩) (i + 1) cap) (V j) ((fun j => if j = i then (⟨x.f, ax, cx⟩ : FrV) else U j) j)) := by
          have step : ∀ (X U0 : FrV), U0.f = X.f → U0.in w2 → (∀ x, U0.a = some x → 0 < U0.f.n → (Value.slice ta i tc).ownBlock ≠ some x.block) → FoA w9 (.slice (some ⟨g, 0, none⟩) (i + 1) cap) X U0 := fun X U0 h1 h2 h3 => by
            have l1 : ∀ x, U0.a = some x → 0 < U0.f.n → x.block < w2.heap.size := fun x e h0 => IsPx.lt h2 x e h0
            have b1 : ∀ x : Addr, x.block < w2.heap.size → (Value.slice ta i tc).ownBlock ≠ some x.block → w9.heap[x.block]? = w2.heap[x.block]? := fun x hl hn => hgr.block x.block hl (fun e => hn e.symm)
            have nb : ∀ x : Addr, x.block < w2.heap.size → (Value.slice ta i tc).ownBlock ≠ some x.block → (Value.slice (some ⟨g, 0, none⟩) (i + 1) cap).ownBlock ≠ some x.block := fun x hl hn e => by
              have e : some g = some x.block := e
              injection e with e
              rcases hat with q | q
              · exact hn (by rw [q, e])
              · omega
            exact ⟨h1, isPx_block h2 (fun x e h0 => b1 x (l1 x e h0) (h3 x e h0)), fun x e h0 => nb x (l1 x e h0) (h3 x e h0)⟩
          intro j hj
          show FoA w9 _ (V j) (if j = i then (⟨x.f, ax, cx⟩ : FrV) else U j)
          by_cases e : j = i
          · rw [if_pos e, e, ← unhide HX]
            refine step x ⟨x.f, ax, cx⟩ rfl hp.1 (fun p q _ r => ?_)
            have r1 := hp.2 p q
            have r2 := (hne' p.block r).2
            omega
          · rw [if_neg e]
            have h := unhide HU j (by omega)
            exact step (V j) (U j) h.eq (IsPx.below h.is hbb) h.n1
        have HOn : Hid (w9.ownsRow B 92 4 (.slice (some ⟨g, 0, none⟩) (i + 1) cap) (i + 1) (rowV (fun j => ((fun j => if j = i then (⟨x.f, ax, cx⟩ : FrV) else U j) j).cells) (i + 1))) := by
          have e : rowV (fun j => ((fun j => if j = i then (⟨x.f, ax, cx⟩ : FrV) else U j) j).cells) (i + 1) = rowV (fun j => (U j).cells) i ++ FrV.cells ⟨x.f, ax, cx⟩ := by
            show rowV _ i ++ _ = _
            rw [rowV_congr (G := fun j => (U j).cells) i (fun j hj => by show (if j = i then (⟨x.f, ax, cx⟩ : FrV) else U j).cells = _; rw [if_neg (by omega)])]
            show _ ++ (if i = i then (⟨x.f, ax, cx⟩ : FrV) else U i).cells = _
            rw [if_pos rfl]
          show World.ownsRow _ _ _ _ _ _ _
          rw [e]
          exact hown
        refine wpList_assign1 (.tmp 25) rfl rfl ?_
        clear hown hgr hat hgl hne' hbb hk hp HU HO HB HVi HZi HX e11 e24
        obtain ⟨tm, df⟩ := a
        simp only at y0 y1 y2 y4 y26 hsz hdf
        subst hdf
        obtain ⟨v0, v1, v2, v3, v4, v5, v6, v7, v8, v9, v10, v11, v12, v13, v14, v15, v16, v17, v18, v19, v20, v21, v22, v23, v24, v25, v26, rfl⟩ := arr27 tm hsz
        simp at y0 y1 y2 y4 y26
        subst y0 y1 y2 y4 y26
        go_wp2
        go_roundw
        case rel => exact ⟨i + 1, some ⟨g, 0, none⟩, cap, _, by omega, by go_num, rfl, HOn, HUn, HB9, hz9⟩
        case measure => simp [intOf]; omega
    · obtain rfl : i = n := by omega
      have d1 : decide ((i : Int) < (i : Int)) = false := by simp
      have HOF : Hid (wr.ownsRow w.heap.size 92 4 (.slice ta i tc) i (rowV (fun j => (U j).cells) i)) := by show World.ownsRow _ _ _ _ _ _ _; rw [← unhide HBE]; exact unhide HO
      clear HO
      go_wp2
      go_ret
      exact ⟨ta, tc, U, rfl, by first | exact unhide HOF | (rw [unhide HBE]; exact unhide HOF), unhide HU, by first | exact unhide HB | (rw [← unhide HBE]; exact unhide HB)⟩
end Go.Proofs.YtjcoahahponabaaGreatDoor
