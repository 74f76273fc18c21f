/- Pictures, made pixel by pixel of what a function tells of each place: the program's. Unlike pixels of a picture, and the number of each: the document's. strings.Builder by its contracts. Walks of the document's own texts of bits: a byte; the highest first. -/
import Derived.Test.YtjcoahahponabaaDoorPx1
import Derived.Test.YtjcoahahponabaaDoorMg4
import Derived.Test.YtjcoahahponabaaDoorMg1
import Derived.Shelf.Strings.Builder1
import Derived.Test.YtjcoahahponabaaDoorMg2
namespace Go.Proofs.YtjcoahahponabaaDoor
open Go.RowKit

/-- Cells of a picture of nothing, that may be written. -/
structure Z3 (w : World) (k : Nat) : Prop where
  c0 : w.cell? ⟨k, 0, none⟩ = some (.int .i64 0)
  c1 : w.cell? ⟨k, 1, none⟩ = some (.int .i64 0)
  c2 : w.cell? ⟨k, 2, none⟩ = some (.slice none 0 0)
  f0 : w.frozen? ⟨k, 0, none⟩ = false
  f1 : w.frozen? ⟨k, 1, none⟩ = false
  f2 : w.frozen? ⟨k, 2, none⟩ = false
theorem Z3.lt {w : World} {k : Nat} (h : Z3 w k) : k < w.heap.size := World.block_lt_of_cell? _ _ h.c0
theorem Z3.block {w w' : World} {k : Nat} (h : Z3 w k) (e : w'.heap[k]? = w.heap[k]?) : Z3 w' k :=
  ⟨(World.cell?_of_block (a := ⟨k, 0, none⟩) e).trans h.c0, (World.cell?_of_block (a := ⟨k, 1, none⟩) e).trans h.c1, (World.cell?_of_block (a := ⟨k, 2, none⟩) e).trans h.c2,
    (World.frozen?_of_block (a := ⟨k, 0, none⟩) e).trans h.f0, (World.frozen?_of_block (a := ⟨k, 1, none⟩) e).trans h.f1, (World.frozen?_of_block (a := ⟨k, 2, none⟩) e).trans h.f2⟩
theorem Z3.below {w w' : World} {k B : Nat} (h : Z3 w k) (hb : Below B w w') (hB : k < B) : Z3 w' k := h.block (hb.block k hB)
def z3Obj : Obj := .cells #[.int .i64 0, .int .i64 0, .slice none 0 0] 35
theorem z3_new (w : World) : Z3 (w.alloc z3Obj) w.heap.size := by
  unfold z3Obj
  exact ⟨by simp, by simp, by simp, by simp, by simp, by simp⟩

/-- Pixels that lie in a block from B on. -/
structure IsPxN (B : Nat) (w : World) (a : Option Addr) (n : Nat) (p : Nat → Px) : Prop where
  is : IsPx w a n p
  new : ∀ q, a = some q → B ≤ q.block
theorem IsPxN.far {B k j n : Nat} {w : World} {a : Option Addr} {p : Nat → Px} (h : IsPxN B w a n p) (hk : k < B) (u : Value) : IsPxN B (w.setCell ⟨k, j, none⟩ u) a n p := by
  refine ⟨?_, h.new⟩
  rcases h.is with h0 | ⟨b, off, rfl, hm, hc⟩
  · exact .inl h0
  · have hb : k ≠ b := by have : B ≤ b := h.new _ rfl; omega
    exact .inr ⟨b, off, rfl, hm, fun i hi => ⟨(World.cell?_setCell_far _ _ _ _ hb).trans (hc i hi).r, (World.cell?_setCell_far _ _ _ _ hb).trans (hc i hi).g, (World.cell?_setCell_far _ _ _ _ hb).trans (hc i hi).b, (World.cell?_setCell_far _ _ _ _ hb).trans (hc i hi).a⟩⟩
theorem own_pxN {w : World} {base n cap : Nat} {a : Option Addr} {p : Nat → Px} (h : w.ownsRow base 44 4 (.slice a n cap) n (pxVals p n)) (hn : n ≤ maxLen) : IsPxN base w a n p :=
  ⟨own_px h hn, fun q e => (h.lt q.block (by rw [e]; rfl)).1⟩

theorem make_px (n : Nat) (hn : n ≤ 100000) (w : World) : (Instr.makeSlice 33 (.int .i64 0) (.int .i64 (n : Int))).run Tryd.prog w = .ok (.slice (some ⟨w.heap.size, 0, none⟩) 0 n) (w.alloc (.cells (madeCells #[.int .u8 0, .int .u8 0, .int .u8 0, .int .u8 0] (n * 4)) 44)) := by
  obtain ⟨i0, hi, hz0, hz1, hz2⟩ := info_parts px_info
  have hr := run_make (P := Tryd.prog) w 33 44 i0 (.agg #[.int .u8 0, .int .u8 0, .int .u8 0, .int .u8 0]) Tryd.underlying33 hi hz0 .i64 .i64 0 n (by omega) (by omega) (by rw [hz2]; omega) (by omega)
  simp only [Int.toNat_natCast, Int.toNat_zero, hz1] at hr
  exact hr

/-- A row of pixels, told place by place. -/
def grid (W : Nat) (P : Nat → Nat → Px) (i : Nat) : Px := P (i % W) (i / W)
theorem grid_at (W : Nat) (P : Nat → Nat → Px) (x y : Nat) (hx : x < W) : grid W P (y * W + x) = P x y := by
  unfold grid
  rw [Nat.add_comm, Nat.add_mul_mod_self_right, Nat.mod_eq_of_lt hx, Nat.add_mul_div_right _ _ (by omega), Nat.div_eq_of_lt hx, Nat.zero_add]
theorem px_cells_lie (w : World) (p : Px) : ∀ j u, p.cells[j]? = some u → (w.alloc (.cells #[.int .u8 (p.r.toNat : Int), .int .u8 (p.g.toNat : Int), .int .u8 (p.b.toNat : Int), .int .u8 (p.a.toNat : Int)] 44)).cell? ((⟨w.heap.size, 0, none⟩ : Addr).add j) = some u :=
  World.news_of_block (heap_alloc_new w _)

theorem own_belowP {w w' : World} {base size n : Nat} {e : TypeId} {v : Value} {xs : List Value} (h : w.ownsRow base e size v n xs) (hb : Below w.heap.size w w') : w'.ownsRow base e size v n xs :=
  h.kept (row := none) ⟨hb.os, hb.tape, hb.output, hb.size, fun k hk _ => hb.block k hk⟩ (by rcases v.ownBlock with _ | q <;> simp)
theorem own_farP {w : World} {B size n j : Nat} {e : TypeId} {v u : Value} {xs : List Value} (h : w.ownsRow (B + 1) e size v n xs) : (w.setCell ⟨B, j, none⟩ u).ownsRow (B + 1) e size v n xs :=
  h.kept (row := some B) ((But.refl (· = B) w).setCell rfl u).grownBy (.inr (fun q => by have := (h.lt B q).1; omega))
theorem px_cells_one (p : Px) : ∀ u ∈ p.cells, u.oneCell' = true := fun u h => by
  simp only [Px.cells, List.mem_cons, List.not_mem_nil, or_false] at h
  rcases h with rfl | rfl | rfl | rfl <;> rfl

end Go.Proofs.YtjcoahahponabaaDoor
namespace Go.Proofs.YtjcoahahponabaaDoor
open Go.RowKit

theorem idx_at {l : List Px} {x : Px} {k : Nat} (h : l[k]? = some x) (hb : ∀ j, j < k → l[j]? ≠ some x) : l.idxOf x = k := by
  induction l generalizing k with
  | nil => simp at h
  | cons y l ih =>
    match k with
    | 0 => simp at h; subst h; simp
    | k + 1 =>
      have h0 := hb 0 (by omega)
      simp at h0
      have hne : (y == x) = false := by simpa using h0
      rw [List.idxOf_cons, hne]
      simp only [cond_false]
      rw [ih (by simpa using h) (fun j hj => by have := hb (j + 1) (by omega); simpa using this)]
theorem not_in {l : List Px} {x : Px} (hb : ∀ j, j < l.length → l[j]? ≠ some x) : x ∉ l := fun h => by
  obtain ⟨j, hj, e⟩ := List.getElem_of_mem h
  exact hb j hj (by rw [List.getElem?_eq_getElem hj, e])
/-- The numbers of the first pixels. -/
def nmL (p : Nat → Px) (n : Nat) : List Nat := (List.range n).map (nmb p)
theorem nmL_succ (p : Nat → Px) (n : Nat) : nmL p (n + 1) = nmL p n ++ [nmb p n] := by unfold nmL; rw [List.range_succ, List.map_append]; rfl
theorem nmL_length (p : Nat → Px) (n : Nat) : (nmL p n).length = n := by unfold nmL; rw [List.length_map, List.length_range]

theorem app_n2 (w : World) (base q : Nat) (v : Value) (l : List Nat) (x : Nat) (t : TypeId) (hown : w.ownsRow base 3 1 v l.length (nV l)) (hq : w.cell? ⟨q, 0, none⟩ = some (.int .i64 (x : Int))) (hl : l.length ≤ 1000000) (hb : base ≤ w.heap.size) :
    ∃ v' w', (Builtin.append_ #[49, 49] t #[v, .slice (some ⟨q, 0, none⟩) 1 1]).run Tryd.prog w = .ok v' w' ∧ w'.ownsRow base 3 1 v' (l ++ [x]).length (nV (l ++ [x])) ∧ w.grownBy w' v.ownBlock ∧ (v'.ownBlock = v.ownBlock ∨ v'.ownBlock = some w.heap.size) := by
  obtain ⟨i0, hi, hz0, hz1, hz2⟩ := info_parts info_int
  obtain ⟨v', w', a1, a2, a3, _, a5⟩ := run_append_own_at (P := Tryd.prog) w base 49 t 3 i0 (.int .i64 0) 1 8 Tryd.underlying49 hi hz0 hz1 hz2 rfl (by omega) v l.length (nV l) hown ⟨q, 0, none⟩ 1 1 [.int .i64 (x : Int)] rfl (fun j u hj => by
    match j, hj with
    | 0, hj => rw [addr_add, Nat.zero_add, hq]; simpa using hj) (fun u hu => by rw [List.mem_singleton] at hu; subst hu; rfl) (by unfold maxLen; omega) (by omega) hb
  refine ⟨v', w', a1, ?_, a3, a5⟩
  rw [nV_append, List.length_append]
  exact a2
theorem wpList_appN2 (w : World) {ops : Array Oper} {rest : List Oper} {o : Oper} {a : Act} {Q : Exit → Act → World → Prop} (hgd : o.guard = none) (s x : Operand)
    (ho : o.op = .call { callee := .builtin .append, args := #[s, x], argTypes := #[49, 49] }) (base q : Nat) (v : Value) (l : List Nat) (y : Nat) (hs : a.eval s = v) (hx : a.eval x = .slice (some ⟨q, 0, none⟩) 1 1)
    (hown : w.ownsRow base 3 1 v l.length (nV l)) (hq : w.cell? ⟨q, 0, none⟩ = some (.int .i64 (y : Int))) (hl : l.length ≤ 1000000) (hb : base ≤ w.heap.size)
    (h : ∀ v' w', w'.ownsRow base 3 1 v' (l ++ [y]).length (nV (l ++ [y])) → w.grownBy w' v.ownBlock → (v'.ownBlock = v.ownBlock ∨ v'.ownBlock = some w.heap.size) → wpList Tryd.prog ops Q rest (a.put o.dst v') w') : wpList Tryd.prog ops Q (o :: rest) a w := by
  obtain ⟨v', w', a1, a2, a3, a4⟩ := app_n2 w base q v l y o.type hown hq hl hb
  refine wpList_plain hgd fun _ hK => ?_
  unfold Oper.wp execOp
  simp only [ho, resolve, invoke, builtin, Sem.run_bind, Sem.run_pure, Result.andThen_ok, List.map_toArray, List.map_cons, List.map_nil, hs, hx, a1]
  exact hK _ _ (h v' w' a2 a3 a4)

end Go.Proofs.YtjcoahahponabaaDoor
namespace Go.Proofs.YtjcoahahponabaaDoor
open Go.RowKit Go.Shelf

def sbRen : Go.Shelf.Ren := ⟨fun | 166 => 29 | 167 => 61 | 169 => 33 | 240 => 43 | 276 => 55 | n => n, fun | 0 => 0 | 3 => 3 | 4 => 4 | 5 => 5 | 9 => 9 | 20 => 20 | 37 => 73 | 70 => 72 | 72 => 75 | 75 => 26 | 80 => 78 | 127 => 100 | 164 => 109 | n => n, fun | n => n⟩
theorem sbLays166 : Go.Proofs.Lays.n166 Tryd.prog sbRen := {
  mixed := by kernel_rfl
  f166 := Tryd.func29.trans (congrArg some (by kernel_rfl))
  f240 := Tryd.func43.trans (congrArg some (by kernel_rfl))
  f276 := Tryd.func55.trans (congrArg some (by kernel_rfl))
  t0 := Tryd.underlying0
  a0 := Tryd.isAgg0
  z0 := Tryd.sizeOf0
  v0 := Tryd.zeroValue0
  t3 := Tryd.underlying3
  a3 := Tryd.isAgg3
  z3 := Tryd.sizeOf3
  v3 := Tryd.zeroValue3
  t4 := Tryd.underlying4
  a4 := Tryd.isAgg4
  z4 := Tryd.sizeOf4
  v4 := Tryd.zeroValue4
  t9 := Tryd.underlying9
  a9 := Tryd.isAgg9
  z9 := Tryd.sizeOf9
  v9 := Tryd.zeroValue9
  t20 := Tryd.underlying20
  a20 := Tryd.isAgg20
  z20 := Tryd.sizeOf20
  v20 := Tryd.zeroValue20
  t37 := Tryd.underlying73
  a37 := Tryd.isAgg73
  z37 := Tryd.sizeOf73
  v37 := Tryd.zeroValue73
  t70 := Tryd.underlying72
  a70 := Tryd.isAgg72
  z70 := Tryd.sizeOf72
  v70 := Tryd.zeroValue72
  t72 := Tryd.underlying75
  a72 := Tryd.isAgg75
  z72 := Tryd.sizeOf75
  v72 := Tryd.zeroValue75
  t75 := Tryd.underlying26
  a75 := Tryd.isAgg26
  z75 := Tryd.sizeOf26
  v75 := Tryd.zeroValue26
  t164 := Tryd.underlying109
  a164 := Tryd.isAgg109
  z164 := Tryd.sizeOf109
  v164 := Tryd.zeroValue109 }
theorem sbLays167 : Go.Proofs.Lays.n167 Tryd.prog sbRen := {
  mixed := by kernel_rfl
  f167 := Tryd.func61.trans (congrArg some (by kernel_rfl))
  f240 := Tryd.func43.trans (congrArg some (by kernel_rfl))
  f276 := Tryd.func55.trans (congrArg some (by kernel_rfl))
  t0 := Tryd.underlying0
  a0 := Tryd.isAgg0
  z0 := Tryd.sizeOf0
  v0 := Tryd.zeroValue0
  t4 := Tryd.underlying4
  a4 := Tryd.isAgg4
  z4 := Tryd.sizeOf4
  v4 := Tryd.zeroValue4
  t5 := Tryd.underlying5
  a5 := Tryd.isAgg5
  z5 := Tryd.sizeOf5
  v5 := Tryd.zeroValue5
  t9 := Tryd.underlying9
  a9 := Tryd.isAgg9
  z9 := Tryd.sizeOf9
  v9 := Tryd.zeroValue9
  t20 := Tryd.underlying20
  a20 := Tryd.isAgg20
  z20 := Tryd.sizeOf20
  v20 := Tryd.zeroValue20
  t37 := Tryd.underlying73
  a37 := Tryd.isAgg73
  z37 := Tryd.sizeOf73
  v37 := Tryd.zeroValue73
  t70 := Tryd.underlying72
  a70 := Tryd.isAgg72
  z70 := Tryd.sizeOf72
  v70 := Tryd.zeroValue72
  t72 := Tryd.underlying75
  a72 := Tryd.isAgg75
  z72 := Tryd.sizeOf75
  v72 := Tryd.zeroValue75
  t75 := Tryd.underlying26
  a75 := Tryd.isAgg26
  z75 := Tryd.sizeOf26
  v75 := Tryd.zeroValue26
  t164 := Tryd.underlying109
  a164 := Tryd.isAgg109
  z164 := Tryd.sizeOf109
  v164 := Tryd.zeroValue109 }
theorem sbLays169 : Go.Proofs.Lays.n169 Tryd.prog sbRen := {
  mixed := by kernel_rfl
  f169 := Tryd.func33.trans (congrArg some (by kernel_rfl))
  t0 := Tryd.underlying0
  a0 := Tryd.isAgg0
  z0 := Tryd.sizeOf0
  v0 := Tryd.zeroValue0
  t3 := Tryd.underlying3
  a3 := Tryd.isAgg3
  z3 := Tryd.sizeOf3
  v3 := Tryd.zeroValue3
  t9 := Tryd.underlying9
  a9 := Tryd.isAgg9
  z9 := Tryd.sizeOf9
  v9 := Tryd.zeroValue9
  t37 := Tryd.underlying73
  a37 := Tryd.isAgg73
  z37 := Tryd.sizeOf73
  v37 := Tryd.zeroValue73
  t70 := Tryd.underlying72
  a70 := Tryd.isAgg72
  z70 := Tryd.sizeOf72
  v70 := Tryd.zeroValue72
  t72 := Tryd.underlying75
  a72 := Tryd.isAgg75
  z72 := Tryd.sizeOf75
  v72 := Tryd.zeroValue75
  t127 := Tryd.underlying100
  a127 := Tryd.isAgg100
  z127 := Tryd.sizeOf100
  v127 := Tryd.zeroValue100 }
theorem sbExtra : Builder.Extra Tryd.prog sbRen := {
  sizeBuilder := by kernel_rfl
  liesBuilder := by kernel_rfl
  t5 := Tryd.underlying5
  a5 := Tryd.isAgg5
  z5 := Tryd.sizeOf5
  v5 := Tryd.zeroValue5
  infoByte := by kernel_rfl
  cellsByte := by kernel_rfl
  sizeByte := by kernel_rfl
  neB5 := by decide }

/-- A builder at block b (from B on) that holds these bytes. -/
def SB (w : World) (B b : Nat) (l : List UInt8) : Prop := Lib.IsBuilder 75 5 B b (Lib.byteCells l) w

theorem sb_new (w : World) : SB (w.alloc (.cells #[.pointer none, .slice none 0 0] 75)) w.heap.size w.heap.size [] := Lib.fresh_isBuilder _ _ w
theorem sb_byte (B b : Nat) (l : List UInt8) (c : UInt8) (w : World) (h : SB w B b l) (hl : l.length ≤ 1000000) (hB : B ≤ w.heap.size) :
    Calls Tryd.prog 61 #[.pointer (some ⟨b, 0, none⟩), .int .u8 (c.toNat : Int)] w fun e w' => e = .returned .nilIface ∧ SB w' B b (l ++ [c]) ∧ Below B w w' := by
  refine (Any.Builder_WriteByte sbLays167 sbExtra B b (Lib.byteCells l) (c.toNat : Int) w h (by simp [Lib.byteCells]; omega) hB).mono ?_
  rintro e w' ⟨rfl, h1, h2⟩
  refine ⟨rfl, .inr ?_, h2⟩
  have : Lib.byteCells (l ++ [c]) = Lib.byteCells l ++ [.int .u8 (c.toNat : Int)] := by simp [Lib.byteCells]
  rw [this]; exact h1
theorem sb_text (B b : Nat) (l : List UInt8) (s : ByteArray) (w : World) (h : SB w B b l) (hl : l.length ≤ 1000000) (hs : s.size ≤ 1000000) (hB : B ≤ w.heap.size) :
    Calls Tryd.prog 29 #[.pointer (some ⟨b, 0, none⟩), .string s] w fun e w' => e = .returned (.tuple #[.int .i64 s.size, .nilIface]) ∧ SB w' B b (l ++ s.data.toList) ∧ Below B w w' := by
  refine (Any.Builder_WriteString sbLays166 sbExtra B b (Lib.byteCells l) s w h (by simp [Lib.byteCells]; omega) hB).mono ?_
  rintro e w' ⟨rfl, h1, h2⟩
  refine ⟨rfl, .inr ?_, h2⟩
  have : Lib.byteCells (l ++ s.data.toList) = Lib.byteCells l ++ Lib.strCells s := by simp [Lib.byteCells, Lib.strCells]
  rw [this]; exact h1
theorem sb_string (B b : Nat) (l : List UInt8) (w : World) (h : SB w B b l) (hB : B ≤ w.heap.size) :
    Calls Tryd.prog 33 #[.pointer (some ⟨b, 0, none⟩)] w fun e w' => e = .returned (.string ⟨l.toArray⟩) ∧ Below B w w' :=
  Any.Builder_String_any sbLays169 sbExtra B b l w h hB
end Go.Proofs.YtjcoahahponabaaDoor
namespace Go.Proofs.YtjcoahahponabaaDoor
open Go.RowKit


end Go.Proofs.YtjcoahahponabaaDoor
