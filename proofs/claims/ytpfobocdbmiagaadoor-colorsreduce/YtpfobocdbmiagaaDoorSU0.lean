/- A use's five cells; a row of such in the kit's words. -/
import Derived.Test.YtpfobocdbmiagaaDoorCu1
import Derived.Test.YtpfobocdbmiagaaDoorSt
import Derived.Shelf.SlSortCmp.KitK
import Derived.Sort.WalkA
import Derived.Sort.WalkB2
import Derived.Sort.WalkB12
import Derived.Deep.LoopGhost
import Derived.RegionTactic
import Derived.ChangeAlike
import Derived.BigRegion
import Derived.BigQuiet
namespace Go.Proofs.YtpfobocdbmiagaaDoor
open Go.Shelf Go.RowKit Go.Lib Go.Sort St

def encU (x : Us) : List Value := x.cells
theorem encU_len (x : Us) : (encU x).length = 5 := rfl
theorem encU_one (x : Us) : ∀ v ∈ encU x, v.oneCell' = true := fun v hv => by simp [encU, Us.cells] at hv; rcases hv with rfl | rfl | rfl | rfl | rfl <;> rfl

theorem cellsU {w0 W : World} {blk off : Nat} {dk d0 : Array Us} (h : SWK encU 5 w0 blk off dk W) (R : RowK encU 5 w0 blk off d0) (hs : dk.size = d0.size) (i : Nat) (hi : i < dk.size) :
    W.cell? ⟨blk, off + i * 5, none⟩ = some (.int .u8 ((dk[i]!).c.r.toNat : Int)) ∧ W.cell? ⟨blk, off + i * 5 + 1, none⟩ = some (.int .u8 ((dk[i]!).c.g.toNat : Int)) ∧ W.cell? ⟨blk, off + i * 5 + 2, none⟩ = some (.int .u8 ((dk[i]!).c.b.toNat : Int)) ∧ W.cell? ⟨blk, off + i * 5 + 3, none⟩ = some (.int .u8 ((dk[i]!).c.a.toNat : Int)) ∧ W.cell? ⟨blk, off + i * 5 + 4, none⟩ = some (.int .i64 ((dk[i]!).t : Int)) ∧ W.frozen? ⟨blk, off + i * 5, none⟩ = false ∧ W.frozen? ⟨blk, off + i * 5 + 1, none⟩ = false ∧ W.frozen? ⟨blk, off + i * 5 + 2, none⟩ = false ∧ W.frozen? ⟨blk, off + i * 5 + 3, none⟩ = false ∧ W.frozen? ⟨blk, off + i * 5 + 4, none⟩ = false := by
  have hh := h.holds R.hblk R.hH hs
  obtain ⟨a0, b0⟩ := HoldsK.cell hh (i := i) (c := 0) hi (by omega)
  obtain ⟨a1, b1⟩ := HoldsK.cell hh (i := i) (c := 1) hi (by omega)
  obtain ⟨a2, b2⟩ := HoldsK.cell hh (i := i) (c := 2) hi (by omega)
  obtain ⟨a3, b3⟩ := HoldsK.cell hh (i := i) (c := 3) hi (by omega)
  obtain ⟨a4, b4⟩ := HoldsK.cell hh (i := i) (c := 4) hi (by omega)
  exact ⟨a0, a1, a2, a3, a4, b0, b1, b2, b3, b4⟩
theorem gcellsU {w0 W : World} {blk off : Nat} {dk d0 : Array Us} (h : SWK encU 5 w0 blk off dk W) (R : RowK encU 5 w0 blk off d0) (hs : dk.size = d0.size) (i : Nat) (hi : i < dk.size) :
    (∀ n os, (grow (W.drewN n) os).cell? ⟨blk, off + i * 5, none⟩ = some (.int .u8 ((dk[i]!).c.r.toNat : Int))) ∧ (∀ n os, (grow (W.drewN n) os).cell? ⟨blk, off + i * 5 + 1, none⟩ = some (.int .u8 ((dk[i]!).c.g.toNat : Int))) ∧ (∀ n os, (grow (W.drewN n) os).cell? ⟨blk, off + i * 5 + 2, none⟩ = some (.int .u8 ((dk[i]!).c.b.toNat : Int))) ∧ (∀ n os, (grow (W.drewN n) os).cell? ⟨blk, off + i * 5 + 3, none⟩ = some (.int .u8 ((dk[i]!).c.a.toNat : Int))) ∧ (∀ n os, (grow (W.drewN n) os).cell? ⟨blk, off + i * 5 + 4, none⟩ = some (.int .i64 ((dk[i]!).t : Int))) :=
  ⟨fun n os => (cellsU (h.grown n os) R hs i hi).1, fun n os => (cellsU (h.grown n os) R hs i hi).2.1, fun n os => (cellsU (h.grown n os) R hs i hi).2.2.1, fun n os => (cellsU (h.grown n os) R hs i hi).2.2.2.1, fun n os => (cellsU (h.grown n os) R hs i hi).2.2.2.2.1⟩
theorem some_setU {w : World} {p q : Addr} {v u : Value} (h : w.cell? q = some u) : ∃ u', (w.setCell p v).cell? q = some u' := by
  by_cases e : p = q
  · subst e; exact ⟨v, World.cell?_setCell_same _ _ _ h⟩
  · exact ⟨u, (World.cell?_setCell_other _ _ _ _ e).trans h⟩
theorem afterU {w0 W : World} {blk off : Nat} {dk d0 : Array Us} (h : SWK encU 5 w0 blk off dk W) (R : RowK encU 5 w0 blk off d0) (hs : dk.size = d0.size) (i j : Nat) (hi : i < dk.size) (hj : j < dk.size) (x y : Us) :
    ∃ u1 u2 u3 u4 u5 u6 u7 u8 u9, (W.setCell ⟨blk, off + i * 5, none⟩ (.int .u8 (y.c.r.toNat : Int))).cell? ⟨blk, off + i * 5 + 1, none⟩ = some u1 ∧ ((W.setCell ⟨blk, off + i * 5, none⟩ (.int .u8 (y.c.r.toNat : Int))).setCell ⟨blk, off + i * 5 + 1, none⟩ (.int .u8 (y.c.g.toNat : Int))).cell? ⟨blk, off + i * 5 + 2, none⟩ = some u2 ∧ (((W.setCell ⟨blk, off + i * 5, none⟩ (.int .u8 (y.c.r.toNat : Int))).setCell ⟨blk, off + i * 5 + 1, none⟩ (.int .u8 (y.c.g.toNat : Int))).setCell ⟨blk, off + i * 5 + 2, none⟩ (.int .u8 (y.c.b.toNat : Int))).cell? ⟨blk, off + i * 5 + 3, none⟩ = some u3 ∧ ((((W.setCell ⟨blk, off + i * 5, none⟩ (.int .u8 (y.c.r.toNat : Int))).setCell ⟨blk, off + i * 5 + 1, none⟩ (.int .u8 (y.c.g.toNat : Int))).setCell ⟨blk, off + i * 5 + 2, none⟩ (.int .u8 (y.c.b.toNat : Int))).setCell ⟨blk, off + i * 5 + 3, none⟩ (.int .u8 (y.c.a.toNat : Int))).cell? ⟨blk, off + i * 5 + 4, none⟩ = some u4 ∧ (((((W.setCell ⟨blk, off + i * 5, none⟩ (.int .u8 (y.c.r.toNat : Int))).setCell ⟨blk, off + i * 5 + 1, none⟩ (.int .u8 (y.c.g.toNat : Int))).setCell ⟨blk, off + i * 5 + 2, none⟩ (.int .u8 (y.c.b.toNat : Int))).setCell ⟨blk, off + i * 5 + 3, none⟩ (.int .u8 (y.c.a.toNat : Int))).setCell ⟨blk, off + i * 5 + 4, none⟩ (.int .i64 (y.t : Int))).cell? ⟨blk, off + j * 5, none⟩ = some u5 ∧ ((((((W.setCell ⟨blk, off + i * 5, none⟩ (.int .u8 (y.c.r.toNat : Int))).setCell ⟨blk, off + i * 5 + 1, none⟩ (.int .u8 (y.c.g.toNat : Int))).setCell ⟨blk, off + i * 5 + 2, none⟩ (.int .u8 (y.c.b.toNat : Int))).setCell ⟨blk, off + i * 5 + 3, none⟩ (.int .u8 (y.c.a.toNat : Int))).setCell ⟨blk, off + i * 5 + 4, none⟩ (.int .i64 (y.t : Int))).setCell ⟨blk, off + j * 5, none⟩ (.int .u8 (x.c.r.toNat : Int))).cell? ⟨blk, off + j * 5 + 1, none⟩ = some u6 ∧ (((((((W.setCell ⟨blk, off + i * 5, none⟩ (.int .u8 (y.c.r.toNat : Int))).setCell ⟨blk, off + i * 5 + 1, none⟩ (.int .u8 (y.c.g.toNat : Int))).setCell ⟨blk, off + i * 5 + 2, none⟩ (.int .u8 (y.c.b.toNat : Int))).setCell ⟨blk, off + i * 5 + 3, none⟩ (.int .u8 (y.c.a.toNat : Int))).setCell ⟨blk, off + i * 5 + 4, none⟩ (.int .i64 (y.t : Int))).setCell ⟨blk, off + j * 5, none⟩ (.int .u8 (x.c.r.toNat : Int))).setCell ⟨blk, off + j * 5 + 1, none⟩ (.int .u8 (x.c.g.toNat : Int))).cell? ⟨blk, off + j * 5 + 2, none⟩ = some u7 ∧ ((((((((W.setCell ⟨blk, off + i * 5, none⟩ (.int .u8 (y.c.r.toNat : Int))).setCell ⟨blk, off + i * 5 + 1, none⟩ (.int .u8 (y.c.g.toNat : Int))).setCell ⟨blk, off + i * 5 + 2, none⟩ (.int .u8 (y.c.b.toNat : Int))).setCell ⟨blk, off + i * 5 + 3, none⟩ (.int .u8 (y.c.a.toNat : Int))).setCell ⟨blk, off + i * 5 + 4, none⟩ (.int .i64 (y.t : Int))).setCell ⟨blk, off + j * 5, none⟩ (.int .u8 (x.c.r.toNat : Int))).setCell ⟨blk, off + j * 5 + 1, none⟩ (.int .u8 (x.c.g.toNat : Int))).setCell ⟨blk, off + j * 5 + 2, none⟩ (.int .u8 (x.c.b.toNat : Int))).cell? ⟨blk, off + j * 5 + 3, none⟩ = some u8 ∧ (((((((((W.setCell ⟨blk, off + i * 5, none⟩ (.int .u8 (y.c.r.toNat : Int))).setCell ⟨blk, off + i * 5 + 1, none⟩ (.int .u8 (y.c.g.toNat : Int))).setCell ⟨blk, off + i * 5 + 2, none⟩ (.int .u8 (y.c.b.toNat : Int))).setCell ⟨blk, off + i * 5 + 3, none⟩ (.int .u8 (y.c.a.toNat : Int))).setCell ⟨blk, off + i * 5 + 4, none⟩ (.int .i64 (y.t : Int))).setCell ⟨blk, off + j * 5, none⟩ (.int .u8 (x.c.r.toNat : Int))).setCell ⟨blk, off + j * 5 + 1, none⟩ (.int .u8 (x.c.g.toNat : Int))).setCell ⟨blk, off + j * 5 + 2, none⟩ (.int .u8 (x.c.b.toNat : Int))).setCell ⟨blk, off + j * 5 + 3, none⟩ (.int .u8 (x.c.a.toNat : Int))).cell? ⟨blk, off + j * 5 + 4, none⟩ = some u9 := by
  obtain ⟨a0, a1, a2, a3, a4, _⟩ := cellsU h R hs i hi
  obtain ⟨b0, b1, b2, b3, b4, _⟩ := cellsU h R hs j hj
  obtain ⟨q1_0, h1_0⟩ := some_setU (p := ⟨blk, off + i * 5, none⟩) (v := .int .u8 (y.c.r.toNat : Int)) a1
  obtain ⟨q2_0, h2_0⟩ := some_setU (p := ⟨blk, off + i * 5, none⟩) (v := .int .u8 (y.c.r.toNat : Int)) a2
  obtain ⟨q2_1, h2_1⟩ := some_setU (p := ⟨blk, off + i * 5 + 1, none⟩) (v := .int .u8 (y.c.g.toNat : Int)) h2_0
  obtain ⟨q3_0, h3_0⟩ := some_setU (p := ⟨blk, off + i * 5, none⟩) (v := .int .u8 (y.c.r.toNat : Int)) a3
  obtain ⟨q3_1, h3_1⟩ := some_setU (p := ⟨blk, off + i * 5 + 1, none⟩) (v := .int .u8 (y.c.g.toNat : Int)) h3_0
  obtain ⟨q3_2, h3_2⟩ := some_setU (p := ⟨blk, off + i * 5 + 2, none⟩) (v := .int .u8 (y.c.b.toNat : Int)) h3_1
  obtain ⟨q4_0, h4_0⟩ := some_setU (p := ⟨blk, off + i * 5, none⟩) (v := .int .u8 (y.c.r.toNat : Int)) a4
  obtain ⟨q4_1, h4_1⟩ := some_setU (p := ⟨blk, off + i * 5 + 1, none⟩) (v := .int .u8 (y.c.g.toNat : Int)) h4_0
  obtain ⟨q4_2, h4_2⟩ := some_setU (p := ⟨blk, off + i * 5 + 2, none⟩) (v := .int .u8 (y.c.b.toNat : Int)) h4_1
  obtain ⟨q4_3, h4_3⟩ := some_setU (p := ⟨blk, off + i * 5 + 3, none⟩) (v := .int .u8 (y.c.a.toNat : Int)) h4_2
  obtain ⟨q5_0, h5_0⟩ := some_setU (p := ⟨blk, off + i * 5, none⟩) (v := .int .u8 (y.c.r.toNat : Int)) b0
  obtain ⟨q5_1, h5_1⟩ := some_setU (p := ⟨blk, off + i * 5 + 1, none⟩) (v := .int .u8 (y.c.g.toNat : Int)) h5_0
  obtain ⟨q5_2, h5_2⟩ := some_setU (p := ⟨blk, off + i * 5 + 2, none⟩) (v := .int .u8 (y.c.b.toNat : Int)) h5_1
  obtain ⟨q5_3, h5_3⟩ := some_setU (p := ⟨blk, off + i * 5 + 3, none⟩) (v := .int .u8 (y.c.a.toNat : Int)) h5_2
  obtain ⟨q5_4, h5_4⟩ := some_setU (p := ⟨blk, off + i * 5 + 4, none⟩) (v := .int .i64 (y.t : Int)) h5_3
  obtain ⟨q6_0, h6_0⟩ := some_setU (p := ⟨blk, off + i * 5, none⟩) (v := .int .u8 (y.c.r.toNat : Int)) b1
  obtain ⟨q6_1, h6_1⟩ := some_setU (p := ⟨blk, off + i * 5 + 1, none⟩) (v := .int .u8 (y.c.g.toNat : Int)) h6_0
  obtain ⟨q6_2, h6_2⟩ := some_setU (p := ⟨blk, off + i * 5 + 2, none⟩) (v := .int .u8 (y.c.b.toNat : Int)) h6_1
  obtain ⟨q6_3, h6_3⟩ := some_setU (p := ⟨blk, off + i * 5 + 3, none⟩) (v := .int .u8 (y.c.a.toNat : Int)) h6_2
  obtain ⟨q6_4, h6_4⟩ := some_setU (p := ⟨blk, off + i * 5 + 4, none⟩) (v := .int .i64 (y.t : Int)) h6_3
  obtain ⟨q6_5, h6_5⟩ := some_setU (p := ⟨blk, off + j * 5, none⟩) (v := .int .u8 (x.c.r.toNat : Int)) h6_4
  obtain ⟨q7_0, h7_0⟩ := some_setU (p := ⟨blk, off + i * 5, none⟩) (v := .int .u8 (y.c.r.toNat : Int)) b2
  obtain ⟨q7_1, h7_1⟩ := some_setU (p := ⟨blk, off + i * 5 + 1, none⟩) (v := .int .u8 (y.c.g.toNat : Int)) h7_0
  obtain ⟨q7_2, h7_2⟩ := some_setU (p := ⟨blk, off + i * 5 + 2, none⟩) (v := .int .u8 (y.c.b.toNat : Int)) h7_1
  obtain ⟨q7_3, h7_3⟩ := some_setU (p := ⟨blk, off + i * 5 + 3, none⟩) (v := .int .u8 (y.c.a.toNat : Int)) h7_2
  obtain ⟨q7_4, h7_4⟩ := some_setU (p := ⟨blk, off + i * 5 + 4, none⟩) (v := .int .i64 (y.t : Int)) h7_3
  obtain ⟨q7_5, h7_5⟩ := some_setU (p := ⟨blk, off + j * 5, none⟩) (v := .int .u8 (x.c.r.toNat : Int)) h7_4
  obtain ⟨q7_6, h7_6⟩ := some_setU (p := ⟨blk, off + j * 5 + 1, none⟩) (v := .int .u8 (x.c.g.toNat : Int)) h7_5
  obtain ⟨q8_0, h8_0⟩ := some_setU (p := ⟨blk, off + i * 5, none⟩) (v := .int .u8 (y.c.r.toNat : Int)) b3
  obtain ⟨q8_1, h8_1⟩ := some_setU (p := ⟨blk, off + i * 5 + 1, none⟩) (v := .int .u8 (y.c.g.toNat : Int)) h8_0
  obtain ⟨q8_2, h8_2⟩ := some_setU (p := ⟨blk, off + i * 5 + 2, none⟩) (v := .int .u8 (y.c.b.toNat : Int)) h8_1
  obtain ⟨q8_3, h8_3⟩ := some_setU (p := ⟨blk, off + i * 5 + 3, none⟩) (v := .int .u8 (y.c.a.toNat : Int)) h8_2
  obtain ⟨q8_4, h8_4⟩ := some_setU (p := ⟨blk, off + i * 5 + 4, none⟩) (v := .int .i64 (y.t : Int)) h8_3
  obtain ⟨q8_5, h8_5⟩ := some_setU (p := ⟨blk, off + j * 5, none⟩) (v := .int .u8 (x.c.r.toNat : Int)) h8_4
  obtain ⟨q8_6, h8_6⟩ := some_setU (p := ⟨blk, off + j * 5 + 1, none⟩) (v := .int .u8 (x.c.g.toNat : Int)) h8_5
  obtain ⟨q8_7, h8_7⟩ := some_setU (p := ⟨blk, off + j * 5 + 2, none⟩) (v := .int .u8 (x.c.b.toNat : Int)) h8_6
  obtain ⟨q9_0, h9_0⟩ := some_setU (p := ⟨blk, off + i * 5, none⟩) (v := .int .u8 (y.c.r.toNat : Int)) b4
  obtain ⟨q9_1, h9_1⟩ := some_setU (p := ⟨blk, off + i * 5 + 1, none⟩) (v := .int .u8 (y.c.g.toNat : Int)) h9_0
  obtain ⟨q9_2, h9_2⟩ := some_setU (p := ⟨blk, off + i * 5 + 2, none⟩) (v := .int .u8 (y.c.b.toNat : Int)) h9_1
  obtain ⟨q9_3, h9_3⟩ := some_setU (p := ⟨blk, off + i * 5 + 3, none⟩) (v := .int .u8 (y.c.a.toNat : Int)) h9_2
  obtain ⟨q9_4, h9_4⟩ := some_setU (p := ⟨blk, off + i * 5 + 4, none⟩) (v := .int .i64 (y.t : Int)) h9_3
  obtain ⟨q9_5, h9_5⟩ := some_setU (p := ⟨blk, off + j * 5, none⟩) (v := .int .u8 (x.c.r.toNat : Int)) h9_4
  obtain ⟨q9_6, h9_6⟩ := some_setU (p := ⟨blk, off + j * 5 + 1, none⟩) (v := .int .u8 (x.c.g.toNat : Int)) h9_5
  obtain ⟨q9_7, h9_7⟩ := some_setU (p := ⟨blk, off + j * 5 + 2, none⟩) (v := .int .u8 (x.c.b.toNat : Int)) h9_6
  obtain ⟨q9_8, h9_8⟩ := some_setU (p := ⟨blk, off + j * 5 + 3, none⟩) (v := .int .u8 (x.c.a.toNat : Int)) h9_7
  exact ⟨q1_0, q2_1, q3_2, q4_3, q5_4, q6_5, q7_6, q8_7, q9_8, h1_0, h2_1, h3_2, h4_3, h5_4, h6_5, h7_6, h8_7, h9_8⟩
theorem setCells5 (w : World) (blk o : Nat) (a b c d e : Value) : w.setCells blk o [a, b, c, d, e] = ((((w.setCell ⟨blk, o, none⟩ a).setCell ⟨blk, o + 1, none⟩ b).setCell ⟨blk, o + 2, none⟩ c).setCell ⟨blk, o + 3, none⟩ d).setCell ⟨blk, o + 4, none⟩ e := rfl
theorem drew_setU (w : World) (p : Addr) (v : Value) : w.drew.setCell p v = (w.setCell p v).drew := rfl
theorem swappedU {w0 W : World} {blk off : Nat} {dk d0 : Array Us} (h : SWK encU 5 w0 blk off dk W) (R : RowK encU 5 w0 blk off d0) (i j : Nat) (hi : i < dk.size) (hj : j < dk.size) :
    SWK encU 5 w0 blk off (swp dk i j) (((((((((((W.setCell ⟨blk, off + i * 5, none⟩ (.int .u8 ((dk[j]!).c.r.toNat : Int))).setCell ⟨blk, off + i * 5 + 1, none⟩ (.int .u8 ((dk[j]!).c.g.toNat : Int))).setCell ⟨blk, off + i * 5 + 2, none⟩ (.int .u8 ((dk[j]!).c.b.toNat : Int))).setCell ⟨blk, off + i * 5 + 3, none⟩ (.int .u8 ((dk[j]!).c.a.toNat : Int))).setCell ⟨blk, off + i * 5 + 4, none⟩ (.int .i64 ((dk[j]!).t : Int))).setCell ⟨blk, off + j * 5, none⟩ (.int .u8 ((dk[i]!).c.r.toNat : Int))).setCell ⟨blk, off + j * 5 + 1, none⟩ (.int .u8 ((dk[i]!).c.g.toNat : Int))).setCell ⟨blk, off + j * 5 + 2, none⟩ (.int .u8 ((dk[i]!).c.b.toNat : Int))).setCell ⟨blk, off + j * 5 + 3, none⟩ (.int .u8 ((dk[i]!).c.a.toNat : Int))).setCell ⟨blk, off + j * 5 + 4, none⟩ (.int .i64 ((dk[i]!).t : Int))).drew) := by
  have h1 := h.swapped R i j hi hj
  have e : ∀ x : Us, encU x = [.int .u8 (x.c.r.toNat : Int), .int .u8 (x.c.g.toNat : Int), .int .u8 (x.c.b.toNat : Int), .int .u8 (x.c.a.toNat : Int), .int .i64 (x.t : Int)] := fun _ => rfl
  rw [e, e] at h1
  generalize dk[i]! = x at *
  generalize dk[j]! = y at *
  rw [setCells5, setCells5] at h1
  simp only [drew_setU] at h1
  exact h1
end Go.Proofs.YtpfobocdbmiagaaDoor
