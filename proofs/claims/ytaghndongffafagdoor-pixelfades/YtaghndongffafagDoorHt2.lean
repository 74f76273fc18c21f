/- Pixels as texts: the program's Text. -/
import Derived.Test.YtaghndongffafagDoorHt1
import Derived.Test.YtaghndongffafagDoorOm
import Derived.Deep.RegionLaw
import Derived.Lib.JoinLaws
namespace Go.Proofs.YtaghndongffafagDoor
open Go.RowKit

theorem step_appMn {w : World} {ops : Array Oper} {o : Oper} {a : Act} {K : Act → World → Prop} {Q : Exit → Act → World → Prop} {E : Prop} (hgd : o.guard = none) (s x : Operand)
    (ho : o.op = .call { callee := .builtin .append, args := #[s, x], argTypes := #[51, 51] }) (base q k : Nat) (v : Value) (l m : List UInt8) (hs : a.eval s = v) (hx : a.eval x = .slice (some ⟨q, 0, none⟩) k k) (hk : m.length = k)
    (hown : OwnM w base v l) (hq : ∀ j u, (byteVals m)[j]? = some u → w.cell? ⟨q, j, none⟩ = some u) (hl : l.length + m.length ≤ 4000000) (hb : base ≤ w.heap.size)
    (h : ∀ v' w', OwnM w' base v' (l ++ m) → w.grownBy w' v.ownBlock → K (a.put o.dst v') w') : if Region.wanted o (yielded ops a.tmps) = true then Oper.wp Tryd.prog o a w K Q else E := by
  have hw : Region.wanted o (yielded ops a.tmps) = true := by simp [Region.wanted, hgd]
  rw [if_pos hw]
  subst hk
  obtain ⟨v', w', h1, h2, h3, _⟩ := appMn w base q v l m o.type hq hown hl hb
  unfold Oper.wp execOp
  simp only [ho, resolve, invoke, builtin, Sem.run_bind, Sem.run_pure, Result.andThen_ok, List.map_toArray, List.map_cons, List.map_nil, hs, hx, h1]
  exact h v' w' h2 h3

theorem hex_made (n : Nat) (hn : n ≤ 4000000) (w : World) : OwnM (w.alloc (.cells (madeCells #[.int .u8 0] n) 5)) w.heap.size (.slice (some ⟨w.heap.size, 0, none⟩) 0 n) [] := by
  refine ⟨⟨w.heap.size, n, rfl, Nat.le_refl _, by simp, by simp, by unfold maxLen; omega, fun j hj => ⟨?_, ?_⟩, fun j hj => absurd hj (by simp)⟩⟩
  · rw [World.cell?_alloc_mark]
    have e := toList_madeCells_one (.int .u8 0) n
    have : (madeCells #[.int .u8 0] n).toList[j]? = some (.int .u8 0) := by rw [e, List.getElem?_replicate, if_pos hj]
    have h2 : (madeCells #[.int .u8 0] n)[j]? = some (.int .u8 0) := by simpa using this
    rw [h2]
    rfl
  · have hh := heap_alloc_new w (.cells (madeCells #[.int .u8 0] n) 5)
    unfold World.frozen?
    rw [hh]
    simp
theorem hex_room (n : Nat) (hn : n ≤ 4000000) (w : World) : (Instr.makeSlice 51 (.int .i64 0) (.int .i64 (n : Int))).run Tryd.prog w = .ok (.slice (some ⟨w.heap.size, 0, none⟩) 0 n) (w.alloc (.cells (madeCells #[.int .u8 0] n) 5)) :=
  Go.run_make_room (P := Tryd.prog) 51 5 (.int .u8 0) 1 Tryd.underlying51 info_u8 rfl .i64 .i64 n (by omega) (by omega) w

/-- One of four bytes. -/
def c4 (p : Px) (i : Nat) : UInt8 := if i = 0 then p.r else if i = 1 then p.g else if i = 2 then p.b else p.a
def hxN (p : Px) : Nat → List UInt8
  | 0 => []
  | i + 1 => hxN p i ++ hx2 (c4 p i)
theorem hxN_length (p : Px) (n : Nat) : (hxN p n).length = 2 * n := by
  induction n with
  | zero => rfl
  | succ n ih => simp [hxN, ih, hx2]; omega
theorem hxN_four (p : Px) : hxN p 4 = pxL8 p := rfl
set_option maxRecDepth 100000 in
theorem four_index (p : Px) (i : Nat) (hi : i < 4) (w : World) : Sem.run Tryd.prog (Instr.index 54 p.val (.int .i64 (i : Int))) w = .ok (.int .u8 ((c4 p i).toNat : Int)) w := by
  rcases (show i = 0 ∨ i = 1 ∨ i = 2 ∨ i = 3 by omega) with rfl | rfl | rfl | rfl <;> kernel_rfl
theorem and_15 : ∀ n : Nat, n < 256 → bits .and .u8 (n : Int) 15 = ((n % 16 : Nat) : Int) := by decide +kernel
theorem or_16 : ∀ a : Nat, a < 16 → ∀ b : Nat, b < 16 → bits .or .u8 ((a : Int) * 16) (b : Int) = ((16 * a + b : Nat) : Int) := by decide +kernel
theorem hex_get : ∀ k : Nat, (h : k < 16) → (⟨#[48, 49, 50, 51, 52, 53, 54, 55, 56, 57, 97, 98, 99, 100, 101, 102]⟩ : ByteArray)[k] = hexd k := by decide +kernel
end Go.Proofs.YtaghndongffafagDoor
