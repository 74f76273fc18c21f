/- A copy of a palette that may be appended to. Places that are near: the program's. Pictures: parts, places that are near, pixels painted: the program's. Pictures: pixels that are meant become one color: the program's. Pictures: the functions that tell a pixel of each place: the program's. Written by genrt.py. Pictures: what the functions of package raster refuse. Written by genrt5.py. Pictures: what the functions of package raster refuse as out of bounds. Written by genrt5.py. Pictures: what the functions of package raster answer. Written by genrt5.py. -/
import Derived.Test.YtpfobocdbmiagaaDoorCm4
import Derived.Test.YtpfobocdbmiagaaDoorSh
import Derived.Test.YtpfobocdbmiagaaDoorMg4
import Derived.Test.YtpfobocdbmiagaaDoorBk
namespace Go.Proofs.YtpfobocdbmiagaaDoor
open Go.RowKit

theorem app_pxO (w : World) (a : Option Addr) (n c : Nat) (q : Nat → Px) (hP : IsPx w a n q) (hn : n ≤ 100000) :
    ∃ a' c' w', (Builtin.append_ #[22, 22] 22 #[.slice none 0 0, .slice a n c]).run Tryd.prog w = .ok (.slice a' n c') w' ∧ w'.ownsRow w.heap.size 40 4 (.slice a' n c') n (pxVals q n) ∧ Below w.heap.size w w' := by
  obtain ⟨i0, hi, hz0, hz1, hz2⟩ := info_parts px_info
  by_cases h0 : n = 0
  · subst h0
    exact ⟨none, 0, w, px_none w a c, World.ownsRow_nil _ _ _ _, Below.refl _ _⟩
  · obtain ⟨b, off, rfl, hm, hc⟩ := hP.resolve_left h0
    obtain ⟨g, cap, w', hr, hown, hgr, _, _⟩ := run_append_lies (P := Tryd.prog) w 22 22 w.heap.size 40 i0 (.agg #[.int .u8 0, .int .u8 0, .int .u8 0, .int .u8 0]) 4 4 Tryd.underlying22 hi hz0 hz1 hz2 rfl (by omega) (.slice none 0 0) 0 [] (World.ownsRow_nil _ _ _ _) ⟨b, off, none⟩ n c (pxVals q n) (pxVals_length q n) (px_lies hc) (fun u hu => pxVals_one hu) (by omega) (by unfold maxLen; omega) (by omega) (Nat.le_refl _) _ rfl
    rw [Nat.zero_add] at hr hown
    exact ⟨_, _, w', hr, hown, (Below.refl _ _).grown hgr (Nat.le_refl _) (fun k e => by simp [Value.ownBlock] at e)⟩
theorem wpList_appPxO (w : World) {ops : Array Oper} {rest : List Oper} {o : Oper} {a : Act} {Q : Exit → Act → World → Prop} (hgd : o.guard = none) (s x : Operand)
    (ho : o.op = .call { callee := .builtin .append, args := #[s, x], argTypes := #[22, 22] }) (hty : o.type = 22) (ao : Option Addr) (n c : Nat) (q : Nat → Px) (hs : a.eval s = .slice none 0 0) (hx : a.eval x = .slice ao n c) (hP : IsPx w ao n q) (hn : n ≤ 100000)
    (h : ∀ a' c' w', w'.ownsRow w.heap.size 40 4 (.slice a' n c') n (pxVals q n) → Below w.heap.size w w' → wpList Tryd.prog ops Q rest (a.put o.dst (.slice a' n c')) w') : wpList Tryd.prog ops Q (o :: rest) a w := by
  obtain ⟨a', c', w', h1, h2, h3⟩ := app_pxO w ao n c q hP hn
  refine wpList_plain hgd fun _ hK => ?_
  unfold Oper.wp execOp
  simp only [ho, hty, resolve, invoke, builtin, Sem.run_bind, Sem.run_pure, Result.andThen_ok, List.map_toArray, List.map_cons, List.map_nil, hs, hx, h1]
  exact hK _ _ (h a' c' w' h2 h3)
theorem paletteO_any (a : Option Addr) (n c : Nat) (q : Nat → Px) (w : World) (hP : IsPx w a n q) (hn : n ≤ 100000) :
    Calls Tryd.prog 19 #[.slice a n c] w fun e w' => ∃ a2 c2, e = .returned (.slice a2 n c2) ∧ w'.ownsRow w.heap.size 40 4 (.slice a2 n c2) n (pxVals q n) ∧ Below w.heap.size w w' := by
  have HP := hide hP
  clear hP
  go_enter Tryd.func19, Tryd.ntmps19
  go_wp2_with (at_builtin; refine wpList_appPxO _ rfl (.tmp 4) (.tmp 5) rfl rfl a n c q rfl rfl (unhide HP) hn ?_)
  intro a2 c2 w2 h2 hb2
  have H2 := hide (And.intro h2 hb2)
  clear h2 hb2
  go_wp2
  go_ret
  exact ⟨a2, c2, rfl, (unhide H2).1, (unhide H2).2⟩
/-- The first pixels as a list. -/
def firstL (q : Nat → Px) (n : Nat) : List Px := (List.range n).map q
theorem firstL_length (q : Nat → Px) (n : Nat) : (firstL q n).length = n := by unfold firstL; rw [List.length_map, List.length_range]
theorem firstL_at (q : Nat → Px) (n i : Nat) (h : i < n) : (firstL q n).getD i default = q i := by
  unfold firstL
  rw [List.getD_eq_getElem?_getD, List.getElem?_map, List.getElem?_range h]
  rfl
theorem firstL_vals (q : Nat → Px) (n : Nat) : pxVals q n = pxL (firstL q n) := by
  rw [pxL_vals, firstL_length]
  exact pxVals_congr n (fun i hi => (firstL_at q n i hi).symm)
/-- A color more. -/
def moreP (q : Nat → Px) (n : Nat) (x : Px) : Nat → Px := fun i => if i < n then q i else x
theorem firstL_more (q : Nat → Px) (n : Nat) (x : Px) : pxL (firstL q n ++ [x]) = pxVals (moreP q n x) (n + 1) := by
  rw [pxL_append, ← firstL_vals]
  have e : pxVals (moreP q n x) n = pxVals q n := pxVals_congr n (fun i hi => if_pos hi)
  show _ = pxVals (moreP q n x) n ++ (moreP q n x n).cells
  rw [e]
  have e2 : moreP q n x n = x := if_neg (Nat.lt_irrefl n)
  rw [e2]
  simp [pxL]
end Go.Proofs.YtpfobocdbmiagaaDoor
namespace Go.Proofs.YtpfobocdbmiagaaDoor
open Go.RowKit

theorem ret_boolR {a b : Bool} (h : a = b) : Ending.returned (.bool a) = .returned (.bool b) := by rw [h]

end Go.Proofs.YtpfobocdbmiagaaDoor
namespace Go.Proofs.YtpfobocdbmiagaaDoor
open Go.RowKit




end Go.Proofs.YtpfobocdbmiagaaDoor
namespace Go.Proofs.YtpfobocdbmiagaaDoor
open Go.RowKit

def picO (W H : Int) (a : Option Addr) (n c : Nat) : Obj := .cells #[.int .i64 W, .int .i64 H, .slice a n c] 24
def pixO (p : Px) : Obj := .cells #[.int .u8 (p.r.toNat : Int), .int .u8 (p.g.toNat : Int), .int .u8 (p.b.toNat : Int), .int .u8 (p.a.toNat : Int)] 40


end Go.Proofs.YtpfobocdbmiagaaDoor
namespace Go.Proofs.YtpfobocdbmiagaaDoor
open Go.RowKit








end Go.Proofs.YtpfobocdbmiagaaDoor
namespace Go.Proofs.YtpfobocdbmiagaaDoor
open Go.RowKit

theorem far3 (w : World) (k b o : Nat) (v1 v2 v3 : Value) (h : k ≠ b) : (((w.setCell ⟨k, 0, none⟩ v1).setCell ⟨k, 1, none⟩ v2).setCell ⟨k, 2, none⟩ v3).cell? ⟨b, o, none⟩ = w.cell? ⟨b, o, none⟩ := by
  rw [World.cell?_setCell_far _ _ _ _ h, World.cell?_setCell_far _ _ _ _ h, World.cell?_setCell_far _ _ _ _ h]










end Go.Proofs.YtpfobocdbmiagaaDoor
namespace Go.Proofs.YtpfobocdbmiagaaDoor
open Go.RowKit

theorem rightN {W H n : Nat} (hW0 : 1 ≤ W) (hW : W ≤ 256) (hH0 : 1 ≤ H) (hH : H ≤ 256) (hn : n = W * H) : RightP (W : Int) (H : Int) n := ⟨by omega, by omega, by rw [hn]; simp⟩
/-- Near. -/
def Nr (z : Int) : Prop := -10000 ≤ z ∧ z ≤ 10000
instance (z : Int) : Decidable (Nr z) := by unfold Nr; infer_instance










end Go.Proofs.YtpfobocdbmiagaaDoor
namespace Go.Proofs.YtpfobocdbmiagaaDoor
open Go.RowKit











end Go.Proofs.YtpfobocdbmiagaaDoor
