/- Small walks of the statements on colors: a copy of a palette, two palettes held against each other, small pictures. Results that lie in cells. Pictures: the program's small tests, and a pixel at a place. -/
import Derived.Test.YtpfobocdbmiagaaDoorCu4
import Derived.Test.YtpfobocdbmiagaaDoorMg3
import Derived.Test.YtpfobocdbmiagaaDoorRt0
import Derived.Test.YtpfobocdbmiagaaDoorSameInts
import Derived.Test.YtpfobocdbmiagaaDoorBase
import Derived.Test.YtpfobocdbmiagaaDoorSh
import Derived.Test.YtpfobocdbmiagaaDoorQf
namespace Go.Proofs.YtpfobocdbmiagaaDoor
open Go.RowKit

theorem small3_any (W H : Int) (a : Option Addr) (n c : Nat) (w : World) :
    Calls Tryd.prog 8 #[.agg #[.int .i64 W, .int .i64 H, .slice a n c]] w fun e w' => e = .returned (.bool (decide (n ≤ 3000))) ∧ Below w.heap.size w w' := by
  have hb : Below w.heap.size w (w.alloc (.cells #[.int .i64 W, .int .i64 H, .slice a n c] 24)) := (Below.refl _ _).alloc (Nat.le_refl _) _
  have hd : decide ((n : Int) ≤ 3000) = decide (n ≤ 3000) := by simp; omega
  go_enter Tryd.func8, Tryd.ntmps8
  go_wp2
  go_ret
  exact ⟨by first | rfl | rw [hd], hb⟩
theorem paletteC_any (a : Option Addr) (n c : Nat) (q : Nat → Px) (w : World) (hP : IsPx w a n q) (hn : n ≤ 100000) :
    Calls Tryd.prog 19 #[.slice a n c] w fun e w' => ∃ a2 c2, e = .returned (.slice a2 n c2) ∧ IsPx w' a2 n q ∧ Below w.heap.size w w' := by
  have HP := hide hP
  clear hP
  go_enter Tryd.func19, Tryd.ntmps19
  go_wp2_with (at_builtin; refine wpList_appPx _ rfl (.tmp 4) (.tmp 5) rfl rfl a n c q rfl rfl (unhide HP) hn ?_)
  intro a2 c2 w2 h2 hb2
  have H2 := hide (And.intro h2 hb2)
  clear h2 hb2
  go_wp2
  go_ret
  exact ⟨a2, c2, rfl, (unhide H2).1, (unhide H2).2⟩

set_option maxHeartbeats 2000000 in
set_option maxRecDepth 100000 in
theorem samePixels_any (a b : Option Addr) (n c d : Nat) (p : Nat → Px) (w : World) (hA : IsPx w a n p) (hB : IsPx w b n p) (hn : n ≤ 100000) :
    Calls Tryd.prog 16 #[.slice a n c, .slice b n d] w fun e w' => e = .returned (.bool true) ∧ Below w.heap.size w w' := by
  have HA := hide hA
  have HB := hide hB
  clear hA hB
  go_enter Tryd.func16, Tryd.ntmps16
  go_wp2
  go_loopw [5] (fun iv wr => ∃ i nn : Nat, i ≤ n ∧ iv = .int .i64 (i : Int) ∧ wr = w.drewN nn) (fun iv _ => n - (intOf iv).toNat)
  case atStart => exact ⟨0, 0, by omega, rfl, rfl⟩
  case round =>
    obtain ⟨i, nn, hi, rfl, rfl⟩ := hrel
    by_cases hlt : i < n
    · have g1 : decide ((i : Int) < (n : Int)) = true := decide_eq_true (by omega)
      have g1n : decide (i < n) = true := decide_eq_true hlt
      obtain ⟨bA, oA, rfl, _, hcA⟩ := (unhide HA).resolve_left (by omega)
      obtain ⟨bB, oB, rfl, hm, hcB⟩ := (unhide HB).resolve_left (by omega)
      obtain ⟨a0, a1, a2, a3⟩ := hcA i hlt
      obtain ⟨b0, b1, b2, b3⟩ := hcB i hlt
      have ha1 : (i : Int) < (n : Int) := by omega
      clear hcA hcB HA HB
      go_wp2
      go_quiet (fail)
      go_wp2
      go_roundw
      case rel => exact ⟨i + 1, _, by omega, by go_num, rfl⟩
      case measure => simp [intOf]; omega
    · obtain rfl : i = n := by omega
      have g1 : decide ((i : Int) < (i : Int)) = false := by simp
      go_wp2
      go_ret
      exact ⟨rfl, below_drewN (Below.refl _ _) nn⟩
end Go.Proofs.YtpfobocdbmiagaaDoor
namespace Go.Proofs.YtpfobocdbmiagaaDoor
open Go.RowKit

theorem results_c {fn : Func} {p : Tmp} {ty : TypeId} (h : fn.results = #[.cell p ty]) (tmps : Array Value) (P : Program) (w : World) :
    (results fn tmps).run P w = ((asAddr (tmps.getD p undef)).run P w).andThen fun a w₁ => (loadVar ty a).run P w₁ := by
  simp only [results, h]
  simp [Sem.run_bind, Result.andThen]
theorem results_tc {fn : Func} {p u : Tmp} {ty : TypeId} (h : fn.results = #[.tmp u, .cell p ty]) (tmps : Array Value) (P : Program) (w : World) :
    (results fn tmps).run P w = ((asAddr (tmps.getD p undef)).run P w).andThen fun a w₁ => ((loadVar ty a).run P w₁).andThen fun v w₂ => .ok (.tuple #[tmps.getD u undef, v]) w₂ := by
  simp only [results, h]
  simp [Sem.run_bind, Result.andThen]
theorem results_ct {fn : Func} {p u : Tmp} {ty : TypeId} (h : fn.results = #[.cell p ty, .tmp u]) (tmps : Array Value) (P : Program) (w : World) :
    (results fn tmps).run P w = ((asAddr (tmps.getD p undef)).run P w).andThen fun a w₁ => ((loadVar ty a).run P w₁).andThen fun v w₂ => .ok (.tuple #[v, tmps.getD u undef]) w₂ := by
  simp only [results, h]
  simp [Sem.run_bind, Result.andThen]
end Go.Proofs.YtpfobocdbmiagaaDoor
namespace Go.Proofs.YtpfobocdbmiagaaDoor
open Go.RowKit



theorem below_two (w : World) (o o2 : Obj) : Below w.heap.size w ((w.alloc o).alloc o2) := ((Below.refl _ _).alloc (Nat.le_refl _) _).alloc (by simp) _

end Go.Proofs.YtpfobocdbmiagaaDoor
