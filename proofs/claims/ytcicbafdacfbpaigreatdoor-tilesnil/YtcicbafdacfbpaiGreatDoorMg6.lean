/- Results that lie in cells. Pictures: the program's small tests, and a pixel at a place. -/
import Derived.Test.YtcicbafdacfbpaiGreatDoorMg1
import Derived.Test.YtcicbafdacfbpaiGreatDoorMg4
import Derived.Test.YtcicbafdacfbpaiGreatDoorRt0
import Derived.Test.YtcicbafdacfbpaiGreatDoorMg3
namespace Go.Proofs.YtcicbafdacfbpaiGreatDoor
open Go.RowKit

theorem results_c {fn : Func} {p : Tmp} {ty : TypeId} (h : fn.results = #[.cell p ty]) (tmps : Array Value) (P : Program) (w : World) :
    (results fn tmps).run P w = ((asAddr (tmps.getD p undef)).run P w).andThen fun a w₁ => (loadVar ty a).run P w₁ := by
  simp only [results, h]
  simp [Sem.run_bind, Result.andThen]
theorem results_tc {fn : Func} {p u : Tmp} {ty : TypeId} (h : fn.results = #[.tmp u, .cell p ty]) (tmps : Array Value) (P : Program) (w : World) :
    (results fn tmps).run P w = ((asAddr (tmps.getD p undef)).run P w).andThen fun a w₁ => ((loadVar ty a).run P w₁).andThen fun v w₂ => .ok (.tuple #[tmps.getD u undef, v]) w₂ := by
  simp only [results, h]
  simp [Sem.run_bind, Result.andThen]
theorem results_ct {fn : Func} {p u : Tmp} {ty : TypeId} (h : fn.results = #[.cell p ty, .tmp u]) (tmps : Array Value) (P : Program) (w : World) :
    (results fn tmps).run P w = ((asAddr (tmps.getD p undef)).run P w).andThen fun a w₁ => ((loadVar ty a).run P w₁).andThen fun v w₂ => .ok (.tuple #[v, tmps.getD u undef]) w₂ := by
  simp only [results, h]
  simp [Sem.run_bind, Result.andThen]
end Go.Proofs.YtcicbafdacfbpaiGreatDoor
namespace Go.Proofs.YtcicbafdacfbpaiGreatDoor
open Go.RowKit



theorem below_two (w : World) (o o2 : Obj) : Below w.heap.size w ((w.alloc o).alloc o2) := ((Below.refl _ _).alloc (Nat.le_refl _) _).alloc (by simp) _

set_option maxHeartbeats 4000000 in
set_option maxRecDepth 100000 in
theorem rat_any (W H : Nat) (x y : Nat) (a : Option Addr) (n c : Nat) (p : Nat → Px) (w : World) (hP : IsPx w a n p) (hW : W ≤ 256) (hH : H ≤ 256) (hx : x < W) (hy : y < H) (hn : n = W * H) :
    Calls Tryz.prog 68 #[.agg #[.int .i64 (W : Int), .int .i64 (H : Int), .slice a n c], .int .i64 (x : Int), .int .i64 (y : Int)] w fun e w' => e = .returned (p (y * W + x)).val ∧ Below w.heap.size w w' := by
  have hlt : y * W + x < n := by
    have h2 : (y + 1) * W ≤ H * W := Nat.mul_le_mul_right W hy
    rw [hn, Nat.mul_comm W H]
    rw [Nat.succ_mul] at h2
    omega
  have hyW : y * W ≤ 65536 := Nat.mul_le_mul (show y ≤ 256 by omega) hW
  obtain ⟨t, ht⟩ : ∃ t, t = y * W := ⟨_, rfl⟩
  have zt : (y : Int) * (W : Int) = (t : Int) := by rw [ht]; simp
  rw [← ht] at hlt hyW ⊢
  have wt : IntKind.i64.wrap (t : Int) = (t : Int) := by rw [IntKind.wrap_i64]; omega
  have e0 : (t : Int) + (x : Int) = ((t + x : Nat) : Int) := by simp
  obtain ⟨b, off, rfl, hm, hc⟩ := hP.resolve_left (by omega)
  have hcc := hc (t + x) hlt
  have hb2 : Below w.heap.size w ((w.alloc (.cells #[.int .i64 (W : Int), .int .i64 (H : Int), .slice (some ⟨b, off, none⟩) n c] 24)).alloc (.cells #[.int .u8 0, .int .u8 0, .int .u8 0, .int .u8 0] 39)) := ((Below.refl _ _).alloc (Nat.le_refl _) _).alloc (by simp) _
  obtain ⟨c0, c1, c2, c3⟩ := hcc.below hb2 hcc.lt
  have HBB := hide (below_two w)
  generalize p (t + x) = q at *
  unfold Px.val
  obtain ⟨k, hk⟩ : ∃ k, k = t + x := ⟨_, rfl⟩
  rw [← hk] at hlt e0 c0 c1 c2 c3
  have wk : IntKind.i64.wrap (k : Int) = (k : Int) := by rw [IntKind.wrap_i64]; omega
  have hkn : (k : Int) < (n : Int) := by omega
  clear hk hc hcc hb2 ht hP hx hy hn
  go_enter Tryz.func68, Tryz.ntmps68
  go_wp2
  refine bodyPost_ret (v := .agg #[.int .u8 (q.r.toNat : Int), .int .u8 (q.g.toNat : Int), .int .u8 (q.b.toNat : Int), .int .u8 (q.a.toNat : Int)]) ?_ rfl ⟨rfl, ?_⟩
  · rw [results_cellP (p := 6) (ty := 39) (by kernel_rfl)]
    go_simp
  · exact unhide HBB _ _
end Go.Proofs.YtcicbafdacfbpaiGreatDoor
