/- Walks of the document's helpers on pictures: is one right? Memory of its own; are two the same? -/
import Derived.Test.YtjcoahahponabaaGreatDoorMh3
import Derived.Deep.OwnRows
import Derived.Deep.AppendLies
import Derived.Deep.QuietTactic
import Derived.Laws.OwnMore
import Derived.Laws.ResultCell
namespace Go.Proofs.YtjcoahahponabaaGreatDoor
open Go.RowKit


theorem side_any (z : Int) (w : World) :
    Calls Tryz.prog 36 #[.int .i64 z] w fun e w' => e = .returned (.bool (decide (1 ≤ z ∧ z ≤ 256))) ∧ w' = w := by
  by_cases h1 : 1 ≤ z
  · have d1 : decide (z ≥ 1) = true := decide_eq_true h1
    have d1' : decide (1 ≤ z) = true := d1
    by_cases h2 : z ≤ 256
    · have d2 : decide (z ≤ 256) = true := decide_eq_true h2
      rw [decide_eq_true (⟨h1, h2⟩ : 1 ≤ z ∧ z ≤ 256)]
      clear h1 h2
      go_enter Tryz.func36, Tryz.ntmps36
      go_wp2
      go_ret
      exact ⟨rfl, rfl⟩
    · have d2 : decide (z ≤ 256) = false := decide_eq_false h2
      rw [decide_eq_false (fun q : 1 ≤ z ∧ z ≤ 256 => h2 q.2)]
      clear h1 h2
      go_enter Tryz.func36, Tryz.ntmps36
      go_wp2
      go_ret
      exact ⟨rfl, rfl⟩
  · have d1 : decide (z ≥ 1) = false := decide_eq_false h1
    have d1' : decide (1 ≤ z) = false := d1
    rw [decide_eq_false (fun q : 1 ≤ z ∧ z ≤ 256 => h1 q.1)]
    clear h1
    go_enter Tryz.func36, Tryz.ntmps36
    go_wp2
    go_ret
    exact ⟨rfl, rfl⟩

/-- A picture is right. -/
def RightP (W H : Int) (n : Nat) : Prop := (1 ≤ W ∧ W ≤ 256) ∧ (1 ≤ H ∧ H ≤ 256) ∧ (n : Int) = W * H
instance (W H : Int) (n : Nat) : Decidable (RightP W H n) := by unfold RightP; infer_instance

theorem pright_any (W H : Int) (a : Option Addr) (n c : Nat) (w : World) :
    Calls Tryz.prog 40 #[.agg #[.int .i64 W, .int .i64 H, .slice a n c]] w fun e w' => e = .returned (.bool (decide (RightP W H n))) ∧ Below w.heap.size w w' := by
  have hb : Below w.heap.size w (w.alloc (.cells #[.int .i64 W, .int .i64 H, .slice a n c] 27)) := (Below.refl _ _).alloc (Nat.le_refl _) _
  have HS := hide side_any
  by_cases h1 : 1 ≤ W ∧ W ≤ 256
  · by_cases h2 : 1 ≤ H ∧ H ≤ 256
    · have hz : 0 ≤ W * H ∧ W * H ≤ 65536 := by
        have q1 := Int.mul_nonneg (show 0 ≤ W by omega) (show 0 ≤ H by omega)
        have q2 : W * H ≤ 256 * 256 := Int.mul_le_mul h1.2 h2.2 (by omega) (by omega)
        omega
      obtain ⟨m, hm⟩ : ∃ m, m = W * H := ⟨_, rfl⟩
      have hm' : W * H = m := hm.symm
      have hR : decide (RightP W H n) = decide ((n : Int) = m) := by
        unfold RightP
        rw [hm]
        congr 1
        simp [h1, h2]
      rw [hR]
      rw [← hm] at hz
      have e1 := fun w => side_any W w
      have e2 := fun w => side_any H w
      rw [decide_eq_true h1] at e1
      rw [decide_eq_true h2] at e2
      have E1 := hide e1
      have E2 := hide e2
      have hbq : ((n : Int) == m) = decide ((n : Int) = m) := by
        by_cases q : (n : Int) = m
        · rw [decide_eq_true q]; simpa using q
        · rw [decide_eq_false q]; simpa using q
      clear hm hR e1 e2 HS h1 h2
      go_enter Tryz.func40, Tryz.ntmps40
      go_wp2_with fail
      refine (unhide E1 _).mono ?_; rintro e w1 ⟨rfl, rfl⟩
      go_wp2_with fail
      refine (unhide E2 _).mono ?_; rintro e w1 ⟨rfl, rfl⟩
      go_wp2
      go_ret
      exact ⟨by first | rfl | rw [hbq], hb⟩
    · have e1 := fun w => side_any W w
      have e2 := fun w => side_any H w
      rw [decide_eq_true h1] at e1
      rw [decide_eq_false h2] at e2
      have E1 := hide e1
      have E2 := hide e2
      rw [decide_eq_false (fun q : RightP W H n => h2 q.2.1)]
      clear e1 e2 HS h1 h2
      go_enter Tryz.func40, Tryz.ntmps40
      go_wp2_with fail
      refine (unhide E1 _).mono ?_; rintro e w1 ⟨rfl, rfl⟩
      go_wp2_with fail
      refine (unhide E2 _).mono ?_; rintro e w1 ⟨rfl, rfl⟩
      go_wp2
      go_ret
      exact ⟨rfl, hb⟩
  · have e1 := fun w => side_any W w
    rw [decide_eq_false h1] at e1
    have E1 := hide e1
    rw [decide_eq_false (fun q : RightP W H n => h1 q.1)]
    clear e1 HS h1
    go_enter Tryz.func40, Tryz.ntmps40
    go_wp2_with fail
    refine (unhide E1 _).mono ?_; rintro e w1 ⟨rfl, rfl⟩
    go_wp2
    go_ret
    exact ⟨rfl, hb⟩

theorem results_cellP {fn : Func} {p : Tmp} {ty : TypeId} (h : fn.results = #[.cell p ty]) (tmps : Array Value) (P : Program) (w : World) :
    (results fn tmps).run P w = ((asAddr (tmps.getD p undef)).run P w).andThen fun a w₁ => (loadVar ty a).run P w₁ := by
  simp only [results, h]
  simp [Sem.run_bind, Result.andThen]
theorem wpList_append_eqP (w : World) {ops : Array Oper} {rest : List Oper} {o : Oper} {a : Act} {Q : Exit → Act → World → Prop} (hgd : o.guard = none) (s x : Operand) (t : TypeId)
    (ho : o.op = .call { callee := .builtin .append, args := #[s, x], argTypes := #[t, t] }) (v u r : Value) (hs : a.eval s = v) (hx : a.eval x = u)
    (hr : (Builtin.append_ #[t, t] o.type #[v, u]).run Tryz.prog w = .ok r w) (h : wpList Tryz.prog ops Q rest (a.put o.dst r) w) : wpList Tryz.prog ops Q (o :: rest) a w :=
  wpList_plain hgd fun _ hK => by
    unfold Oper.wp execOp
    simp only [ho, resolve, invoke, builtin, Sem.run_bind, Sem.run_pure, Result.andThen_ok, List.map_toArray, List.map_cons, List.map_nil, hs, hx, hr]
    exact hK _ _ h

theorem px_three (w : World) (x y z : Array Value) (t : TypeId) (j : Nat) :
    (((w.alloc (.cells x t)).alloc (.cells y t)).alloc (.cells z t)).cell? ⟨w.heap.size, j, none⟩ = x[j]? ∧ (((w.alloc (.cells x t)).alloc (.cells y t)).alloc (.cells z t)).cell? ⟨w.heap.size + 1, j, none⟩ = y[j]? ∧
    (((w.alloc (.cells x t)).alloc (.cells y t)).alloc (.cells z t)).cell? ⟨w.heap.size + 1 + 1, j, none⟩ = z[j]? ∧
    (((w.alloc (.cells x t)).alloc (.cells y t)).alloc (.cells z t)).frozen? ⟨w.heap.size + 1, j, none⟩ = false ∧ (((w.alloc (.cells x t)).alloc (.cells y t)).alloc (.cells z t)).frozen? ⟨w.heap.size + 1 + 1, j, none⟩ = false := by
  have e1 : (w.alloc (.cells x t)).heap.size = w.heap.size + 1 := by simp
  have e2 : ((w.alloc (.cells x t)).alloc (.cells y t)).heap.size = w.heap.size + 1 + 1 := by simp
  have h1 : (((w.alloc (.cells x t)).alloc (.cells y t)).alloc (.cells z t)).heap[w.heap.size + 1]? = some (.cells y t) := by
    rw [Below.heap_alloc _ _ _ (by omega), ← e1]
    exact heap_alloc_new _ _
  have h2 : (((w.alloc (.cells x t)).alloc (.cells y t)).alloc (.cells z t)).heap[w.heap.size + 1 + 1]? = some (.cells z t) := by
    rw [← e2]
    exact heap_alloc_new _ _
  refine ⟨?_, ?_, ?_, by unfold World.frozen?; rw [h1]; simp, by unfold World.frozen?; rw [h2]; simp⟩
  · rw [World.cell?_alloc_lt _ _ ⟨w.heap.size, j, none⟩ (by simp; omega), World.cell?_alloc_lt _ _ ⟨w.heap.size, j, none⟩ (by simp), World.cell?_alloc_mark]
  · rw [World.cell?_alloc_lt _ _ ⟨w.heap.size + 1, j, none⟩ (by simp), ← e1, World.cell?_alloc_mark]
  · rw [← e2, World.cell?_alloc_mark]

set_option maxHeartbeats 2000000 in
set_option maxRecDepth 100000 in
theorem own_any (W H : Int) (a : Option Addr) (n c : Nat) (p : Nat → Px) (w : World) (hP : IsPx w a n p) (hn : n ≤ 100000) :
    Calls Tryz.prog 42 #[.agg #[.int .i64 W, .int .i64 H, .slice a n c]] w fun e w' => ∃ a2 c2, e = .returned (.agg #[.int .i64 W, .int .i64 H, .slice a2 n c2]) ∧ w'.ownsRow w.heap.size 78 4 (.slice a2 n c2) n (pxVals p n) ∧ Below w.heap.size w w' := by
  obtain ⟨i0, hi, hz0, hz1, hz2⟩ := info_parts px_info
  have HBA : Hid (∀ x y z : Obj, Below w.heap.size w (((w.alloc x).alloc y).alloc z)) := fun x y z => (((Below.refl _ _).alloc (Nat.le_refl _) _).alloc (by simp) _).alloc (by simp; omega) _
  by_cases h0 : n = 0
  · subst h0
    have Hc := hide (fun w => px_none w a c)
    clear hP hi hz0 hz1 hz2
    go_enter Tryz.func42, Tryz.ntmps42
    go_wp2_with (at_builtin; refine wpList_append_eqP _ rfl (.tmp 10) (.tmp 12) 25 rfl (.slice none 0 0) (.slice a 0 c) (.slice none 0 0) rfl rfl (unhide Hc _) ?_)
    go_wp2
    refine bodyPost_ret (v := .agg #[.int .i64 W, .int .i64 H, .slice none 0 0]) ?_ rfl ⟨none, 0, rfl, World.ownsRow_nil _ _ _ _, ?_⟩
    · rw [results_cellP (p := 2) (ty := 27) (by kernel_rfl)]
      go_simp
    · first
      | exact unhide HBA _ _ _
      | exact (((unhide HBA _ _ _).setCell (p := ⟨w.heap.size + 1, 0, none⟩) (by simp) _).setCell (p := ⟨w.heap.size + 1, 1, none⟩) (by simp) _).setCell (p := ⟨w.heap.size + 1, 2, none⟩) (by simp) _
  · obtain ⟨b, off, rfl, hm, hc⟩ := hP.resolve_left h0
    have HL : Hid (∀ w', Below w.heap.size w w' → ∀ j u, (pxVals p n)[j]? = some u → w'.cell? ((⟨b, off, none⟩ : Addr).add j) = some u) := fun w' hb => px_lies (fun i hi => (hc i hi).below hb (hc i hi).lt)
    have Hi := hide hi
    have Hz0 := hide hz0
    have Hz1 := hide hz1
    have Hz2 := hide hz2
    have hlen := pxVals_length p n
    have H1 : Hid (∀ u ∈ pxVals p n, u.oneCell' = true) := fun u hu => pxVals_one hu
    clear hi hz0 hz1 hz2 hc hP
    go_enter Tryz.func42, Tryz.ntmps42
    go_wp2_with (at_builtin; refine wpList_append_lies _ rfl (.tmp 10) (.tmp 12) 25 rfl w.heap.size 78 i0 (.agg #[.int .u8 0, .int .u8 0, .int .u8 0, .int .u8 0]) 4 4 Tryz.underlying25 (unhide Hi) (unhide Hz0) (unhide Hz1) (unhide Hz2) rfl (by omega) (.slice none 0 0) 0 [] rfl (World.ownsRow_nil _ _ _ _) ⟨b, off, none⟩ n c (pxVals p n) rfl hlen (unhide HL _ (unhide HBA _ _ _)) (unhide H1) (by omega) (by unfold maxLen; omega) (by omega) (by simp; omega) _ rfl ?_)
    intro g cap2 w1 hown hgr hat hlt
    have hg3 : g = w.heap.size + 1 + 1 + 1 := by
      rcases hat with h | h
      · simp [Value.ownBlock] at h
      · exact h
    have hbw : Below w.heap.size w w1 := (unhide HBA _ _ _).grown hgr (by simp; omega) (fun k e => by simp [Value.ownBlock] at e)
    have hblk : ∀ k, k < w.heap.size + 3 → w1.heap[k]? = (((w.alloc (.cells #[.int .i64 W, .int .i64 H, .slice (some ⟨b, off, none⟩) n c] 27)).alloc (.cells #[.int .i64 0, .int .i64 0, .slice none 0 0] 27)).alloc (.cells #[.int .i64 W, .int .i64 H, .slice none 0 0] 27)).heap[k]? := fun k hk => hgr.block k (by simp; omega) (by simp [Value.ownBlock])
    have hcell : ∀ k j, k < w.heap.size + 3 → w1.cell? ⟨k, j, none⟩ = (((w.alloc (.cells #[.int .i64 W, .int .i64 H, .slice (some ⟨b, off, none⟩) n c] 27)).alloc (.cells #[.int .i64 0, .int .i64 0, .slice none 0 0] 27)).alloc (.cells #[.int .i64 W, .int .i64 H, .slice none 0 0] 27)).cell? ⟨k, j, none⟩ := fun k j hk => World.cell?_of_block (hblk k hk)
    have hfroz : ∀ k j, k < w.heap.size + 3 → w1.frozen? ⟨k, j, none⟩ = (((w.alloc (.cells #[.int .i64 W, .int .i64 H, .slice (some ⟨b, off, none⟩) n c] 27)).alloc (.cells #[.int .i64 0, .int .i64 0, .slice none 0 0] 27)).alloc (.cells #[.int .i64 W, .int .i64 H, .slice none 0 0] 27)).frozen? ⟨k, j, none⟩ := fun k j hk => World.frozen?_of_block (hblk k hk)
    have h3 := px_three w #[.int .i64 W, .int .i64 H, .slice (some ⟨b, off, none⟩) n c] #[.int .i64 0, .int .i64 0, .slice none 0 0] #[.int .i64 W, .int .i64 H, .slice none 0 0] 27
    have a0 : w1.cell? ⟨w.heap.size + 1, 0, none⟩ = some (.int .i64 0) := (hcell _ _ (by omega)).trans (h3 0).2.1
    have a1 : w1.cell? ⟨w.heap.size + 1, 1, none⟩ = some (.int .i64 0) := (hcell _ _ (by omega)).trans (h3 1).2.1
    have a2 : w1.cell? ⟨w.heap.size + 1, 2, none⟩ = some (.slice none 0 0) := (hcell _ _ (by omega)).trans (h3 2).2.1
    have b0 : w1.cell? ⟨w.heap.size + 1 + 1, 0, none⟩ = some (.int .i64 W) := (hcell _ _ (by omega)).trans (h3 0).2.2.1
    have b1 : w1.cell? ⟨w.heap.size + 1 + 1, 1, none⟩ = some (.int .i64 H) := (hcell _ _ (by omega)).trans (h3 1).2.2.1
    have b2 : w1.cell? ⟨w.heap.size + 1 + 1, 2, none⟩ = some (.slice none 0 0) := (hcell _ _ (by omega)).trans (h3 2).2.2.1
    have fa0 : w1.frozen? ⟨w.heap.size + 1, 0, none⟩ = false := (hfroz _ _ (by omega)).trans (h3 0).2.2.2.1
    have fa1 : w1.frozen? ⟨w.heap.size + 1, 1, none⟩ = false := (hfroz _ _ (by omega)).trans (h3 1).2.2.2.1
    have fa2 : w1.frozen? ⟨w.heap.size + 1, 2, none⟩ = false := (hfroz _ _ (by omega)).trans (h3 2).2.2.2.1
    have fb2 : w1.frozen? ⟨w.heap.size + 1 + 1, 2, none⟩ = false := (hfroz _ _ (by omega)).trans (h3 2).2.2.2.2
    have HO := hide hown
    have HBW := hide hbw
    have HG := hide hg3
    have hln : (pxVals p n).length = n * 4 := hlen
    clear hown hgr hat hbw hblk hcell hfroz hg3 h3
    go_wp2
    refine bodyPost_ret (v := .agg #[.int .i64 W, .int .i64 H, .slice (some ⟨g, 0, none⟩) n cap2]) ?_ rfl ⟨some ⟨g, 0, none⟩, cap2, rfl, ?_, ?_⟩
    · rw [results_cellP (p := 2) (ty := 27) (by kernel_rfl)]
      go_simp
    · have hO := unhide HO
      have hg := unhide HG
      refine ⟨hO.1, ?_⟩
      rcases hO.2 with q | ⟨g', cap', cur, hv, hb', hh, r⟩
      · exact .inl q
      · injection hv with hv1 hv2 hv3
        injection hv1 with hv1
        injection hv1 with hv1
        subst hv1
        refine .inr ⟨g, cap', cur, by rw [hv3], hb', ?_, r⟩
        rw [Below.heap_setCell _ _ _ _ (by show g ≠ w.heap.size + 1; omega), Below.heap_setCell _ _ _ _ (by show g ≠ w.heap.size + 1; omega), Below.heap_setCell _ _ _ _ (by show g ≠ w.heap.size + 1; omega), Below.heap_setCell _ _ _ _ (by show g ≠ w.heap.size + 1 + 1; omega)]
        exact hh
    · exact ((((unhide HBW).setCell (p := ⟨w.heap.size + 1 + 1, 2, none⟩) (by simp; omega) _).setCell (p := ⟨w.heap.size + 1, 0, none⟩) (by simp) _).setCell (p := ⟨w.heap.size + 1, 1, none⟩) (by simp) _).setCell (p := ⟨w.heap.size + 1, 2, none⟩) (by simp) _

set_option maxHeartbeats 2000000 in
set_option maxRecDepth 100000 in
/-- Two pictures of the same sides and pixels are the same. -/
theorem samePicture_any (W H : Int) (a b : Option Addr) (n c d : Nat) (p : Nat → Px) (w : World) (hA : IsPx w a n p) (hB : IsPx w b n p) (hn : n ≤ 100000) :
    Calls Tryz.prog 32 #[.agg #[.int .i64 W, .int .i64 H, .slice a n c], .agg #[.int .i64 W, .int .i64 H, .slice b n d]] w fun e w' => e = .returned (.bool true) ∧ Below w.heap.size w w' := by
  have hba : Below w.heap.size w ((w.alloc (.cells #[.int .i64 W, .int .i64 H, .slice a n c] 27)).alloc (.cells #[.int .i64 W, .int .i64 H, .slice b n d] 27)) := ((Below.refl _ _).alloc (Nat.le_refl _) _).alloc (by simp) _
  have HA := hide (hA.below hba)
  have HB := hide (hB.below hba)
  have HBA := hide hba
  have k2 : ((w.alloc (.cells #[.int .i64 W, .int .i64 H, .slice a n c] 27)).alloc (.cells #[.int .i64 W, .int .i64 H, .slice b n d] 27)).cell? ⟨w.heap.size, 2, none⟩ = some (.slice a n c) := by
    rw [World.cell?_alloc_lt _ _ ⟨w.heap.size, 2, none⟩ (by simp), World.cell?_alloc_mark]
    rfl
  have l2 : ((w.alloc (.cells #[.int .i64 W, .int .i64 H, .slice a n c] 27)).alloc (.cells #[.int .i64 W, .int .i64 H, .slice b n d] 27)).cell? ⟨w.heap.size + 1, 2, none⟩ = some (.slice b n d) := by
    have e : (w.alloc (.cells #[.int .i64 W, .int .i64 H, .slice a n c] 27)).heap.size = w.heap.size + 1 := by simp
    rw [← e, World.cell?_alloc_mark]
    rfl
  clear hA hB hba
  go_enter Tryz.func32, Tryz.ntmps32
  go_wp2
  generalize (w.alloc (.cells #[.int .i64 W, .int .i64 H, .slice a n c] 27)).alloc (.cells #[.int .i64 W, .int .i64 H, .slice b n d] 27) = w0 at *
  go_loopw [5] (fun iv wr => ∃ i nn : Nat, i ≤ n ∧ iv = .int .i64 (i : Int) ∧ wr = w0.drewN nn) (fun iv _ => n - (intOf iv).toNat)
  case atStart => exact ⟨0, 0, by omega, rfl, rfl⟩
  case round =>
    obtain ⟨i, nn, hi, rfl, rfl⟩ := hrel
    by_cases hlt : i < n
    · have g1 : decide ((i : Int) < (n : Int)) = true := decide_eq_true (by omega)
      have g1n : decide (i < n) = true := decide_eq_true hlt
      obtain ⟨bA, oA, rfl, _, hcA⟩ := (unhide HA).resolve_left (by omega)
      obtain ⟨bB, oB, rfl, hm, hcB⟩ := (unhide HB).resolve_left (by omega)
      obtain ⟨a0, a1, a2, a3⟩ := hcA i hlt
      obtain ⟨b0, b1, b2, b3⟩ := hcB i hlt
      have ha1 : (i : Int) < (n : Int) := by omega
      clear hcA hcB HA HB
      go_wp2
      go_quiet (fail)
      go_wp2
      go_roundw
      case rel => exact ⟨i + 1, _, by omega, by go_num, rfl⟩
      case measure => simp [intOf]; omega
    · obtain rfl : i = n := by omega
      have g1 : decide ((i : Int) < (i : Int)) = false := by simp
      go_wp2
      go_ret
      exact ⟨rfl, below_drewN (unhide HBA) nn⟩
end Go.Proofs.YtjcoahahponabaaGreatDoor
