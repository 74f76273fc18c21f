/- A disk: Write. -/
import Derived.Test.YthkecbgifajmmaaDoorDk3
import Derived.Deep.RegionHeldLaw
import Derived.Deep.WholeRow
import Derived.Great.BuildSlice
import Derived.OwnWalk
namespace Go.Proofs.YthkecbgifajmmaaDoor
open Go.RowKit

set_option maxHeartbeats 1000000 in
set_option maxRecDepth 100000 in
theorem dwrite_bound (q n : Nat) (i : Int) (s : ByteArray) (fp : List Nat) (D : DkS) (w : World) (tE : TypeId) (vE : Value) (h : DAt w q n fp D) (hi : i < 0 ∨ (n : Int) ≤ i) (hE : w.cell? ⟨0, 0, none⟩ = some (.iface tE vE)) :
    Calls Tryd.prog 25 #[.pointer (some ⟨q, 0, none⟩), .int .i64 i, .string s] w fun e w' => e = .returned (.iface tE vE) ∧ w' = w := by
  have H := hide h
  have HI := hide hi
  clear h hi
  go_enter Tryd.func25, Tryd.ntmps25
  go_wp2_with fail
  refine (dhas_no q n i fp D _ (unhide H) (unhide HI)).mono ?_
  rintro e w1 ⟨rfl, rfl⟩
  go_wp2
  go_ret
  exact ⟨rfl, rfl⟩

set_option maxHeartbeats 1000000 in
set_option maxRecDepth 100000 in
theorem dwrite_shape (q n i : Nat) (s : ByteArray) (fp : List Nat) (D : DkS) (w : World) (tE : TypeId) (vE : Value) (h : DAt w q n fp D) (hi : i < n) (hs : 64 < s.size) (hE : w.cell? ⟨2, 0, none⟩ = some (.iface tE vE)) :
    Calls Tryd.prog 25 #[.pointer (some ⟨q, 0, none⟩), .int .i64 (i : Int), .string s] w fun e w' => e = .returned (.iface tE vE) ∧ w' = w := by
  have H := hide h
  have d0 : decide ((s.size : Int) > 64) = true := decide_eq_true (by omega)
  have d1 : decide ((64 : Int) < (s.size : Int)) = true := decide_eq_true (by omega)
  clear h
  go_enter Tryd.func25, Tryd.ntmps25
  go_wp2_with fail
  refine (dhas_yes q n i fp D _ (unhide H) hi).mono ?_
  rintro e w1 ⟨rfl, rfl⟩
  go_wp2
  go_ret
  exact ⟨rfl, rfl⟩

set_option maxHeartbeats 1000000 in
set_option maxRecDepth 100000 in
theorem dwrite_power (q n i : Nat) (s : ByteArray) (fp : List Nat) (D : DkS) (w : World) (tE : TypeId) (vE : Value) (h : DAt w q n fp D) (hi : i < n) (hs : s.size ≤ 64) (hp : D.pw = some 0) (hE : w.cell? ⟨8, 0, none⟩ = some (.iface tE vE)) :
    Calls Tryd.prog 25 #[.pointer (some ⟨q, 0, none⟩), .int .i64 (i : Int), .string s] w fun e w' => e = .returned (.iface tE vE) ∧ w' = w := by
  have H := hide h
  have HP := hide hp
  have d0 : decide ((s.size : Int) > 64) = false := decide_eq_false (by omega)
  have d1 : decide ((64 : Int) < (s.size : Int)) = false := decide_eq_false (by omega)
  clear h hp
  go_enter Tryd.func25, Tryd.ntmps25
  go_wp2_with fail
  refine (dhas_yes q n i fp D _ (unhide H) hi).mono ?_
  rintro e w1 ⟨rfl, rfl⟩
  go_wp2_with fail
  refine (dspend_no q n fp D _ tE vE (unhide H) (unhide HP) hE).mono ?_
  rintro e w1 ⟨rfl, rfl⟩
  go_wp2
  go_ret
  exact ⟨rfl, rfl⟩

/-- What an act takes of the power. -/
theorem dspend_ok (q n : Nat) (fp : List Nat) (D : DkS) (p : Option Nat) (w : World) (h : DAt w q n fp D) (hp : spS D.pw = some p) :
    Calls Tryd.prog 30 #[.pointer (some ⟨q, 0, none⟩)] w fun e w' => e = .returned .nilIface ∧ DAt w' q n fp { D with pw := p } ∧ Mv fp fp w w' := by
  rcases hq : D.pw with _ | k
  · rw [hq] at hp
    simp only [spS, Option.some.injEq] at hp
    subst hp
    refine (dspend_none q n fp D w h hq).mono ?_
    rintro e w1 ⟨rfl, rfl⟩
    have e1 : ({ D with pw := none } : DkS) = D := by cases D; simp at hq; simp [hq]
    exact ⟨rfl, by rw [e1]; exact h, Mv.refl _ _⟩
  · cases k with
    | zero => rw [hq] at hp; simp [spS] at hp
    | succ k =>
      rw [hq] at hp
      simp only [spS, Option.some.injEq] at hp
      subst hp
      exact dspend_yes q n k fp D w h hq

theorem DP.keep {w w' : World} {q n g1 c1 g2 c2 : Nat} {sw : Option Addr} {cw : Nat} {z : Int} {D : DkS} (h : DP w q n g1 c1 g2 c2 sw cw z D) (hb : ∀ k, k ∈ q :: g1 :: g2 :: (blkS sw).toList → w'.heap[k]? = w.heap[k]?) : DP w' q n g1 c1 g2 c2 sw cw z D :=
  ⟨(hb q (by simp)).trans h.box, h.now.kept (hb g1 (by simp)), h.kept.kept (hb g2 (by simp)), own_keep h.ws (fun b hk => hb b (by simp only [List.mem_cons]; exact .inr (.inr (.inr hk)))), h.b1, h.b2, h.m1, h.m2, h.pb, h.nd⟩
theorem DP.putNow {w : World} {q n g1 c1 g2 c2 : Nat} {sw : Option Addr} {cw : Nat} {z : Int} {D : DkS} (h : DP w q n g1 c1 g2 c2 sw cw z D) (hf : ∀ j, (D.now j).size = 64) (i : Nat) (hi : i < n) (s : ByteArray) (hs : s.size = 64) :
    DP (w.setCells g1 (i * 64) (secL s)) q n g1 c1 g2 c2 sw cw z { D with now := updS D.now i s } := by
  have hnd := h.nd
  have n1 : q ≠ g1 := by simp at hnd; exact hnd.1.1
  have n2 : g2 ≠ g1 := by simp at hnd; exact fun e => hnd.2.1.1 e.symm
  have n3 : ∀ b, b ∈ (blkS sw).toList → b ≠ g1 := fun b hb e => by
    subst e
    rw [List.nodup_cons, List.nodup_cons] at hnd
    exact hnd.2.1 (List.mem_cons_of_mem _ hb)
  exact ⟨(heap_setCells _ _ _ _ _ n1).trans h.box, h.now.put hf i hi s hs, h.kept.kept (heap_setCells _ _ _ _ _ n2), own_keep h.ws (fun b hb => heap_setCells _ _ _ _ _ (n3 b hb)), h.b1, h.b2, h.m1, h.m2, h.pb, hnd⟩
theorem DP.putKept {w : World} {q n g1 c1 g2 c2 : Nat} {sw : Option Addr} {cw : Nat} {z : Int} {D : DkS} (h : DP w q n g1 c1 g2 c2 sw cw z D) (hf : ∀ j, (D.kept j).size = 64) (i : Nat) (hi : i < n) (s : ByteArray) (hs : s.size = 64) :
    DP (w.setCells g2 (i * 64) (secL s)) q n g1 c1 g2 c2 sw cw z { D with kept := updS D.kept i s } := by
  have hnd := h.nd
  have n1 : q ≠ g2 := by simp at hnd; exact hnd.1.2.1
  have n2 : g1 ≠ g2 := by simp at hnd; exact hnd.2.1.1
  have n3 : ∀ b, b ∈ (blkS sw).toList → b ≠ g2 := fun b hb e => by
    subst e
    rw [List.nodup_cons, List.nodup_cons, List.nodup_cons] at hnd
    exact hnd.2.2.1 hb
  exact ⟨(heap_setCells _ _ _ _ _ n1).trans h.box, h.now.kept (heap_setCells _ _ _ _ _ n2), h.kept.put hf i hi s hs, own_keep h.ws (fun b hb => heap_setCells _ _ _ _ _ (n3 b hb)), h.b1, h.b2, h.m1, h.m2, h.pb, hnd⟩

theorem wri_infoZ : (Tryd.prog.info? 71).map (fun i => (i.zero, i.size, i.bytes)) = some (some (.agg Tryd.zeroCells71), 65, 72) := by kernel_rfl
theorem onceD {R G : Prop} (h : R → G) (r : R) : G := h r
theorem step_op {P : Program} {ops : Array Oper} {o : Oper} {a : Act} {w : World} {K : Act → World → Prop} {Q : Exit → Act → World → Prop} {E : Prop} (hgd : o.guard = none) (h : o.wp P a w K Q) : if Region.wanted o (yielded ops a.tmps) = true then Oper.wp P o a w K Q else E := by
  have hw : Region.wanted o (yielded ops a.tmps) = true := by simp [Region.wanted, hgd]
  rw [if_pos hw]
  exact h
theorem own_blkS (sw : Option Addr) (n c : Nat) : (Value.slice sw n c).ownBlock = blkS sw := by cases sw <;> rfl
/-- One more write waits. -/
theorem DP.push {w wA w6 : World} {q n g1 c1 g2 c2 : Nat} {sw : Option Addr} {cw : Nat} {z : Int} {D : DkS} (h : DP w q n g1 c1 g2 c2 sw cw z D) (hA : Below w.heap.size w wA) (g cap m' : Nat) (x : Nat × ByteArray) (hg : wA.grownBy w6 (Value.slice sw D.ws.length cw).ownBlock)
    (hm : m' = D.ws.length + 1) (hown : w6.ownsRow 0 71 65 (.slice (some ⟨g, 0, none⟩) m' cap) m' (wriV D.ws ++ wriL x)) (hat : (Value.slice sw D.ws.length cw).ownBlock = some g ∨ w.heap.size ≤ g) :
    DP (w6.setCell ⟨q, 4, none⟩ (.slice (some ⟨g, 0, none⟩) m' cap)) q n g1 c1 g2 c2 (some ⟨g, 0, none⟩) cap z { D with ws := D.ws ++ [x] } ∧ Mv (q :: g1 :: g2 :: (blkS sw).toList) (q :: g1 :: g2 :: [g]) w (w6.setCell ⟨q, 4, none⟩ (.slice (some ⟨g, 0, none⟩) m' cap)) := by
  subst hm
  rw [own_blkS] at hg hat
  have hnd := h.nd
  have hq := blk_lt h.box
  have hl1 := h.now.lt
  have hl2 := h.kept.lt
  have nq : ∀ b, b ∈ (blkS sw).toList → b ≠ q ∧ b ≠ g1 ∧ b ≠ g2 := fun b hb => by
    rw [List.nodup_cons, List.nodup_cons, List.nodup_cons] at hnd
    exact ⟨fun e => hnd.1 (by subst e; exact List.mem_cons_of_mem _ (List.mem_cons_of_mem _ hb)), fun e => hnd.2.1 (by subst e; exact List.mem_cons_of_mem _ hb), fun e => hnd.2.2.1 (by subst e; exact hb)⟩
  have n12 : q ≠ g1 ∧ q ≠ g2 ∧ g1 ≠ g2 := by simp at hnd; exact ⟨hnd.1.1, hnd.1.2.1, hnd.2.1.1⟩
  have far : ∀ k, k < w.heap.size → k ∉ (blkS sw).toList → w6.heap[k]? = w.heap[k]? := fun k hk hm => by
    rw [hg.block k (Nat.lt_of_lt_of_le hk hA.size) (fun e => hm (by rw [← e]; simp))]
    exact hA.block k hk
  have fq := far q hq (fun e => (nq q e).1 rfl)
  have f1 := far g1 hl1 (fun e => (nq g1 e).2.1 rfl)
  have f2 := far g2 hl2 (fun e => (nq g2 e).2.2 rfl)
  have gne : g ≠ q ∧ g ≠ g1 ∧ g ≠ g2 := by
    rcases hat with e | e
    · exact nq g (by rw [e]; simp)
    · exact ⟨by omega, by omega, by omega⟩
  have hs : ∀ k, k ≠ q → (w6.setCell ⟨q, 4, none⟩ (.slice (some ⟨g, 0, none⟩) (D.ws.length + 1) cap)).heap[k]? = w6.heap[k]? := fun k hk => Below.heap_setCell _ _ _ _ hk
  refine ⟨⟨?_, h.now.kept ((hs _ n12.1.symm).trans f1), h.kept.kept ((hs _ n12.2.1.symm).trans f2), ?_, h.b1, h.b2, h.m1, h.m2, h.pb, ?_⟩, ⟨⟨?_, ?_, ?_, ?_, fun k hk hm => ?_⟩, fun k hk => ?_⟩⟩
  · have hb := fq.trans h.box
    simp [World.setCell, Array.getElem?_modify, hb]
  · rw [wriV_append, List.length_append, List.length_singleton]
    refine own_keep (w := w6) ?_ (fun b hb => hs b ?_)
    · rw [show wriV [x] = wriL x by simp [wriV]]; exact hown
    · simp [blkS] at hb; rw [hb]; exact gne.1
  · simp [blkS]
    exact ⟨⟨n12.1, n12.2.1, fun e => gne.1 e.symm⟩, ⟨n12.2.2, fun e => gne.2.1 e.symm⟩, fun e => gne.2.2 e.symm⟩
  · exact hg.os.trans hA.os
  · exact hg.tape.trans hA.tape
  · exact hg.output.trans hA.output
  · have := hg.size; have := hA.size; simp [World.setCell]; omega
  · rw [hs k (fun e => hm (by rw [e]; simp))]
    exact far k hk (fun e => hm (List.mem_cons_of_mem _ (List.mem_cons_of_mem _ (List.mem_cons_of_mem _ e))))
  · simp only [List.mem_cons, List.not_mem_nil, or_false] at hk ⊢
    rcases hk with rfl | rfl | rfl | rfl
    · exact .inl (.inl rfl)
    · exact .inl (.inr (.inl rfl))
    · exact .inl (.inr (.inr (.inl rfl)))
    · rcases hat with e | e
      · exact .inl (.inr (.inr (.inr (by rw [e]; simp))))
      · exact .inr e
/-- A slice of one write. -/
theorem build71 {o : Oper} {a : Act} {w : World} {K : Act → World → Prop} {Q : Exit → Act → World → Prop} (x : Operand) (ho : o.op = .buildSlice 56 1 #[(0, x)]) (M : List Value) (hM : M.length = 65) (hx : a.eval x = .agg M.toArray)
    (h : K (a.put o.dst (.slice (some ⟨w.heap.size, 0, none⟩) 1 1)) (w.alloc (.cells M.toArray 71))) : o.wp Tryd.prog a w K Q := by
  obtain ⟨i0, hi, hz0, hz1, hz2⟩ := info_parts wri_infoZ
  refine wp_buildSlice 56 71 1 #[(0, x)] ho M.toArray i0 _ Tryd.underlying56 hi hz0 (by rw [hz1]; decide) (by rw [hz1]; decide) ?_ h
  have hf := Great.fill_whole (s := 65) (by omega) [.agg M.toArray] ((Array.range (1 * 65)).map ((Value.agg Tryd.zeroCells71).cells[· % (Value.agg Tryd.zeroCells71).cells.size]!)) (fun v hv => by rw [List.mem_singleton.1 hv]; show M.toArray.size = 65; simpa using hM) (by simp)
  rw [hz1]
  simp only [List.map_toArray, List.map_cons, List.map_nil, hx]
  refine Eq.trans hf ?_
  simp [Value.cells]
theorem zeros71 : Tryd.zeroCells71 = (.int .i64 0 :: List.replicate 64 (.int .u8 0)).toArray := by kernel_rfl
theorem sec_size : (Tryd.prog.info? 67).map (·.size) = some 64 := by kernel_rfl
theorem wri_size : (Tryd.prog.info? 71).map (·.size) = some 65 := by kernel_rfl
theorem u8_size : (Tryd.prog.info? 5).map (·.size) = some 1 := by kernel_rfl

/-- A new write: its place stored; with its bytes. -/
def newW (i : Int) : Array Value := (.int .i64 i :: List.replicate 64 (.int .u8 0)).toArray
def wriA (x : Nat × ByteArray) : Array Value := (wriL x).toArray
theorem newW_size (i : Int) : (newW i).size = 65 := by simp [newW]
theorem newW_list (i : Int) : (newW i).toList = .int .i64 i :: List.replicate 64 (.int .u8 0) := rfl
theorem newW_zero (i : Int) : Tryd.zeroCells71.toList.set 0 (.int .i64 i) = (newW i).toList := by rw [zeros71, newW_list, List.toList_toArray, List.set_cons_zero]
theorem store71 (w : World) (i : Int) : (storeCells ⟨w.heap.size, 0, none⟩ (Tryd.zeroCells71.toList.set 0 (.int .i64 i))).run Tryd.prog (w.alloc (.cells Tryd.zeroCells71 71)) = .ok () (w.alloc (.cells (newW i) 71)) := by
  rw [newW_zero]
  refine run_storeCells_new (P := Tryd.prog) w 71 Tryd.zeroCells71 (newW i) (by rw [wri_size, newW_size]) (by rw [zeros71, newW_size]; rfl) (Array.all_eq_true_iff_forall_mem.2 (fun v hv => ?_))
  have hv : v ∈ (newW i).toList := by simpa using hv
  rw [newW_list] at hv
  rcases List.mem_cons.1 hv with rfl | hv
  · rfl
  · rw [(List.mem_replicate.1 hv).2]; rfl
theorem copyL (i : Nat) (s : ByteArray) : (newW (i : Int)).toList.take 1 ++ Lib.byteCells s.data.toList ++ (newW (i : Int)).toList.drop (1 + s.size) = wriL (i, padS s) := by
  have hl : s.data.toList.length = s.size := by simp
  rw [newW_list, show 1 + s.size = s.size + 1 by omega, List.drop_succ_cons, List.drop_replicate]
  simp only [wriL, secL, padS, Lib.byteCells, List.map_append, List.map_replicate, List.take_succ_cons, List.take_zero, List.cons_append, List.nil_append]
  rfl
theorem copy71 (w : World) (i : Nat) (s : ByteArray) (ty : TypeId) (hs : s.size ≤ 64) : (Builtin.copy_ #[52, 9] ty #[.slice (some ⟨w.heap.size, 1, none⟩) 64 64, .string s]).run Tryd.prog (w.alloc (.cells (newW (i : Int)) 71)) = .ok (goInt s.size) (w.alloc (.cells (wriA (i, padS s)) 71)) := by
  have h := Lib.run_copy_row_string (P := Tryd.prog) (w.alloc (.cells (newW (i : Int)) 71)) 52 9 ty 5 w.heap.size 1 64 64 s _ 71 Tryd.underlying52 u8_size (heap_alloc_new w _) hs (by rw [newW_size]; omega)
  rw [h, World.setRow_alloc_new, copyL]
  rfl

set_option maxHeartbeats 4000000 in
set_option maxRecDepth 100000 in
theorem dwrite_ok (q n i : Nat) (s : ByteArray) (fp : List Nat) (D : DkS) (p : Option Nat) (w : World) (h : DAt w q n fp D) (hok : DkOk n D) (hi : i < n) (hs : s.size ≤ 64) (hp : spS D.pw = some p) (hf : D.ws.length < 1000) :
    Calls Tryd.prog 25 #[.pointer (some ⟨q, 0, none⟩), .int .i64 (i : Int), .string s] w fun e w' => e = .returned .nilIface ∧ ∃ fp', DAt w' q n fp' (writeS D i s p) ∧ Mv fp fp' w w' := by
  have H := hide h
  have HP := hide hp
  have HO := hide hok
  have d0 : decide ((s.size : Int) > 64) = false := decide_eq_false (by omega)
  have d1 : decide ((64 : Int) < (s.size : Int)) = false := decide_eq_false (by omega)
  have hst := fun (w : World) => store71 w (i : Int)
  have hcp := fun (w : World) (ty : TypeId) => copy71 w i s ty hs
  clear h hp hok
  go_enter Tryd.func25, Tryd.ntmps25
  go_wp2_with fail
  refine (dhas_yes q n i fp D _ (unhide H) hi).mono ?_
  rintro e w1 ⟨rfl, rfl⟩
  go_wp2_with fail
  refine (dspend_ok q n fp D p _ (unhide H) (unhide HP)).mono ?_
  rintro e w2 ⟨rfl, hA, hM⟩
  have HA := hide hA
  have HM := hide hM
  clear hA hM
  go_wp2_with fail
  have hb2 := (Below.refl w2.heap.size w2).alloc (Nat.le_refl _) (.cells (wriA (i, padS s)) 71)
  have hbl := heap_alloc_new w2 (.cells (wriA (i, padS s)) 71)
  have hA4 := (unhide HA).below hb2
  have hlt := (unhide HA).lt
  generalize w2.alloc (.cells (wriA (i, padS s)) 71) = w4 at *
  obtain ⟨g1, c1, g2, c2, sw, cw, z, rfl, hp4⟩ := hA4
  generalize hbq : w2.heap.size = b at *
  have HBQ := hide hbq
  clear hbq hst hcp
  obtain ⟨k0, k1, k2, k3, k4, kf, kq⟩ := hp4.cells
  have hlt1 := hlt g1 (by simp)
  have hlq := hlt q (by simp)
  have hlen : (secL (padS s)).length = 64 := by rw [secL_length, padS_size s hs]
  have hr : w4.rangeAt b 1 (secL (padS s)) := fun j v hv => by
    rw [blk_cell hbl, show 1 + j = j + 1 by omega]
    simpa [wriA, wriL] using hv
  have hr0 : w4.rangeAt b 0 (wriL (i, padS s)) := fun j v hv => by
    rw [blk_cell hbl, Nat.zero_add]
    simpa [wriA] using hv
  have hth := hp4.now.there i hi
  have b1 := hp4.b1
  have m1 := hp4.m1
  unfold maxLen at m1
  have hone := secL_one (padS s)
  have hng : q ≠ g1 := by have := hp4.nd; simp at this; exact this.1.1
  have HW5 := hide (And.intro hp4 (And.intro hbl hr0))
  have HB2 := hide hb2
  have HLT := hide hlt
  clear k0 k1 k3 k4 kf hp4 hbl hr0 hb2 hlt
  have HLE : ∃ L, Hid (L = secL (padS s)) := ⟨_, rfl⟩
  obtain ⟨L, HLE⟩ := HLE
  rw [← unhide HLE] at hlen hr hone
  have hu := Tryd.underlying67
  have hi67 : (Tryd.prog.info? 67).map (·.size) = some L.length := by rw [sec_size, hlen]
  have hi0 : (0 : Int) ≤ (i : Int) := by omega
  have hi1 : (i : Int) < (n : Int) := by omega
  have hqg : q ≠ g1 := hng
  have KS := hide (fun (w' : World) (h : w'.cell? ⟨q, 2, none⟩ = some (.slice (some ⟨g1, 0, none⟩) n c1) ∧ w'.rangeAt b 1 L ∧ w'.there g1 (i * 64) 64) => show (w'.setCells g1 (i * 64) L).cell? ⟨q, 2, none⟩ = some (.slice (some ⟨g1, 0, none⟩) n c1) ∧ (w'.setCells g1 (i * 64) L).rangeAt b 1 L ∧ (w'.setCells g1 (i * 64) L).there g1 (i * 64) 64 from ⟨(World.cell?_setCells_out g1 L (i * 64) w' ⟨q, 2, none⟩ (fun e _ => absurd e hqg)).trans h.1, World.rangeAt_setCells_apart h.2.1 _ _ _ (.inl (by omega)), World.there_setCells h.2.2 _ _ _⟩)
  go_region_held (fun w' => w'.cell? ⟨q, 2, none⟩ = some (.slice (some ⟨g1, 0, none⟩) n c1) ∧ w'.rangeAt b 1 L ∧ w'.there g1 (i * 64) 64) (first | exact unhide KS _ (by assumption) | go_keep_ranges) (fail)
  all_goals go_wp2_with fail
  rename_i hHeld K5 hK5 dst5 heq5
  have h5 : DP (w4.drew.setCells g1 (i * 64) L) q n g1 c1 g2 c2 sw cw z ⟨updS D.now i (padS s), D.kept, D.ws, p⟩ ∧ (w4.drew.setCells g1 (i * 64) L).heap[b]? = some (.cells (wriA (i, padS s)) 71) ∧ But (· ∈ q :: g1 :: g2 :: (blkS sw).toList) w4 (w4.drew.setCells g1 (i * 64) L) := by
    obtain ⟨hp4, hbl, _⟩ := unhide HW5
    rw [unhide HLE]
    exact ⟨DP.putNow (D := ⟨D.now, D.kept, D.ws, p⟩) (hp4.keep (w' := w4.drew) (fun _ _ => rfl)) (unhide HO).now i hi (padS s) (padS_size s hs), (heap_setCells _ _ _ _ _ (by omega)).trans hbl, (But.refl _ w4).drew.setCells (by simp) _ _⟩
  clear KS hHeld heq5 dst5 k2 kq hr hone hu hi67 hth hlen
  generalize w4.drew.setCells g1 (i * 64) L = w5 at *
  obtain ⟨hp5, hbl5, hbt5⟩ := h5
  obtain ⟨k0, k1, k2, k3, k4, kf, kq⟩ := hp5.cells
  have f4 := kf 4
  have hr0 : w5.rangeAt b 0 (wriL (i, padS s)) := fun j v hv => by
    rw [blk_cell hbl5, Nat.zero_add]
    simpa [wriA] using hv
  have hlen : (wriL (i, padS s)).length = 65 := wriL_length _ (padS_size s hs)
  have hone := wriL_one (i, padS s)
  have hu := Tryd.underlying71
  have hi71 : (Tryd.prog.info? 71).map (·.size) = some (wriL (i, padS s)).length := by rw [wri_size, hlen]
  have HP5 := hide hp5
  have HT5 := hide hbt5
  have hbs : b < w5.heap.size := blk_lt hbl5
  clear k0 k1 k2 k3 kf hp5 hbl5 hbt5
  obtain ⟨M, HME⟩ : ∃ M, Hid (M = wriL (i, padS s)) := ⟨_, rfl⟩
  rw [← unhide HME] at hr0 hlen hone hi71
  have hbA := ((Below.refl w5.heap.size w5).drew.alloc (Nat.le_refl _) (.cells M.toArray 71))
  have hblA := heap_alloc_new w5.drew (.cells M.toArray 71)
  have hkA : (w5.drew.alloc (.cells M.toArray 71)).cell? ⟨q, 4, none⟩ = some (.slice sw D.ws.length cw) := (hbA.cell (p := ⟨q, 4, none⟩) kq).trans k4
  have hrA : (w5.drew.alloc (.cells M.toArray 71)).rangeAt b 0 M := World.rangeAt_alloc (w := w5.drew) hr0 _
  have hoA : (w5.drew.alloc (.cells M.toArray 71)).ownsRow 0 71 65 (.slice sw D.ws.length cw) D.ws.length (wriV D.ws) := World.ownsRow.alloc (w := w5.drew) (unhide HP5).ws _
  have hsA : w5.heap.size ≤ (w5.drew.alloc (.cells M.toArray 71)).heap.size := hbA.size
  refine wp_region_held_drew (S := fun w' => w'.rangeAt b 0 M) (by kernel_rfl) hr0 (fun hHeld => ?_)
  refine wpAnyH_take (i := 0) (v := .pointer (some ⟨q, 0, none⟩)) rfl (by kernel_rfl) (by kernel_rfl) (by kernel_rfl) (fun _ _ _ h => h) (Or.inl ⟨by rfl, ?_⟩) hHeld ?_
  · intro w' hSw
    go_simp
  simp only [List.getElem_toArray, List.getElem_cons_zero, Act.put, List.setIfInBounds_toArray, List.set_cons_zero, List.set_cons_succ]
  refine wpAnyH_take (i := 1) (v := .pointer (some ⟨q, 0, none⟩)) rfl (by kernel_rfl) (by kernel_rfl) (by kernel_rfl) (fun _ _ _ h => h) (Or.inl ⟨by rfl, ?_⟩) hHeld ?_
  · intro w' hSw
    go_simp
  simp only [List.getElem_toArray, List.getElem_cons_succ, List.getElem_cons_zero, Act.put, List.setIfInBounds_toArray, List.set_cons_zero, List.set_cons_succ]
  refine wpAnyH_take (i := 2) (v := .pointer (some ⟨q, 0, none⟩)) rfl (by kernel_rfl) (by kernel_rfl) (by kernel_rfl) (fun _ _ _ h => h) (Or.inl ⟨by rfl, ?_⟩) hHeld ?_
  · intro w' hSw
    go_simp
  simp only [List.getElem_toArray, List.getElem_cons_succ, List.getElem_cons_zero, Act.put, List.setIfInBounds_toArray, List.set_cons_zero, List.set_cons_succ]
  refine wpAnyH_take (i := 3) (v := .pointer (some ⟨q, 4, none⟩)) rfl (by kernel_rfl) (by kernel_rfl) (by kernel_rfl) (fun _ _ _ h => h) (Or.inl ⟨by rfl, ?_⟩) hHeld ?_
  · intro w' hSw
    go_simp
  simp only [List.getElem_toArray, List.getElem_cons_succ, List.getElem_cons_zero, Act.put, List.setIfInBounds_toArray, List.set_cons_zero, List.set_cons_succ]
  refine wpAnyH_take (i := 5) (v := .agg M.toArray) rfl (by kernel_rfl) (by kernel_rfl) (by kernel_rfl) (fun _ _ _ h => h) (yieldsIf_load_mid (by rfl) 71 (.tmp 8) rfl b 0 rfl M _ (fun _ h => h) hu rfl hi71) hHeld ?_
  simp only [List.getElem_toArray, List.getElem_cons_succ, List.getElem_cons_zero, Act.put, List.setIfInBounds_toArray, List.set_cons_zero, List.set_cons_succ]
  apply onceD
  · intro hrest
    refine wpAnyH_ready (rs := [4, 6]) (by kernel_rfl) (by simp) ?_
    refine AllReadyH.cons rfl (fun K hK => ?_) (AllReadyH.cons rfl (fun K hK => ?_) AllReadyH.nil)
    · go_simp
      refine hK.out _ _ hHeld (fun hHeld => ?_)
      clear hK K
      refine wpAnyH_ready (rs := [6]) (by kernel_rfl) (by simp) ?_
      refine AllReadyH.cons rfl (fun K hK => ?_) AllReadyH.nil
      refine step_op rfl (build71 (.tmp 44) rfl M hlen rfl ?_)
      refine hK.out _ _ hrA (fun hHeld => ?_)
      clear hK K
      simp only [List.getElem_toArray, List.getElem_cons_succ, List.getElem_cons_zero, Act.put, List.setIfInBounds_toArray, List.set_cons_zero, List.set_cons_succ]
      exact hrest
    · refine step_op rfl (build71 (.tmp 44) rfl M hlen rfl ?_)
      refine hK.out _ _ hrA (fun hHeld => ?_)
      clear hK K
      simp only [List.getElem_toArray, List.getElem_cons_succ, List.getElem_cons_zero, Act.put, List.setIfInBounds_toArray, List.set_cons_zero, List.set_cons_succ]
      refine wpAnyH_ready (rs := [4]) (by kernel_rfl) (by simp) ?_
      refine AllReadyH.cons rfl (fun K hK => ?_) AllReadyH.nil
      go_simp
      refine hK.out _ _ hrA (fun hHeld => ?_)
      clear hK K
      rw [Array.setIfInBounds_comm true true (show (6 : Nat) ≠ 4 by decide)]
      exact hrest
  clear hHeld
  generalize w5.drew.alloc (.cells M.toArray 71) = wA at *
  obtain ⟨i0, hi7, hz0, hz1, hz2⟩ := info_parts wri_infoZ
  refine wpAnyH_ready (rs := [7]) (by kernel_rfl) (by simp) ?_
  refine AllReadyH.cons rfl (fun K hK => ?_) AllReadyH.nil
  refine step_op rfl (wp_append_lies wA (.tmp 43) (.tmp 45) 56 rfl 0 71 i0 (.agg Tryd.zeroCells71) 65 72 Tryd.underlying56 hi7 hz0 hz1 hz2 (by rw [zeros71]; rfl) (by omega) (.slice sw D.ws.length cw) D.ws.length (wriV D.ws) rfl hoA ⟨w5.drew.heap.size, 0, none⟩ 1 1 M rfl hlen (World.news_of_block hblA) hone (by omega) (by unfold maxLen; omega) (by omega) (Nat.zero_le _) _ rfl ?_)
  intro g cap w6 hown hgrow hat hlt6
  have hp7 := (unhide HP5).push hbA g cap (D.ws.length + 1) (i, padS s) hgrow rfl (by rw [← unhide HME]; exact hown) (hat.imp id (fun e => by rw [e]; exact hsA))
  have hk6 : w6.cell? ⟨q, 4, none⟩ = some (.slice sw D.ws.length cw) := by
    have hnd := (unhide HP5).nd
    have hqn : some q ≠ (Value.slice sw D.ws.length cw).ownBlock := by
      rw [own_blkS]
      intro e
      rw [List.nodup_cons] at hnd
      exact hnd.1 (List.mem_cons_of_mem _ (List.mem_cons_of_mem _ (by rw [← e]; simp)))
    exact (hgrow.cell_far ⟨q, 4, none⟩ (Nat.lt_of_lt_of_le kq hsA) hqn).trans hkA
  have hr6 : w6.rangeAt b 0 M := by
    have hbn : some b ≠ (Value.slice sw D.ws.length cw).ownBlock := by
      rw [own_blkS]
      intro e
      have := unhide HLT b (List.mem_cons_of_mem _ (List.mem_cons_of_mem _ (List.mem_cons_of_mem _ (by rw [← e]; simp))))
      omega
    intro j v hv
    rw [hgrow.cell_far ⟨b, 0 + j, none⟩ (Nat.lt_of_lt_of_le hbs hsA) hbn]
    exact hrA j v hv
  have f6 : w6.frozen? ⟨q, 4, none⟩ = false := by
    have hnd := (unhide HP5).nd
    have hqn : some q ≠ (Value.slice sw D.ws.length cw).ownBlock := by
      rw [own_blkS]
      intro e
      rw [List.nodup_cons] at hnd
      exact hnd.1 (List.mem_cons_of_mem _ (List.mem_cons_of_mem _ (by rw [← e]; simp)))
    rw [hgrow.frozen_far ⟨q, 4, none⟩ (Nat.lt_of_lt_of_le kq hsA) hqn, hbA.frozen (p := ⟨q, 4, none⟩) kq]
    exact f4
  have HP7 := hide hp7
  refine hK.out _ _ hr6 (fun hHeld => ?_)
  clear hK K hHeld hp7 hat
  simp only [List.getElem_toArray, List.getElem_cons_succ, List.getElem_cons_zero, Act.put, List.setIfInBounds_toArray, List.set_cons_zero, List.set_cons_succ]
  refine wpAnyH_ready (rs := [8]) (by kernel_rfl) (by simp) ?_
  refine AllReadyH.cons rfl (fun K hK => ?_) AllReadyH.nil
  go_simp
  refine hK.out _ _ hr6 (fun hHeld => ?_)
  clear hK K hHeld
  refine wpAnyH_ready (rs := [9]) (by kernel_rfl) (by simp) ?_
  refine AllReadyH.cons rfl (fun K hK => ?_) AllReadyH.nil
  go_simp
  refine hK.out _ _ hr6 (fun hHeld => ?_)
  clear hK K hHeld
  refine wpAnyH_ready (rs := [10]) (by kernel_rfl) (by simp) ?_
  refine AllReadyH.cons rfl (fun K hK => ?_) AllReadyH.nil
  go_simp
  have hr7 : (w6.setCell ⟨q, 4, none⟩ (.slice (some ⟨g, 0, none⟩) (D.ws.length + 1) cap)).rangeAt b 0 M := fun j v hv => by
    rw [World.cell?_setCell_other _ _ _ _ (fun e => by injection e with e; omega)]
    exact hr6 j v hv
  refine hK.out _ _ hr7 (fun hHeld => ?_)
  clear hK K hHeld
  refine wpAnyH_done (by kernel_rfl) ?_ _
  generalize w6.setCell ⟨q, 4, none⟩ (.slice (some ⟨g, 0, none⟩) (D.ws.length + 1) cap) = w7 at *
  go_wp2
  go_ret
  obtain ⟨hq7, hm7⟩ := unhide HP7
  refine ⟨rfl, _, ⟨g1, c1, g2, c2, some ⟨g, 0, none⟩, cap, z, rfl, hq7⟩, ?_⟩
  have hb24 : But (· ∈ q :: g1 :: g2 :: (blkS sw).toList) w2 w4 := (But.refl _ _).of_below (unhide HB2) (fun k h1 h2 => by have := unhide HBQ; omega)
  exact (unhide HM).trans ((Mv.trans ⟨hb24.trans (unhide HT5), fun _ h => .inl h⟩ hm7))
end Go.Proofs.YthkecbgifajmmaaDoor
