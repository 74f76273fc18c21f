/- The document's disk: Write, Flush. -/
import Derived.Test.YthkecbgifajmmaaDoorDm1
import Derived.Laws.OwnMore
import Derived.Maps.AppendAt
import Derived.Deep.DeepCutAuto
namespace Go.Proofs.YthkecbgifajmmaaDoor
open Go.RowKit

theorem MP.apart {w : World} {p n : Nat} {sk : Option Addr} {ck : Nat} {sn : Option Addr} {cn : Nat} {sw : Option Addr} {cw : Nat} {D : DkS} (h : MP w p n sk ck sn cn sw cw D) :
    (∀ b, b ∈ (blkS sk).toList → b ≠ p) ∧ (∀ b, b ∈ (blkS sn).toList → b ≠ p) ∧ (∀ b, b ∈ (blkS sw).toList → b ≠ p) ∧ (∀ b, b ∈ (blkS sk).toList → b ∉ (blkS sn).toList) ∧ (∀ b, b ∈ (blkS sk).toList → b ∉ (blkS sw).toList) ∧ (∀ b, b ∈ (blkS sn).toList → b ∉ (blkS sw).toList) := by
  have hnd := h.nd
  rw [List.nodup_cons, List.nodup_append, List.nodup_append] at hnd
  obtain ⟨h1, h2, ⟨h3, h4, h5⟩, h6⟩ := hnd
  refine ⟨fun b hb e => h1 (by subst e; exact List.mem_append_left _ hb), fun b hb e => h1 (by subst e; exact List.mem_append_right _ (List.mem_append_left _ hb)), fun b hb e => h1 (by subst e; exact List.mem_append_right _ (List.mem_append_right _ hb)), fun b hb hc => h6 b hb b (List.mem_append_left _ hc) rfl, fun b hb hc => h6 b hb b (List.mem_append_right _ hc) rfl, fun b hb hc => h5 b hb b hc rfl⟩
theorem mp_nd {p : Nat} {a b c : List Nat} (ha : a.Nodup) (hb : b.Nodup) (hc : c.Nodup) (h1 : ∀ k, k ∈ a → k ≠ p) (h2 : ∀ k, k ∈ b → k ≠ p) (h3 : ∀ k, k ∈ c → k ≠ p) (h4 : ∀ k, k ∈ a → k ∉ b) (h5 : ∀ k, k ∈ a → k ∉ c) (h6 : ∀ k, k ∈ b → k ∉ c) : (p :: (a ++ (b ++ c))).Nodup := by
  rw [List.nodup_cons, List.nodup_append, List.nodup_append]
  refine ⟨fun hm => ?_, ha, ⟨hb, hc, fun x hx y hy e => ?_⟩, fun x hx y hy e => ?_⟩
  · rcases List.mem_append.1 hm with q | q
    · exact h1 p q rfl
    rcases List.mem_append.1 q with q | q
    · exact h2 p q rfl
    · exact h3 p q rfl
  · subst e; exact h6 x hx hy
  · subst e
    rcases List.mem_append.1 hy with q | q
    · exact h4 x hx q
    · exact h5 x hx q
theorem blkS_nd (s : Option Addr) : (blkS s).toList.Nodup := by cases s <;> simp [blkS]
theorem own_some {w : World} {base n cap k : Nat} {e : TypeId} {s : Option Addr} {xs : List Value} (h : w.ownsRow base e k (.slice s n cap) n xs) (hn : 0 < n) : ∃ g, s = some ⟨g, 0, none⟩ ∧ n ≤ cap ∧ cap ≤ maxLen ∧ base ≤ g := by
  rcases h.2 with ⟨_, e⟩ | ⟨g, cap', cur, hv, hb, _, hc, hm, _⟩
  · omega
  · injection hv with hv _ hv3
    subst hv hv3
    exact ⟨g, rfl, hc, hm, hb⟩

theorem MP.setNow {w : World} {p n : Nat} {sk : Option Addr} {ck : Nat} {gn cn : Nat} {sw : Option Addr} {cw : Nat} {D : DkS} (h : MP w p n sk ck (some ⟨gn, 0, none⟩) cn sw cw D) (i : Nat) (hi : i < n) (s : ByteArray) :
    MP (w.setCell ⟨gn, i, none⟩ (.string s)) p n sk ck (some ⟨gn, 0, none⟩) cn sw cw { D with now := updS D.now i s } := by
  obtain ⟨a1, a2, a3, a4, a5, a6⟩ := h.apart
  have hgn : gn ∈ (blkS (some ⟨gn, 0, none⟩)).toList := by simp [blkS]
  have far : ∀ b, b ≠ gn → (w.setCell ⟨gn, i, none⟩ (.string s)).heap[b]? = w.heap[b]? := fun b hb => Below.heap_setCell _ _ _ _ hb
  refine ⟨(far p (fun e => a2 gn hgn e.symm)).trans h.box, own_keep h.kept (fun b hb => far b (fun e => a4 b hb (by rw [e]; exact hgn))), ?_, own_keep h.ws (fun b hb => far b (fun e => a6 gn hgn (by rw [← e]; exact hb))), h.pb, h.nd⟩
  have := (h.now.stored i (.string s)).1
  rw [strL_set _ _ _ _ hi] at this
  exact this

/-- One more write waits. -/
theorem MP.push {w wA w6 : World} {p n : Nat} {sk : Option Addr} {ck : Nat} {sn : Option Addr} {cn : Nat} {sw : Option Addr} {cw : Nat} {D : DkS} (h : MP w p n sk ck sn cn sw cw D) (hA : Below w.heap.size w wA) (g cap m' : Nat) (x : Nat × ByteArray) (hg : wA.grownBy w6 (Value.slice sw D.ws.length cw).ownBlock)
    (hm : m' = D.ws.length + 1) (hown : w6.ownsRow 0 73 2 (.slice (some ⟨g, 0, none⟩) m' cap) m' (waiV D.ws ++ waiL x)) (hat : (Value.slice sw D.ws.length cw).ownBlock = some g ∨ w.heap.size ≤ g) :
    MP (w6.setCell ⟨p, 2, none⟩ (.slice (some ⟨g, 0, none⟩) m' cap)) p n sk ck sn cn (some ⟨g, 0, none⟩) cap { D with ws := D.ws ++ [x] } ∧ Mv (p :: ((blkS sk).toList ++ ((blkS sn).toList ++ (blkS sw).toList))) (p :: ((blkS sk).toList ++ ((blkS sn).toList ++ (blkS (some ⟨g, 0, none⟩)).toList))) w (w6.setCell ⟨p, 2, none⟩ (.slice (some ⟨g, 0, none⟩) m' cap)) := by
  subst hm
  rw [own_blkS] at hg hat
  obtain ⟨a1, a2, a3, a4, a5, a6⟩ := h.apart
  have hp := blk_lt h.box
  have hlk := own_lt h.kept
  have hln := own_lt h.now
  have far : ∀ k, k < w.heap.size → k ∉ (blkS sw).toList → w6.heap[k]? = w.heap[k]? := fun k hk hm => by
    rw [hg.block k (Nat.lt_of_lt_of_le hk hA.size) (fun e => hm (by rw [← e]; simp))]
    exact hA.block k hk
  have hs : ∀ k, k ≠ p → (w6.setCell ⟨p, 2, none⟩ (.slice (some ⟨g, 0, none⟩) (D.ws.length + 1) cap)).heap[k]? = w6.heap[k]? := fun k hk => Below.heap_setCell _ _ _ _ hk
  have hgw : g ∈ (blkS sw).toList ∨ w.heap.size ≤ g := hat.imp (fun e => by rw [e]; simp) id
  have gp : g ≠ p := by
    rcases hgw with q | q
    · exact a3 g q
    · omega
  refine ⟨⟨?_, own_keep h.kept (fun b hb => (hs b (a1 b hb)).trans (far b (hlk b hb) (a5 b hb))), own_keep h.now (fun b hb => (hs b (a2 b hb)).trans (far b (hln b hb) (a6 b hb))), ?_, h.pb, ?_⟩, ⟨⟨?_, ?_, ?_, ?_, fun k hk hm => ?_⟩, fun k hk => ?_⟩⟩
  · have hb := (far p hp (fun e => a3 p e rfl)).trans h.box
    simp [World.setCell, Array.getElem?_modify, hb]
  · rw [waiV_append, List.length_append, List.length_singleton, show waiV [x] = waiL x by simp [waiV]]
    exact own_keep (w := w6) hown (fun b hb => hs b (by simp [blkS] at hb; rw [hb]; exact gp))
  · refine mp_nd (blkS_nd _) (blkS_nd _) (blkS_nd _) a1 a2 (fun k hk => by simp [blkS] at hk; rw [hk]; exact gp) a4 (fun k hk hm => ?_) (fun k hk hm => ?_)
    · simp [blkS] at hm
      subst hm
      rcases hgw with q | q
      · exact a5 _ hk q
      · have := hlk _ hk; omega
    · simp [blkS] at hm
      subst hm
      rcases hgw with q | q
      · exact a6 _ hk q
      · have := hln _ hk; omega
  · exact hg.os.trans hA.os
  · exact hg.tape.trans hA.tape
  · exact hg.output.trans hA.output
  · have := hg.size; have := hA.size; simp [World.setCell]; omega
  · rw [hs k (fun e => hm (by rw [e]; simp))]
    exact far k hk (fun e => hm (List.mem_cons_of_mem _ (List.mem_append_right _ (List.mem_append_right _ e))))
  · rcases List.mem_cons.1 hk with rfl | hk
    · exact .inl (by simp)
    rcases List.mem_append.1 hk with hk | hk
    · exact .inl (List.mem_cons_of_mem _ (List.mem_append_left _ hk))
    rcases List.mem_append.1 hk with hk | hk
    · exact .inl (List.mem_cons_of_mem _ (List.mem_append_right _ (List.mem_append_left _ hk)))
    · simp [blkS] at hk
      subst hk
      exact hgw.imp (fun q => List.mem_cons_of_mem _ (List.mem_append_right _ (List.mem_append_right _ q))) id

theorem padS_add (s : ByteArray) : s ++ nulB (64 - s.size) = padS s := by
  apply ByteArray.ext
  simp only [padS, nulB, ByteArray.data_append]
  apply Array.toList_inj.1
  simp

set_option maxHeartbeats 1000000 in
set_option maxRecDepth 100000 in
theorem mwrite_bound (p n : Nat) (i : Int) (s : ByteArray) (fp : List Nat) (D : DkS) (w : World) (h : MAt w p n fp D) (hi : i < 0 ∨ (n : Int) ≤ i) :
    Calls Tryd.prog 23 #[.pointer (some ⟨p, 0, none⟩), .int .i64 i, .string s] w fun e w' => e = .returned (.int .i64 2) ∧ w' = w := by
  obtain ⟨sk, ck, sn, cn, sw, cw, rfl, hp⟩ := h
  obtain ⟨k0, k1, k2, k3, kf, kq⟩ := hp.cells
  have d : (decide (i < 0) = true ∧ True) ∨ (decide (i < 0) = false ∧ decide (i ≥ (n : Int)) = true ∧ decide ((n : Int) ≤ i) = true) := by
    by_cases h : i < 0
    · exact .inl ⟨decide_eq_true h, trivial⟩
    · exact .inr ⟨decide_eq_false h, decide_eq_true (by omega), decide_eq_true (by omega)⟩
  clear hp hi k0 k2 k3 kf
  go_enter Tryd.func23, Tryd.ntmps23
  rcases d with ⟨d0, _⟩ | ⟨d0, d1, d2⟩
  all_goals
    go_wp2
    go_ret
    exact ⟨rfl, rfl⟩

set_option maxHeartbeats 1000000 in
set_option maxRecDepth 100000 in
theorem mwrite_shape (p n i : Nat) (s : ByteArray) (fp : List Nat) (D : DkS) (w : World) (h : MAt w p n fp D) (hi : i < n) (hs : 64 < s.size) :
    Calls Tryd.prog 23 #[.pointer (some ⟨p, 0, none⟩), .int .i64 (i : Int), .string s] w fun e w' => e = .returned (.int .i64 3) ∧ w' = w := by
  obtain ⟨sk, ck, sn, cn, sw, cw, rfl, hp⟩ := h
  obtain ⟨k0, k1, k2, k3, kf, kq⟩ := hp.cells
  have g0 : decide ((i : Int) < 0) = false := by simp
  have g1 : decide ((i : Int) ≥ (n : Int)) = false := decide_eq_false (by omega)
  have g2 : decide ((n : Int) ≤ (i : Int)) = false := decide_eq_false (by omega)
  have d0 : decide ((s.size : Int) > 64) = true := decide_eq_true (by omega)
  have d1 : decide ((64 : Int) < (s.size : Int)) = true := decide_eq_true (by omega)
  clear hp k0 k2 k3 kf
  go_enter Tryd.func23, Tryd.ntmps23
  go_wp2
  go_ret
  exact ⟨rfl, rfl⟩

set_option maxHeartbeats 1000000 in
set_option maxRecDepth 100000 in
theorem mwrite_power (p n i : Nat) (s : ByteArray) (fp : List Nat) (D : DkS) (w : World) (h : MAt w p n fp D) (hi : i < n) (hs : s.size ≤ 64) (hp0 : D.pw = some 0) :
    Calls Tryd.prog 23 #[.pointer (some ⟨p, 0, none⟩), .int .i64 (i : Int), .string s] w fun e w' => e = .returned (.int .i64 9) ∧ w' = w := by
  have H := hide h
  have HP := hide hp0
  obtain ⟨sk, ck, sn, cn, sw, cw, rfl, hp⟩ := h
  obtain ⟨k0, k1, k2, k3, kf, kq⟩ := hp.cells
  have g0 : decide ((i : Int) < 0) = false := by simp
  have g1 : decide ((i : Int) ≥ (n : Int)) = false := decide_eq_false (by omega)
  have g2 : decide ((n : Int) ≤ (i : Int)) = false := decide_eq_false (by omega)
  have d0 : decide ((s.size : Int) > 64) = false := decide_eq_false (by omega)
  have d1 : decide ((64 : Int) < (s.size : Int)) = false := decide_eq_false (by omega)
  clear hp k0 k2 k3 kf hp0
  go_enter Tryd.func23, Tryd.ntmps23
  go_wp2_with fail
  refine (mpower_no p n _ D _ (unhide H) (unhide HP)).mono ?_
  rintro e w1 ⟨rfl, rfl⟩
  go_wp2
  go_ret
  exact ⟨rfl, rfl⟩

set_option maxHeartbeats 2000000 in
set_option maxRecDepth 100000 in
theorem mwrite_ok (p n i : Nat) (s : ByteArray) (fp : List Nat) (D : DkS) (po : Option Nat) (w : World) (h : MAt w p n fp D) (hi : i < n) (hs : s.size ≤ 64) (hp0 : spS D.pw = some po) (hf : D.ws.length < 1000) :
    Calls Tryd.prog 23 #[.pointer (some ⟨p, 0, none⟩), .int .i64 (i : Int), .string s] w fun e w' => e = .returned (.int .i64 0) ∧ ∃ fp', MAt w' p n fp' (writeS D i s po) ∧ Mv fp fp' w w' := by
  have H := hide h
  have HP := hide hp0
  obtain ⟨sk0, ck0, sn0, cn0, sw0, cw0, rfl, hp⟩ := h
  obtain ⟨k0, k1, k2, k3, kf, kq⟩ := hp.cells
  have g0 : decide ((i : Int) < 0) = false := by simp
  have g1 : decide ((i : Int) ≥ (n : Int)) = false := decide_eq_false (by omega)
  have g2 : decide ((n : Int) ≤ (i : Int)) = false := decide_eq_false (by omega)
  have d0 : decide ((s.size : Int) > 64) = false := decide_eq_false (by omega)
  have d1 : decide ((64 : Int) < (s.size : Int)) = false := decide_eq_false (by omega)
  have g3 : decide (n ≤ i) = false := decide_eq_false (by omega)
  have g4 : ¬ n ≤ i := by omega
  have e64 : (64 : Int) - (s.size : Int) = ((64 - s.size : Nat) : Int) := by omega
  have hb1 := nulB_size (64 - s.size)
  clear hp k0 k2 k3 kf hp0
  go_enter Tryd.func23, Tryd.ntmps23
  go_wp2_with fail
  refine (mpower_ok p n _ D po _ (unhide H) (unhide HP)).mono ?_
  rintro e w1 ⟨rfl, hA, hM⟩
  have HA := hide hA
  have HM := hide hM
  clear hA hM k1 kq
  go_wp2_with fail
  refine (zeros_any (64 - s.size) _ (by omega)).mono ?_
  rintro e w2 ⟨rfl, hb2⟩
  have HB2 := hide hb2
  obtain ⟨sk, ck, sn, cn, sw, cw, hfe, hp⟩ := (unhide HA).below hb2
  have HFE := hide hfe
  obtain ⟨gn, rfl, hcn, hcm, _⟩ := own_some hp.now (by omega)
  obtain ⟨k0, k1, k2, k3, kf, kq⟩ := hp.cells
  have hst : w2.cell? ⟨gn, i, none⟩ = some (.string (D.now i)) := by
    rw [hp.now.cellAt i (by omega)]
    exact strL_at _ _ _ hi
  have hfr : w2.frozen? ⟨gn, i, none⟩ = false := hp.now.frozenAt i
  unfold maxLen at hcm
  have HP2 := hide hp
  have hadd : s.size + (nulB (64 - s.size)).size ≤ 64 := by rw [hb1]; omega
  have hpe := padS_add s
  clear hp hb2 hfe HA k0 k3
  go_upto_region 10 with fail
  have hp3 := (unhide HP2).setNow i hi (padS s)
  have hb3 : But (· ∈ p :: ((blkS sk).toList ++ ((blkS (some ⟨gn, 0, none⟩)).toList ++ (blkS sw).toList))) w2 (w2.setCell ⟨gn, i, none⟩ (.string (padS s))) := (But.refl _ w2).setCell (p := ⟨gn, i, none⟩) (by simp [blkS]) _
  clear hst hfr k1 k2 kf kq
  try simp only [Act.put]
  generalize w2.setCell ⟨gn, i, none⟩ (.string (padS s)) = w3 at *
  obtain ⟨k0, k1, k2, k3, kf, kq⟩ := hp3.cells
  have f2 := kf 2
  have hown3 := hide hp3.ws
  have HP3 := hide hp3
  have HB3 := hide hb3
  have hap := hp3.apart
  have hbo := own_lt hp3.ws
  have HAP := hide hap
  obtain ⟨i0, hi7, hz0, hz1, hz2⟩ := info_parts wai_info
  clear hp3 hb3 k0 k1 k3 kf hap
  go_wp2_with (at_builtin; refine wpList_append_lies _ rfl (.tmp 43) (.tmp 47) 42 rfl 0 73 i0 _ 2 24 Tryd.underlying42 hi7 hz0 hz1 hz2 rfl (by omega) (.slice sw D.ws.length cw) D.ws.length (waiV D.ws) rfl (World.ownsRow.alloc (unhide hown3) _) ⟨w3.heap.size, 0, none⟩ 1 1 (waiL (i, padS s)) rfl rfl (World.news_of_block (heap_alloc_new w3 _)) ?qc1 (by omega) ?qc2 ?qc3 (Nat.zero_le _) _ rfl ?_)
  case qc1 => intro u hu; simp only [waiL, List.mem_cons, List.not_mem_nil, or_false] at hu; rcases hu with rfl | rfl <;> rfl
  case qc2 => unfold maxLen; omega
  case qc3 => omega
  intro g cap w6 hown hgrow hat hlt6
  have hbA := (Below.refl w3.heap.size w3).alloc (Nat.le_refl _) (.cells #[.int .i64 (i : Int), .string (padS s)] 73)
  have hp7 := (unhide HP3).push hbA g cap (D.ws.length + 1) (i, padS s) hgrow rfl hown (hat.imp id (fun e => by omega))
  have hpn : some p ≠ (Value.slice sw D.ws.length cw).ownBlock := by
    rw [own_blkS]
    intro e
    exact (unhide HAP).2.2.1 p (by rw [← e]; simp) rfl
  have k6 : w6.cell? ⟨p, 2, none⟩ = some (.slice sw D.ws.length cw) := (hgrow.cell_far ⟨p, 2, none⟩ (Nat.lt_of_lt_of_le kq hbA.size) hpn).trans ((hbA.cell (p := ⟨p, 2, none⟩) kq).trans k2)
  have f6 : w6.frozen? ⟨p, 2, none⟩ = false := (hgrow.frozen_far ⟨p, 2, none⟩ (Nat.lt_of_lt_of_le kq hbA.size) hpn).trans ((hbA.frozen (p := ⟨p, 2, none⟩) kq).trans f2)
  have HP7 := hide hp7
  clear hp7 hown hgrow hat hbA k2 kq f2
  go_wp2
  go_ret
  obtain ⟨hq7, hm7⟩ := unhide HP7
  refine ⟨rfl, _, ⟨sk, ck, some ⟨gn, 0, none⟩, cn, some ⟨g, 0, none⟩, cap, rfl, hq7⟩, ?_⟩
  have hm12 := (unhide HM).trans (Mv.of_below _ (unhide HB2))
  rw [unhide HFE] at hm12 ⊢
  exact hm12.trans (Mv.trans ⟨unhide HB3, fun _ h => .inl h⟩ hm7)

theorem MP.flushed {w w6 : World} {p n : Nat} {sk : Option Addr} {ck : Nat} {sn : Option Addr} {cn : Nat} {sw : Option Addr} {cw : Nat} {D : DkS} (h : MP w p n sk ck sn cn sw cw D) (hb : Below w.heap.size w w6) (g cap : Nat) (hg : w.heap.size ≤ g) (hown : w6.ownsRow 0 9 1 (.slice (some ⟨g, 0, none⟩) n cap) n (strL D.now n)) :
    MP ((w6.setCell ⟨p, 0, none⟩ (.slice (some ⟨g, 0, none⟩) n cap)).setCell ⟨p, 2, none⟩ (.slice none 0 0)) p n (some ⟨g, 0, none⟩) cap sn cn none 0 ⟨D.now, D.now, [], D.pw⟩ ∧ Mv (p :: ((blkS sk).toList ++ ((blkS sn).toList ++ (blkS sw).toList))) (p :: ((blkS (some ⟨g, 0, none⟩)).toList ++ ((blkS sn).toList ++ (blkS none).toList))) w ((w6.setCell ⟨p, 0, none⟩ (.slice (some ⟨g, 0, none⟩) n cap)).setCell ⟨p, 2, none⟩ (.slice none 0 0)) := by
  obtain ⟨a1, a2, a3, a4, a5, a6⟩ := h.apart
  have hp := blk_lt h.box
  have hln := own_lt h.now
  have hs : ∀ k, k ≠ p → ((w6.setCell ⟨p, 0, none⟩ (.slice (some ⟨g, 0, none⟩) n cap)).setCell ⟨p, 2, none⟩ (.slice none 0 0)).heap[k]? = w6.heap[k]? := fun k hk => by rw [Below.heap_setCell _ _ _ _ hk, Below.heap_setCell _ _ _ _ hk]
  refine ⟨⟨?_, own_keep (w := w6) hown (fun b hb => hs b (by simp [blkS] at hb; omega)), own_keep h.now (fun b hbn => (hs b (a2 b hbn)).trans (hb.block b (hln b hbn))), World.ownsRow_nil _ _ _ _, h.pb, ?_⟩, ⟨⟨?_, ?_, ?_, ?_, fun k hk hm => ?_⟩, fun k hk => ?_⟩⟩
  · have hbx := (hb.block p hp).trans h.box
    simp [World.setCell, Array.getElem?_modify, hbx]
  · refine mp_nd (blkS_nd _) (blkS_nd _) (blkS_nd _) (fun k hk => by simp [blkS] at hk; omega) a2 (fun k hk => by simp [blkS] at hk) (fun k hk hm => by simp [blkS] at hk; have := hln k hm; omega) (fun k _ hm => by simp [blkS] at hm) (fun k _ hm => by simp [blkS] at hm)
  · exact hb.os
  · exact hb.tape
  · exact hb.output
  · have := hb.size; simp [World.setCell]; omega
  · rw [hs k (fun e => hm (by rw [e]; simp))]
    exact hb.block k hk
  · rcases List.mem_cons.1 hk with rfl | hk
    · exact .inl (by simp)
    rcases List.mem_append.1 hk with hk | hk
    · simp [blkS] at hk
      exact .inr (by omega)
    rcases List.mem_append.1 hk with hk | hk
    · exact .inl (List.mem_cons_of_mem _ (List.mem_append_right _ (List.mem_append_left _ hk)))
    · simp [blkS] at hk
theorem MP.crashed {w w6 : World} {p n : Nat} {sk : Option Addr} {ck : Nat} {sn : Option Addr} {cn : Nat} {sw : Option Addr} {cw : Nat} {D : DkS} (h : MP w p n sk ck sn cn sw cw D) (hb : Below w.heap.size w w6) (g cap : Nat) (hg : w.heap.size ≤ g) (hown : w6.ownsRow 0 9 1 (.slice (some ⟨g, 0, none⟩) n cap) n (strL D.kept n)) :
    MP (((w6.setCell ⟨p, 1, none⟩ (.slice (some ⟨g, 0, none⟩) n cap)).setCell ⟨p, 2, none⟩ (.slice none 0 0)).setCell ⟨p, 3, none⟩ (.int .i64 (-1))) p n sk ck (some ⟨g, 0, none⟩) cap none 0 ⟨D.kept, D.kept, [], none⟩ ∧ Mv (p :: ((blkS sk).toList ++ ((blkS sn).toList ++ (blkS sw).toList))) (p :: ((blkS sk).toList ++ ((blkS (some ⟨g, 0, none⟩)).toList ++ (blkS none).toList))) w (((w6.setCell ⟨p, 1, none⟩ (.slice (some ⟨g, 0, none⟩) n cap)).setCell ⟨p, 2, none⟩ (.slice none 0 0)).setCell ⟨p, 3, none⟩ (.int .i64 (-1))) := by
  obtain ⟨a1, a2, a3, a4, a5, a6⟩ := h.apart
  have hp := blk_lt h.box
  have hlk := own_lt h.kept
  have hs : ∀ k, k ≠ p → (((w6.setCell ⟨p, 1, none⟩ (.slice (some ⟨g, 0, none⟩) n cap)).setCell ⟨p, 2, none⟩ (.slice none 0 0)).setCell ⟨p, 3, none⟩ (.int .i64 (-1))).heap[k]? = w6.heap[k]? := fun k hk => by rw [Below.heap_setCell _ _ _ _ hk, Below.heap_setCell _ _ _ _ hk, Below.heap_setCell _ _ _ _ hk]
  refine ⟨⟨?_, own_keep h.kept (fun b hbn => (hs b (a1 b hbn)).trans (hb.block b (hlk b hbn))), own_keep (w := w6) hown (fun b hb => hs b (by simp [blkS] at hb; omega)), World.ownsRow_nil _ _ _ _, fun k e => (by cases e), ?_⟩, ⟨⟨?_, ?_, ?_, ?_, fun k hk hm => ?_⟩, fun k hk => ?_⟩⟩
  · have hbx := (hb.block p hp).trans h.box
    simp [World.setCell, Array.getElem?_modify, hbx]
  · refine mp_nd (blkS_nd _) (blkS_nd _) (blkS_nd _) a1 (fun k hk => by simp [blkS] at hk; omega) (fun k hk => by simp [blkS] at hk) (fun k hk hm => by simp [blkS] at hm; have := hlk k hk; omega) (fun k _ hm => by simp [blkS] at hm) (fun k _ hm => by simp [blkS] at hm)
  · exact hb.os
  · exact hb.tape
  · exact hb.output
  · have := hb.size; simp [World.setCell]; omega
  · rw [hs k (fun e => hm (by rw [e]; simp))]
    exact hb.block k hk
  · rcases List.mem_cons.1 hk with rfl | hk
    · exact .inl (by simp)
    rcases List.mem_append.1 hk with hk | hk
    · exact .inl (List.mem_cons_of_mem _ (List.mem_append_left _ hk))
    rcases List.mem_append.1 hk with hk | hk
    · simp [blkS] at hk
      exact .inr (by omega)
    · simp [blkS] at hk

theorem mflush_no (p n : Nat) (fp : List Nat) (D : DkS) (w : World) (h : MAt w p n fp D) (hp0 : D.pw = some 0) :
    Calls Tryd.prog 24 #[.pointer (some ⟨p, 0, none⟩)] w fun e w' => e = .returned (.int .i64 9) ∧ w' = w := by
  have H := hide h
  have HP := hide hp0
  clear h hp0
  go_enter Tryd.func24, Tryd.ntmps24
  go_wp2_with fail
  refine (mpower_no p n _ D _ (unhide H) (unhide HP)).mono ?_
  rintro e w1 ⟨rfl, rfl⟩
  go_wp2
  go_ret
  exact ⟨rfl, rfl⟩

/-- A row of strings, copied. -/
theorem strL_news {w : World} {g n cap : Nat} {f : Nat → ByteArray} (h : w.ownsRow 0 9 1 (.slice (some ⟨g, 0, none⟩) n cap) n (strL f n)) : ∀ j u, (strL f n)[j]? = some u → w.cell? ((⟨g, 0, none⟩ : Addr).add j) = some u := h.cells (g := g) rfl

set_option maxHeartbeats 2000000 in
set_option maxRecDepth 100000 in
theorem mflush_ok (p n : Nat) (fp : List Nat) (D : DkS) (po : Option Nat) (w : World) (h : MAt w p n fp D) (hn : 0 < n) (hn2 : n ≤ 4000) (hp0 : spS D.pw = some po) :
    Calls Tryd.prog 24 #[.pointer (some ⟨p, 0, none⟩)] w fun e w' => e = .returned (.int .i64 0) ∧ ∃ fp', MAt w' p n fp' (flushS D po) ∧ Mv fp fp' w w' := by
  have H := hide h
  have HP := hide hp0
  clear h hp0
  go_enter Tryd.func24, Tryd.ntmps24
  go_wp2_with fail
  refine (mpower_ok p n _ D po _ (unhide H) (unhide HP)).mono ?_
  rintro e w3 ⟨rfl, hA, hM⟩
  have HM := hide hM
  obtain ⟨sk, ck, sn, cn, sw, cw, hfe, hp⟩ := hA
  have HFE := hide hfe
  obtain ⟨gn, rfl, hcn, hcm, _⟩ := own_some hp.now hn
  obtain ⟨k0, k1, k2, k3, kf, kq⟩ := hp.cells
  have f0 := kf 0
  have f2 := kf 2
  have HP3 := hide hp
  have hnews := hide (strL_news hp.now)
  have HL := hide (strL_length D.now n)
  have H1 := hide (strL_one D.now n)
  obtain ⟨i0, hi7, hz0, hz1, hz2⟩ := info_parts str_info
  unfold maxLen at hcm
  clear hp hM hfe kf k3
  obtain ⟨xs, HXS⟩ : ∃ xs, Hid (xs = strL D.now n) := ⟨_, rfl⟩
  rw [← unhide HXS] at hnews HL H1
  go_wp2_with (at_builtin; refine wpList_append_lies _ rfl (.tmp 10) (.tmp 14) 41 rfl w3.heap.size 9 i0 _ 1 16 Tryd.underlying41 hi7 hz0 hz1 hz2 rfl (by omega) (.slice none 0 0) 0 [] rfl (World.ownsRow_nil _ _ _ _) ⟨gn, 0, none⟩ n cn xs rfl (by rw [unhide HL, Nat.mul_one]) (unhide hnews) (unhide H1) (by omega) ?qc2 ?qc3 (Nat.le_refl _) _ rfl ?_)
  case qc2 => unfold maxLen; omega
  case qc3 => omega
  intro g cap w6 hown hgrow hat hlt6
  have hg : w3.heap.size = g := by
    rcases hat with e | e
    · simp [Value.ownBlock] at e
    · exact e.symm
  have hb6 : Below w3.heap.size w3 w6 := (Below.refl _ _).grown hgrow (Nat.le_refl _) (fun k e => by simp [Value.ownBlock] at e)
  rw [unhide HXS] at hown
  have HP7 := hide ((unhide HP3).flushed hb6 g cap (by omega) (own_rebase hown (Nat.zero_le _)))
  have k6 := (hb6.cell (p := ⟨p, 0, none⟩) kq).trans k0
  have k62 := (hb6.cell (p := ⟨p, 2, none⟩) kq).trans k2
  have f6 := (hb6.frozen (p := ⟨p, 0, none⟩) kq).trans f0
  have f62 := (hb6.frozen (p := ⟨p, 2, none⟩) kq).trans f2
  clear hown hgrow hat hb6 k0 k1 k2 kq f0 f2 hg
  go_wp2
  go_ret
  obtain ⟨hq7, hm7⟩ := unhide HP7
  refine ⟨rfl, _, ⟨some ⟨g, 0, none⟩, cap, some ⟨gn, 0, none⟩, cn, none, 0, rfl, hq7⟩, ?_⟩
  have hm := unhide HM
  rw [unhide HFE] at hm ⊢
  exact hm.trans hm7
end Go.Proofs.YthkecbgifajmmaaDoor
