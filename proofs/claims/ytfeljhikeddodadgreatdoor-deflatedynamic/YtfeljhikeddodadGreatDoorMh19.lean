/- Walks: the code of a row's steps. Walks: lengths of lengths in their order. -/
import Derived.Test.YtfeljhikeddodadGreatDoorMh18
namespace Go.Proofs.YtfeljhikeddodadGreatDoor
open Go.RowKit Ps Nf Pm Cn

/-- An array of numbers at a block of a call's own. -/
structure Nr (w : World) (g n : Nat) (f : Nat → Nat) : Prop where
  cell : ∀ j, j < n → w.cell? ⟨g, j, none⟩ = some (.int .i64 (f j : Int))
  free : ∀ j, j < n → w.frozen? ⟨g, j, none⟩ = false
  lt : g < w.heap.size
theorem Nr.set {w : World} {g n : Nat} {f : Nat → Nat} (h : Nr w g n f) (j v : Nat) (hj : j < n) : Nr (w.setCell ⟨g, j, none⟩ (.int .i64 (v : Int))) g n (fun i => if i = j then v else f i) := by
  refine ⟨fun i hi => ?_, fun i hi => ?_, by have := h.lt; simpa [World.setCell] using this⟩
  · by_cases e : i = j
    · subst e
      have hc := h.cell i hj
      rw [if_pos rfl]
      simp [go_sem, hc]
    · rw [if_neg e]
      rw [World.cell?_setCell_other _ _ _ _ (fun q => e (by injection q with _ q; exact q.symm))]
      exact h.cell i hi
  · have := h.free i hi
    simp [go_sem, this]
theorem Nr.keep {w w' : World} {g n : Nat} {f : Nat → Nat} (h : Nr w g n f) (hb : w'.heap[g]? = w.heap[g]?) (hs : w.heap.size ≤ w'.heap.size) : Nr w' g n f :=
  ⟨fun j hj => (World.cell?_of_block (a := ⟨g, j, none⟩) hb).trans (h.cell j hj), fun j hj => (World.frozen?_of_block (a := ⟨g, j, none⟩) hb).trans (h.free j hj), Nat.lt_of_lt_of_le h.lt hs⟩
theorem Nr.congr {w : World} {g n : Nat} {f f' : Nat → Nat} (h : Nr w g n f) (he : ∀ j, j < n → f j = f' j) : Nr w g n f' :=
  ⟨fun j hj => by rw [← he j hj]; exact h.cell j hj, h.free, h.lt⟩
theorem Nr.new (w : World) (n : Nat) (t : TypeId) : Nr (w.alloc (.cells (Array.replicate n (.int .i64 0)) t)) w.heap.size n (fun _ => 0) := by
  have h2 := heap_alloc_new w (.cells (Array.replicate n (.int .i64 0)) t)
  refine ⟨fun j hj => ?_, fun j _ => ?_, by simp⟩
  · simp only [World.cell?, h2]
    rw [Array.getElem?_replicate, if_pos hj]
    rfl
  · simp only [World.frozen?, h2]
    simp
theorem Nr.ints {w : World} {g n : Nat} {f : Nat → Nat} (h : Nr w g n f) (hn : n ≤ 100000) (hf : ∀ j, j < n → f j ≤ 1048576) : IsInts w (some ⟨g, 0, none⟩) n (fun i => (f i : Int)) :=
  .inr ⟨g, 0, rfl, by unfold maxLen; omega, fun i hi => ⟨by rw [Nat.zero_add]; exact h.cell i hi, by have := hf i hi; show _ ≤ ((f i : Nat) : Int); omega, by have := hf i hi; show ((f i : Nat) : Int) ≤ _; omega⟩⟩
/-- How often each symbol stands in steps. -/
def cntS (ss : List Sp) (x : Nat) : Nat := (ss.map (·.1)).count x
theorem cntS_le (ss : List Sp) (x : Nat) : cntS ss x ≤ ss.length := by
  unfold cntS
  have := List.count_le_length (a := x) (l := ss.map (·.1))
  simpa using this
theorem cntS_pos {ss : List Sp} {s : Sp} (h : s ∈ ss) : 0 < cntS ss s.1 := List.count_pos_iff.2 (List.mem_map.2 ⟨s, h, rfl⟩)
theorem cntS_next (ss : List Sp) (i x : Nat) (h : i < ss.length) : cntS (ss.take (i + 1)) x = if x = (ss.getD i (0, 0)).1 then cntS (ss.take i) x + 1 else cntS (ss.take i) x := by
  have e : ss.getD i (0, 0) = ss[i] := by rw [List.getD_eq_getElem?_getD, List.getElem?_eq_getElem h]; rfl
  unfold cntS
  rw [List.take_succ_eq_append_getElem h, List.map_append, List.count_append, e]
  by_cases c : x = ss[i].1
  · rw [if_pos c, c]; simp
  · rw [if_neg c]
    simp [Ne.symm c]
set_option maxHeartbeats 4000000 in
set_option maxRecDepth 100000 in
theorem ownCode_any (g n c : Nat) (ss : List Sp) (v1 v2 : Value) (w : World) (hQ : ∀ j u, (stV ss)[j]? = some u → w.cell? ⟨g, j, none⟩ = some u) (hn : n = ss.length) (h0 : 0 < n) (hn3 : n ≤ 1000) (hs : ∀ s ∈ ss, s.1 < 19)
    (h1 : w.cell? ⟨0, 0, none⟩ = some v1) (h2 : w.cell? ⟨2, 0, none⟩ = some v2) :
    Calls Tryz.prog 121 #[.slice (some ⟨g, 0, none⟩) n c] w fun e w' => ∃ v l, e = .returned v ∧ Cv w' w.heap.size v l 19 ∧ Bst (cntS ss) l 19 7 ∧ Below w.heap.size w w' := by
  have hgl : g < w.heap.size := by
    have := (stV_at ss 0 (by omega)).1
    exact World.block_lt_of_cell? _ _ (hQ _ _ this)
  have l1 := World.block_lt_of_cell? _ _ h1
  have l2 := World.block_lt_of_cell? _ _ h2
  simp only at l1 l2
  have hb2 : Below w.heap.size w ((w.alloc (.cells #[.slice none 0 0, .slice none 0 0] 101)).alloc (.cells #[.int .i64 0, .int .i64 0, .int .i64 0, .int .i64 0, .int .i64 0, .int .i64 0, .int .i64 0, .int .i64 0, .int .i64 0, .int .i64 0, .int .i64 0, .int .i64 0, .int .i64 0, .int .i64 0, .int .i64 0, .int .i64 0, .int .i64 0, .int .i64 0, .int .i64 0] 217)) := ((Below.refl _ _).alloc (Nat.le_refl _) _).alloc (by simp) _
  have hN0 : Nr ((w.alloc (.cells #[.slice none 0 0, .slice none 0 0] 101)).alloc (.cells #[.int .i64 0, .int .i64 0, .int .i64 0, .int .i64 0, .int .i64 0, .int .i64 0, .int .i64 0, .int .i64 0, .int .i64 0, .int .i64 0, .int .i64 0, .int .i64 0, .int .i64 0, .int .i64 0, .int .i64 0, .int .i64 0, .int .i64 0, .int .i64 0, .int .i64 0] 217)) (w.heap.size + 1) 19 (fun _ => 0) := by
    have := Nr.new (w.alloc (.cells #[.slice none 0 0, .slice none 0 0] 101)) 19 217
    rw [show (w.alloc (.cells #[.slice none 0 0, .slice none 0 0] 101)).heap.size = w.heap.size + 1 by simp] at this
    exact this
  have f0 : ((w.alloc (.cells #[.slice none 0 0, .slice none 0 0] 101)).alloc (.cells #[.int .i64 0, .int .i64 0, .int .i64 0, .int .i64 0, .int .i64 0, .int .i64 0, .int .i64 0, .int .i64 0, .int .i64 0, .int .i64 0, .int .i64 0, .int .i64 0, .int .i64 0, .int .i64 0, .int .i64 0, .int .i64 0, .int .i64 0, .int .i64 0, .int .i64 0] 217)).heap[w.heap.size]? = some (.cells #[.slice none 0 0, .slice none 0 0] 101) := (Below.heap_alloc _ _ _ (by simp)).trans (heap_alloc_new _ _)
  have HB0 := hide hb2
  have HN0 := hide hN0
  have F0 := hide f0
  have HQ := hide hQ
  have Hn := hide hn
  have HS := hide hs
  have H1 := hide h1
  have H2 := hide h2
  clear hb2 hN0 f0 hQ hn hs h1 h2
  go_enter Tryz.func121, Tryz.ntmps121
  go_wp2
  obtain ⟨gp, hgp⟩ : ∃ q, q = w.heap.size := ⟨_, rfl⟩
  rw [← hgp] at HN0 HB0 F0 hgl l1 l2
  rw [← hgp]
  have Hgp := hide hgp
  clear hgp
  generalize (w.alloc (.cells #[.slice none 0 0, .slice none 0 0] 101)).alloc (.cells #[.int .i64 0, .int .i64 0, .int .i64 0, .int .i64 0, .int .i64 0, .int .i64 0, .int .i64 0, .int .i64 0, .int .i64 0, .int .i64 0, .int .i64 0, .int .i64 0, .int .i64 0, .int .i64 0, .int .i64 0, .int .i64 0, .int .i64 0, .int .i64 0, .int .i64 0] 217) = w0 at *
  go_loopw [8] (fun iv wr => ∃ i : Nat, i ≤ n ∧ iv = .int .i64 (i : Int) ∧ Hid (Nr wr (gp + 1) 19 (cntS (ss.take i))) ∧ Hid (wr.heap[gp]? = some (.cells #[.slice none 0 0, .slice none 0 0] 101)) ∧ Hid (Below gp w wr) ∧ gp + 2 ≤ wr.heap.size) (fun iv _ => n - (intOf iv).toNat)
  case atStart => exact ⟨0, Nat.zero_le _, rfl, (unhide HN0).congr (fun j _ => rfl), F0, HB0, (unhide HN0).lt⟩
  case round =>
    clear HN0 F0 HB0
    obtain ⟨i, hi, rfl, HN, HF, HB, hwz⟩ := hrel
    by_cases hlt : i < n
    · have d1 : decide ((i : Int) < (n : Int)) = true := decide_eq_true (by omega)
      have d1n : decide (i < n) = true := decide_eq_true hlt
      have hii : (i : Int) < (n : Int) := by omega
      have hil : i < ss.length := by have := unhide Hn; omega
      obtain ⟨q0, q1⟩ := stV_at ss i hil
      have c0 := ((unhide HB).cell (p := ⟨g, i * 2, none⟩) hgl).trans (unhide HQ _ _ q0)
      have c1 := ((unhide HB).cell (p := ⟨g, i * 2 + 1, none⟩) hgl).trans (unhide HQ _ _ q1)
      obtain ⟨x, hx⟩ : ∃ x, x = (ss.getD i (0, 0)).1 := ⟨_, rfl⟩
      obtain ⟨y, hy⟩ : ∃ y, y = (ss.getD i (0, 0)).2 := ⟨_, rfl⟩
      rw [← hx] at c0
      rw [← hy] at c1
      have hx19 : x < 19 := by
        rw [hx, List.getD_eq_getElem?_getD, List.getElem?_eq_getElem hil]
        exact unhide HS _ (List.getElem_mem hil)
      have hxi : (x : Int) < 19 := by omega
      have hba : Below wr.heap.size wr (wr.alloc (.cells #[.int .i64 (x : Int), .int .i64 (y : Int)] 176)) := (Below.refl _ _).alloc (Nat.le_refl _) _
      have hN1 := (unhide HN).keep (hba.block (gp + 1) (by omega)) hba.size
      have k0 := hN1.cell x hx19
      have k1 := hN1.free x hx19
      obtain ⟨m, hm⟩ : ∃ m, m = cntS (ss.take i) x := ⟨_, rfl⟩
      rw [← hm] at k0
      have hm3 : m ≤ 1000 := by
        rw [hm]
        have := cntS_le (ss.take i) x
        rw [List.length_take] at this
        omega
      obtain ⟨m1, hm1⟩ : ∃ m1, m1 = m + 1 := ⟨_, rfl⟩
      have zm : (m : Int) + 1 = (m1 : Int) := by omega
      have HN2 : Hid (Nr ((wr.alloc (.cells #[.int .i64 (x : Int), .int .i64 (y : Int)] 176)).setCell ⟨gp + 1, x, none⟩ (.int .i64 (m1 : Int))) (gp + 1) 19 (cntS (ss.take (i + 1)))) := (hN1.set x m1 hx19).congr (fun j _ => by
        rw [cntS_next ss i j hil, ← hx]
        by_cases e : j = x
        · rw [if_pos e, if_pos e, e, ← hm]; exact hm1
        · rw [if_neg e, if_neg e])
      have HF2 : Hid (((wr.alloc (.cells #[.int .i64 (x : Int), .int .i64 (y : Int)] 176)).setCell ⟨gp + 1, x, none⟩ (.int .i64 (m1 : Int))).heap[gp]? = some (.cells #[.slice none 0 0, .slice none 0 0] 101)) := by
        show _ = _
        rw [Below.heap_setCell _ _ _ _ (fun q => by simp only at q; omega), hba.block gp (by omega)]
        exact unhide HF
      have HB2 := hide (((unhide HB).trans (hba.mono (by omega))).setCell (p := ⟨gp + 1, x, none⟩) (by show gp ≤ gp + 1; omega) (.int .i64 (m1 : Int)))
      have hwz2 : gp + 2 ≤ ((wr.alloc (.cells #[.int .i64 (x : Int), .int .i64 (y : Int)] 176)).setCell ⟨gp + 1, x, none⟩ (.int .i64 (m1 : Int))).heap.size := by
        have := hba.size
        simpa [World.setCell] using Nat.le_trans hwz this
      have hne : gp + 1 ≠ wr.heap.size := by omega
      have Hx := hide hx
      have Hy := hide hy
      have Hm := hide hm
      have Hm1 := hide hm1
      clear q0 q1 hx hy hm hm1 hba hN1 HN HF HB
      go_wp2
      go_roundw
      case rel => exact ⟨i + 1, by omega, by go_num, HN2, HF2, HB2, hwz2⟩
      case measure => simp [intOf]; omega
    · obtain rfl : i = n := by omega
      have d1 : decide ((i : Int) < (i : Int)) = false := by simp
      have hN1 : Nr wr (gp + 1) 19 (cntS ss) := by
        have := unhide HN
        rwa [unhide Hn, List.take_length] at this
      have HX := hide (dbest_any (some ⟨gp + 1, 0, none⟩) 19 19 7 (cntS ss) v1 v2 wr (hN1.ints (by omega) (fun j _ => by have := cntS_le ss j; have := unhide Hn; omega)) (by omega) (by omega) (by omega) (by omega) (fun j _ => by have := cntS_le ss j; have := unhide Hn; omega) (by decide)
        (((unhide HB).cell (p := ⟨0, 0, none⟩) l1).trans (unhide H1)) (((unhide HB).cell (p := ⟨2, 0, none⟩) l2).trans (unhide H2)))
      clear hN1 HN
      go_wp2_with fail
      refine (unhide HX).mono ?_; rintro e w2 ⟨v, l, rfl, hcv, hbst, hb2⟩
      obtain ⟨b1, b2, rfl, hb1g, hb2g, hc1, hc2⟩ := hcv.is
      have HC1 := hide hc1
      have HC2 := hide hc2
      have HBS := hide hbst
      have F2 := hide ((hb2.block gp (by omega)).trans (unhide HF))
      have HB2 := hide ((unhide HB).trans (hb2.mono (by omega)))
      have c0 : w2.cell? ⟨gp, 0, none⟩ = some (.slice none 0 0) := by simp only [World.cell?, unhide F2]; rfl
      have c1 : w2.cell? ⟨gp, 1, none⟩ = some (.slice none 0 0) := by simp only [World.cell?, unhide F2]; rfl
      have z0 : w2.frozen? ⟨gp, 0, none⟩ = false := by simp only [World.frozen?, unhide F2]; simp
      have z1 : w2.frozen? ⟨gp, 1, none⟩ = false := by simp only [World.frozen?, unhide F2]; simp
      have HFin : Hid (∃ v l, (Ending.returned (.agg #[.slice (some ⟨b1, 0, none⟩) 19 19, .slice (some ⟨b2, 0, none⟩) 19 19]) : Ending) = .returned v ∧ Cv ((w2.setCell ⟨gp, 0, none⟩ (.slice (some ⟨b1, 0, none⟩) 19 19)).setCell ⟨gp, 1, none⟩ (.slice (some ⟨b2, 0, none⟩) 19 19)) gp v l 19 ∧ Bst (cntS ss) l 19 7 ∧ Below gp w ((w2.setCell ⟨gp, 0, none⟩ (.slice (some ⟨b1, 0, none⟩) 19 19)).setCell ⟨gp, 1, none⟩ (.slice (some ⟨b2, 0, none⟩) 19 19))) := by
        refine ⟨_, l, rfl, ⟨⟨b1, b2, rfl, by omega, by omega, fun i hi => ?_, fun i hi => ?_⟩⟩, unhide HBS, ((unhide HB2).setCell (p := ⟨gp, 0, none⟩) (Nat.le_refl _) _).setCell (p := ⟨gp, 1, none⟩) (Nat.le_refl _) _⟩
        · rw [World.cell?_setCell_other _ _ _ _ (fun q => by injection q with q _; omega), World.cell?_setCell_other _ _ _ _ (fun q => by injection q with q _; omega)]
          exact unhide HC1 i hi
        · rw [World.cell?_setCell_other _ _ _ _ (fun q => by injection q with q _; omega), World.cell?_setCell_other _ _ _ _ (fun q => by injection q with q _; omega)]
          exact unhide HC2 i hi
      clear HX hcv hbst hb2 hc1 hc2 HF HB
      go_wp2
      refine bodyPost_ret (v := .agg #[.slice (some ⟨b1, 0, none⟩) 19 19, .slice (some ⟨b2, 0, none⟩) 19 19]) ?_ rfl (by first | exact unhide HFin | (rw [← unhide Hgp]; exact unhide HFin))
      rw [results_c (p := 2) (ty := 101) (by kernel_rfl)]
      go_simp
end Go.Proofs.YtfeljhikeddodadGreatDoor
namespace Go.Proofs.YtfeljhikeddodadGreatDoor
open Go.RowKit Ps Nf Pm Cn

def nV (l : List Nat) : List Value := l.map fun (x : Nat) => .int .i64 (x : Int)
theorem nV_append (a b : List Nat) : nV (a ++ b) = nV a ++ nV b := by simp [nV]
theorem nV_length (l : List Nat) : (nV l).length = l.length := by simp [nV]
theorem nV_at (l : List Nat) (i : Nat) (h : i < l.length) : (nV l)[i]? = some (.int .i64 (l.getD i 0 : Int)) := by
  simp [nV, List.getElem?_eq_getElem h]
theorem info_int : (Tryz.prog.info? 3).map (fun i => (i.zero, i.size, i.bytes)) = some (some (.int .i64 0), 1, 8) := by kernel_rfl
theorem app_n1 (w : World) (base q : Nat) (v : Value) (l : List Nat) (x : Nat) (t : TypeId) (hown : w.ownsRow base 3 1 v l.length (nV l)) (hq : w.cell? ⟨q, 0, none⟩ = some (.int .i64 (x : Int))) (hl : l.length ≤ 1000000) (hb : base ≤ w.heap.size) :
    ∃ v' w', (Builtin.append_ #[38, 38] t #[v, .slice (some ⟨q, 0, none⟩) 1 1]).run Tryz.prog w = .ok v' w' ∧ w'.ownsRow base 3 1 v' (l ++ [x]).length (nV (l ++ [x])) ∧ w.grownBy w' v.ownBlock := by
  obtain ⟨i0, hi, hz0, hz1, hz2⟩ := info_parts info_int
  obtain ⟨v', w', a1, a2, a3, _, _⟩ := run_append_own_at (P := Tryz.prog) w base 38 t 3 i0 (.int .i64 0) 1 8 Tryz.underlying38 hi hz0 hz1 hz2 rfl (by omega) v l.length (nV l) hown ⟨q, 0, none⟩ 1 1 [.int .i64 (x : Int)] rfl (fun j u hj => by
    match j, hj with
    | 0, hj => rw [addr_add, Nat.zero_add, hq]; simpa using hj) (fun u hu => by rw [List.mem_singleton] at hu; subst hu; rfl) (by unfold maxLen; omega) (by omega) hb
  refine ⟨v', w', a1, ?_, a3⟩
  rw [nV_append, List.length_append]
  exact a2
theorem wpList_appN1 (w : World) {ops : Array Oper} {rest : List Oper} {o : Oper} {a : Act} {Q : Exit → Act → World → Prop} (hgd : o.guard = none) (s x : Operand)
    (ho : o.op = .call { callee := .builtin .append, args := #[s, x], argTypes := #[38, 38] }) (base q : Nat) (v : Value) (l : List Nat) (y : Nat) (hs : a.eval s = v) (hx : a.eval x = .slice (some ⟨q, 0, none⟩) 1 1)
    (hown : w.ownsRow base 3 1 v l.length (nV l)) (hq : w.cell? ⟨q, 0, none⟩ = some (.int .i64 (y : Int))) (hl : l.length ≤ 1000000) (hb : base ≤ w.heap.size)
    (h : ∀ v' w', w'.ownsRow base 3 1 v' (l ++ [y]).length (nV (l ++ [y])) → w.grownBy w' v.ownBlock → wpList Tryz.prog ops Q rest (a.put o.dst v') w') : wpList Tryz.prog ops Q (o :: rest) a w := by
  obtain ⟨v', w', a1, a2, a3⟩ := app_n1 w base q v l y o.type hown hq hl hb
  refine wpList_plain hgd fun _ hK => ?_
  unfold Oper.wp execOp
  simp only [ho, resolve, invoke, builtin, Sem.run_bind, Sem.run_pure, Result.andThen_ok, List.map_toArray, List.map_cons, List.map_nil, hs, hx, a1]
  exact hK _ _ (h v' w' a2 a3)
/-- Lengths of lengths, in their order. -/
def ordL (l : Nat → Nat) (n : Nat) : List Nat := (List.range n).map fun j => l (order.getD j 0)
theorem ordL_succ (l : Nat → Nat) (n : Nat) : ordL l (n + 1) = ordL l n ++ [l (order.getD n 0)] := by simp [ordL, List.range_succ]
theorem ordL_length (l : Nat → Nat) (n : Nat) : (ordL l n).length = n := by simp [ordL]
theorem index_order (w : World) (i : Nat) (h : i < 19) : (Instr.index 217 (.agg orderV) (.int .i64 (i : Int))).run Tryz.prog w = .ok (.int .i64 ((order.getD i 0 : Nat) : Int)) w := by
  rcases (show i = 0 ∨ i = 1 ∨ i = 2 ∨ i = 3 ∨ i = 4 ∨ i = 5 ∨ i = 6 ∨ i = 7 ∨ i = 8 ∨ i = 9 ∨ i = 10 ∨ i = 11 ∨ i = 12 ∨ i = 13 ∨ i = 14 ∨ i = 15 ∨ i = 16 ∨ i = 17 ∨ i = 18 by omega) with rfl | rfl | rfl | rfl | rfl | rfl | rfl | rfl | rfl | rfl | rfl | rfl | rfl | rfl | rfl | rfl | rfl | rfl | rfl <;> kernel_rfl
set_option maxHeartbeats 4000000 in
set_option maxRecDepth 100000 in
theorem ordered_any (b c : Nat) (l : Nat → Nat) (w : World) (hP : ∀ i, i < 19 → w.cell? ⟨b, i, none⟩ = some (.int .i64 (l i : Int))) (h15 : ∀ i, i < 19 → l i ≤ 15) :
    Calls Tryz.prog 122 #[.slice (some ⟨b, 0, none⟩) 19 c] w fun e w' => ∃ a c', e = .returned (.slice a 19 c') ∧ w'.ownsRow w.heap.size 3 1 (.slice a 19 c') 19 (nV (ordL l 19)) ∧ Below w.heap.size w w' := by
  have HX := hide (ofLengths_any w)
  have hbl : b < w.heap.size := World.block_lt_of_cell? _ _ (hP 0 (by omega))
  have HP := hide hP
  have H15 := hide h15
  clear hP h15
  go_enter Tryz.func122, Tryz.ntmps122
  go_wp2_with fail
  refine (unhide HX).mono ?_; rintro e w1 ⟨rfl, hb1⟩
  have HB1 := hide hb1
  clear HX hb1
  have HOA := hide index_order
  generalize orderV = oV at *
  go_wp2
  go_loopw [3, 7] (fun lv iv wr => ∃ (i n cc : Nat) (a : Option Addr), i ≤ 19 ∧ iv = .int .i64 (i : Int) ∧ lv = .slice a n cc ∧ n = i ∧ Hid (wr.ownsRow w.heap.size 3 1 (.slice a n cc) (ordL l i).length (nV (ordL l i))) ∧ Hid (Below w.heap.size w wr)) (fun _ iv _ => 19 - (intOf iv).toNat)
  case atStart => exact ⟨0, 0, 0, none, by omega, rfl, rfl, rfl, World.ownsRow_nil _ _ _ _, HB1⟩
  case round =>
    clear HB1
    obtain ⟨i, n, cc, a, hi, rfl, rfl, hni, HO, HB⟩ := hrel
    subst hni
    by_cases hlt : n < 19
    · have d1 : decide ((n : Int) < 19) = true := decide_eq_true (by omega)
      have hii : (n : Int) < 19 := by omega
      have ho := unhide HOA wr n hlt
      obtain ⟨y, hy⟩ : ∃ y, y = order.getD n 0 := ⟨_, rfl⟩
      have hy19 : y < 19 := by
        have : ∀ j, j < 19 → order.getD j 0 < 19 := by decide
        rw [hy]; exact this n hlt
      rw [← hy] at ho
      have hyi : (y : Int) < 19 := by omega
      have cy := ((unhide HB).cell (p := ⟨b, y, none⟩) hbl).trans (unhide HP y hy19)
      obtain ⟨x, hx⟩ : ∃ x, x = l y := ⟨_, rfl⟩
      rw [← hx] at cy
      have hba : Below wr.heap.size wr (wr.alloc (.cells #[.int .i64 (x : Int)] 3)) := (Below.refl _ _).alloc (Nat.le_refl _) _
      have HO1 : Hid ((wr.alloc (.cells #[.int .i64 (x : Int)] 3)).ownsRow w.heap.size 3 1 (.slice a n cc) (ordL l n).length (nV (ordL l n))) := own_keepS (unhide HO) (fun k _ hk => hba.block k hk)
      have HIN := hide (own_inS (unhide HO))
      have HB1 := hide ((unhide HB).trans (hba.mono (unhide HB).size))
      have hB1 : w.heap.size ≤ (wr.alloc (.cells #[.int .i64 (x : Int)] 3)).heap.size := Nat.le_trans (unhide HB).size hba.size
      have CQ : Hid ((wr.alloc (.cells #[.int .i64 (x : Int)] 3)).cell? ⟨wr.heap.size, 0, none⟩ = some (.int .i64 (x : Int))) := by show _ = _; simp [go_sem]
      have hsu : ordL l (n + 1) = ordL l n ++ [x] := by rw [ordL_succ, ← hy, ← hx]
      have HSU := hide hsu
      have hol := ordL_length l n
      have HOL : Hid ((ordL l n).length ≤ 1000000) := by show _ ≤ _; omega
      have Hx := hide hx
      have Hy := hide hy
      clear hba HO HB hx hy hsu
      generalize ordL l n = ol at *
      go_wp2_with (at_builtin; refine wpList_appN1 _ rfl (.tmp 10) (.tmp 15) rfl w.heap.size wr.heap.size (.slice a n cc) ol x rfl rfl (unhide HO1) (unhide CQ) (unhide HOL) hB1 ?_)
      intro v5 w5 ho5 hg5
      obtain ⟨a5, c5, rfl⟩ := own_sliceS ho5
      have HB5 := hide ((unhide HB1).grown hg5 hB1 (fun k e => (unhide HIN k e).1))
      have HO5 : Hid (w5.ownsRow w.heap.size 3 1 (.slice a5 (n + 1) c5) (ordL l (n + 1)).length (nV (ordL l (n + 1)))) := by
        show World.ownsRow _ _ _ _ _ _ _
        have e : (ol ++ [x]).length = n + 1 := by rw [List.length_append, hol]; rfl
        rw [unhide HSU, e]
        first
          | exact ho5
          | (rw [e] at ho5; exact ho5)
          | (rw [List.length_append, hol] at ho5; exact ho5)
          | (rw [hol] at ho5; exact ho5)
      clear ho5 hg5 HO1 HB1 CQ
      go_wp2
      go_roundw
      case rel => exact ⟨n + 1, n + 1, c5, a5, by omega, by go_num, by first | rfl | simp [hol], rfl, HO5, HB5⟩
      case measure => simp [intOf]; omega
    · obtain rfl : n = 19 := by omega
      have HO2 : Hid (wr.ownsRow w.heap.size 3 1 (.slice a 19 cc) 19 (nV (ordL l 19))) := by
        have := unhide HO
        rw [ordL_length] at this
        exact this
      go_wp2
      go_ret
      exact ⟨a, cc, rfl, unhide HO2, unhide HB⟩
end Go.Proofs.YtfeljhikeddodadGreatDoor
