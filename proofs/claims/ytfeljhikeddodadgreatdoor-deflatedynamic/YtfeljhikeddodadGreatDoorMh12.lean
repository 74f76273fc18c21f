/- plain.Code by its contracts: nil; an error of errors.New's make, one of the project's or another; a pointer to api.Fault that holds one of the project's. plain.Code of one of the errors. layercakelaw1.coded by its contracts. layercakelaw1.faulted by its contracts. Walks of the statement's helpers: a copy of tokens; are they few? an error's number and place. The head of a dynamic block, plainly: steps of a row of lengths, and how they are read. No Go stands here. Walks: the steps of a row of lengths. -/
import Derived.Test.YtfeljhikeddodadGreatDoorErrsAs
import Derived.Below
import Derived.Test.YtfeljhikeddodadGreatDoorMh1
import Derived.Test.YtfeljhikeddodadGreatDoorMx4
import Derived.Deep.AppendLies
import Derived.Test.YtfeljhikeddodadGreatDoorMh3
import Derived.Test.YtfeljhikeddodadGreatDoorMh9
import Derived.Test.YtfeljhikeddodadGreatDoorMh4
import Derived.BigQuiet
import Derived.Deep.DeepCutAuto
import Derived.Deep.CutBlock
namespace Go.Proofs.YtfeljhikeddodadGreatDoor
open Go.RowKit Go.Extern.Stop Go.Stop Go.Extern

/-- The number of the i-th error's variable. -/
def sentAt (i : Nat) : Nat := [1, 0, 2, 3, 4, 5, 6, 7, 8].getD i 0
/-- The i-th error as a value. -/
def sentV (a : Nat → Addr) (i : Nat) : Value := .iface 243 (.pointer (some (a i)))
/-- What the project's errors hold: each variable a pointer to an error of errors.New's make, no two the same one; and the library's own handle. -/
structure Sent (w : World) (a : Nat → Addr) : Prop where
  cell : ∀ i, i < 9 → w.cell? ⟨sentAt i, 0, none⟩ = some (sentV a i)
  row : ∀ i, i < 9 → ∃ c t, w.heap[(a i).block]? = some (.cells c t (0, 0))
  apart : ∀ i j, i < 9 → j < 9 → i ≠ j → a i ≠ a j
  handle : w.cell? ⟨9, 0, none⟩ = some (.iface 199 (.agg #[.pointer (some ⟨12, 26, none⟩)]))
theorem cell_block {w : World} {p : Addr} {v : Value} (h : w.cell? p = some v) : p.block < w.heap.size := by
  rcases Nat.lt_or_ge p.block w.heap.size with h' | h'
  · exact h'
  · simp [World.cell?, Array.getElem?_eq_none h'] at h
theorem heap_block {w : World} {k : Nat} {o : Obj} (h : w.heap[k]? = some o) : k < w.heap.size := by
  rcases Nat.lt_or_ge k w.heap.size with h' | h'
  · exact h'
  · simp [Array.getElem?_eq_none h'] at h
theorem Sent.below {w w' : World} {a : Nat → Addr} (h : Sent w a) (hb : Below w.heap.size w w') : Sent w' a := by
  refine ⟨fun i hi => ?_, fun i hi => ?_, h.apart, ?_⟩
  · rw [hb.cell (cell_block (h.cell i hi))]; exact h.cell i hi
  · obtain ⟨c, t, hc⟩ := h.row i hi
    exact ⟨c, t, by rw [hb.block _ (heap_block hc)]; exact hc⟩
  · rw [hb.cell (cell_block h.handle)]; exact h.handle
theorem as_hit2 (e : Addr) (w : World) (a : Nat → Addr) (hS : Sent w a) :
    Calls Tryz.prog 68 #[.iface 106 (.pointer (some e)), .iface 108 (.pointer (some ⟨w.heap.size, 0, none⟩))] (w.alloc (.cells #[.pointer none] 106)) fun ev w' => ev = .returned (.bool true) ∧ Below w.heap.size w w' ∧ w'.cell? ⟨w.heap.size, 0, none⟩ = some (.pointer (some e)) := by
  have hb0 : Below w.heap.size w (w.alloc (.cells #[.pointer none] 106)) := (Below.refl _ _).alloc (Nat.le_refl _) _
  have hc0 : (w.alloc (.cells #[.pointer none] 106)).cell? ⟨w.heap.size, 0, none⟩ = some (.pointer none) := by simp
  refine (as_hit e ⟨w.heap.size, 0, none⟩ (.pointer none) _ (hS.below hb0).handle hc0 (by simp)).mono ?_
  rintro ev w' ⟨rfl, rfl⟩
  refine ⟨rfl, ((((hb0.alloc (by simp) _).alloc (by simp; omega) _).alloc (by simp; omega) _).alloc (by simp; omega) _).setCell (Nat.le_refl _) _, ?_⟩
  refine World.cell?_setCell_same (u := .pointer none) _ _ _ ?_
  rw [World.cell?_alloc_lt _ _ ⟨w.heap.size, 0, none⟩ (by simp; omega), World.cell?_alloc_lt _ _ ⟨w.heap.size, 0, none⟩ (by simp; omega), World.cell?_alloc_lt _ _ ⟨w.heap.size, 0, none⟩ (by simp; omega), World.cell?_alloc_lt _ _ ⟨w.heap.size, 0, none⟩ (by simp)]
  exact hc0
theorem is_fault_at (pb po : Nat) (idx k : Nat) (w : World) (a : Nat → Addr) (hS : Sent w a) (hk : k < 9) (hi : idx < 9) (h1 : w.cell? ⟨pb, po + 1, none⟩ = some (sentV a idx)) :
    Calls Tryz.prog 69 #[.iface 106 (.pointer (some ⟨pb, po, none⟩)), .iface 243 (.pointer (some (a k)))] w fun e w' => e = .returned (.bool (decide (k = idx))) ∧ w' = w := by
  by_cases h : k = idx
  · subst h
    rw [decide_eq_true rfl]
    exact is_fault_same pb po (a k) w h1
  · obtain ⟨c, t, hc⟩ := hS.row idx hi
    obtain ⟨c', t', hc'⟩ := hS.row k hk
    rw [decide_eq_false h]
    exact is_fault_other pb po (a k) (a idx) c c' t t' w h1 (hS.apart idx k hi hk (Ne.symm h)) hc hc'
/-- The list of the project's errors, laid. -/
def sentRow (a : Nat → Addr) : Array Value := #[sentV a 0, sentV a 1, sentV a 2, sentV a 3, sentV a 4, sentV a 5, sentV a 6, sentV a 7, sentV a 8]
theorem sentRow_at (a : Nat → Addr) (k : Nat) (hk : k < 9) : (sentRow a)[k]? = some (sentV a k) := by
  unfold sentRow
  match k, hk with
  | 0, _ => rfl
  | 1, _ => rfl
  | 2, _ => rfl
  | 3, _ => rfl
  | 4, _ => rfl
  | 5, _ => rfl
  | 6, _ => rfl
  | 7, _ => rfl
  | 8, _ => rfl
set_option maxHeartbeats 1000000 in
theorem code_fault (pb po : Nat) (at_ : Int) (idx : Nat) (w : World) (a : Nat → Addr) (hS : Sent w a) (hi : idx < 9) (h0 : w.cell? ⟨pb, po, none⟩ = some (.int .i64 at_)) (h1 : w.cell? ⟨pb, po + 1, none⟩ = some (sentV a idx)) :
    Calls Tryz.prog 26 #[.iface 106 (.pointer (some ⟨pb, po, none⟩))] w fun e w' => e = .returned (.tuple #[.int .i64 ((idx : Int) + 1), .int .i64 at_]) ∧ Below w.heap.size w w' := by
  have HS : Hid (Sent w a) := hS
  have H0 : Hid (w.cell? ⟨pb, po, none⟩ = some (.int .i64 at_)) := h0
  have H1 : Hid (w.cell? ⟨pb, po + 1, none⟩ = some (sentV a idx)) := h1
  clear hS h0 h1
  go_enter Tryz.func26, Tryz.ntmps26
  go_wp2_with fail
  refine (as_hit2 ⟨pb, po, none⟩ w a HS.out).mono ?_
  rintro e w1 ⟨rfl, hb1, hcf⟩
  have hS1 := HS.out.below hb1
  have hc0 : w1.cell? ⟨pb, po, none⟩ = some (.int .i64 at_) := by rw [hb1.cell (cell_block H0.out)]; exact H0.out
  have c0 := hS1.cell 0 (by decide)
  have c1 := hS1.cell 1 (by decide)
  have c2 := hS1.cell 2 (by decide)
  have c3 := hS1.cell 3 (by decide)
  have c4 := hS1.cell 4 (by decide)
  have c5 := hS1.cell 5 (by decide)
  have c6 := hS1.cell 6 (by decide)
  have c7 := hS1.cell 7 (by decide)
  have c8 := hS1.cell 8 (by decide)
  simp only [sentAt, sentV, List.getD_cons_zero, List.getD_cons_succ] at c0 c1 c2 c3 c4 c5 c6 c7 c8
  go_wp2
  clear c0 c1 c2 c3 c4 c5 c6 c7 c8
  have hrow9 : ∀ j, j < 9 → (w1.alloc (.cells (sentRow a) 26)).cell? ⟨w1.heap.size, j, none⟩ = some (.iface 243 (.pointer (some (a j)))) := fun j hj => by
    rw [World.cell?_alloc_at _ _ _ _ rfl, sentRow_at a j hj]; rfl
  go_loopw [3, 27] (fun s3 i wx => ∃ k : Nat, k ≤ idx ∧ s3 = .int .i64 at_ ∧ i = .int .i64 k ∧ Hid (∀ j, j < 9 → wx.cell? ⟨w1.heap.size, j, none⟩ = some (.iface 243 (.pointer (some (a j))))) ∧ Below w1.heap.size w1 wx) (fun _ i _ => 9 - (intOf i).toNat)
  case atStart => exact ⟨0, by omega, rfl, rfl, hrow9, (Below.refl _ _).alloc (Nat.le_refl _) _⟩
  case round =>
    obtain ⟨k, hki, rfl, rfl, Hcell, hbx⟩ := hrel
    clear hrow9
    have hbw := hb1.trans (hbx.mono hb1.size)
    have hlt : k < 9 := by omega
    have hd : decide ((k : Int) < 9) = true := by simp; omega
    have hc := Hcell.out k hlt
    have h1x : wr.cell? ⟨pb, po + 1, none⟩ = some (sentV a idx) := by rw [hbw.cell (cell_block H1.out)]; exact H1.out
    have hat := is_fault_at pb po idx k wr a (HS.out.below hbw) hlt hi h1x
    by_cases hi2 : k = idx
    · subst hi2
      rw [decide_eq_true rfl] at hat
      have Hat : Hid (Calls _ _ _ _ _) := hat
      clear hat h1x
      go_wp2_with fail
      refine Hat.out.mono ?_
      rintro e w2 ⟨rfl, rfl⟩
      go_wp2
      go_ret2
      exact ⟨rfl, hbw⟩
    · rw [decide_eq_false hi2] at hat
      have Hat : Hid (Calls _ _ _ _ _) := hat
      clear hat h1x
      go_wp2_with fail
      refine Hat.out.mono ?_
      rintro e w2 ⟨rfl, rfl⟩
      go_wp2
      go_roundw
      case rel => exact ⟨k + 1, by omega, rfl, by go_num, Hcell, hbx⟩
      case measure => simp [intOf]; omega
end Go.Proofs.YtfeljhikeddodadGreatDoor
namespace Go.Proofs.YtfeljhikeddodadGreatDoor
open Go.RowKit

end Go.Proofs.YtfeljhikeddodadGreatDoor
namespace Go.Proofs.YtfeljhikeddodadGreatDoor
open Go.RowKit

end Go.Proofs.YtfeljhikeddodadGreatDoor
namespace Go.Proofs.YtfeljhikeddodadGreatDoor
open Go.RowKit

/-- layercakelaw1.faulted, of a pointer to api.Fault. -/
theorem faulted_at (q i c : Nat) (w : World) (a : Nat → Addr) (hS : Sent w a) (hi : c < 9) (h0 : w.cell? ⟨q, 0, none⟩ = some (.int .i64 (i : Int))) (h1 : w.cell? ⟨q, 1, none⟩ = some (sentV a c)) :
    Calls Tryz.prog 11 #[.iface 106 (.pointer (some ⟨q, 0, none⟩)), .agg #[.int .i64 ((c : Int) + 1), .int .i64 (i : Int)]] w fun e w' => e = .returned (.bool true) ∧ Below w.heap.size w w' := by
  have hb0 : Below w.heap.size w (w.alloc (.cells #[.int .i64 ((c : Int) + 1), .int .i64 (i : Int)] 31)) := (Below.refl _ _).alloc (Nat.le_refl _) _
  have hq : q < w.heap.size := World.block_lt_of_cell? _ _ h0
  have HC := hide (code_fault q 0 (i : Int) c (w.alloc (.cells #[.int .i64 ((c : Int) + 1), .int .i64 (i : Int)] 31)) a (hS.below hb0) hi ((hb0.cell (p := ⟨q, 0, none⟩) hq).trans h0) ((hb0.cell (p := ⟨q, 0 + 1, none⟩) hq).trans h1))
  have f0 : (w.alloc (.cells #[.int .i64 ((c : Int) + 1), .int .i64 (i : Int)] 31)).cell? ⟨w.heap.size, 0, none⟩ = some (.int .i64 ((c : Int) + 1)) := by simp
  have f1 : (w.alloc (.cells #[.int .i64 ((c : Int) + 1), .int .i64 (i : Int)] 31)).cell? ⟨w.heap.size, 1, none⟩ = some (.int .i64 (i : Int)) := by simp
  have hz : w.heap.size < (w.alloc (.cells #[.int .i64 ((c : Int) + 1), .int .i64 (i : Int)] 31)).heap.size := by simp
  have c0 : (((c : Int) + 1) == 0) = false := by simp; omega
  clear hS h0 h1
  go_enter Tryz.func11, Tryz.ntmps11
  go_wp2_with fail
  refine (unhide HC).mono ?_
  generalize w.alloc (.cells #[.int .i64 ((c : Int) + 1), .int .i64 (i : Int)] 31) = w0 at *
  rintro e w1 ⟨rfl, hb1⟩
  have k0 := (hb1.cell (p := ⟨w.heap.size, 0, none⟩) hz).trans f0
  have k1 := (hb1.cell (p := ⟨w.heap.size, 1, none⟩) hz).trans f1
  have hbw : Below w.heap.size w w1 := hb0.trans (hb1.mono hb0.size)
  clear HC hb1 hb0 f0 f1 hz
  go_wp2
  go_ret
  exact ⟨rfl, hbw⟩
end Go.Proofs.YtfeljhikeddodadGreatDoor
namespace Go.Proofs.YtfeljhikeddodadGreatDoor
open Go.RowKit

def tokVals (t : Tks) (len : Nat) : List Value := (List.range (len * 3)).map fun j => if j % 3 = 0 then .int .u8 (t.b (j / 3) : Nat) else if j % 3 = 1 then .int .i64 (t.l (j / 3)) else .int .i64 (t.d (j / 3))
theorem tokVals_length (t : Tks) (len : Nat) : (tokVals t len).length = len * 3 := by simp [tokVals]
theorem tokVals_at (t : Tks) (len j : Nat) (h : j < len * 3) : (tokVals t len)[j]? = some (if j % 3 = 0 then .int .u8 (t.b (j / 3) : Nat) else if j % 3 = 1 then .int .i64 (t.l (j / 3)) else .int .i64 (t.d (j / 3))) := by
  unfold tokVals
  rw [List.getElem?_map, List.getElem?_range h]
  rfl
theorem wpList_append_eq2 (w : World) {ops : Array Oper} {rest : List Oper} {o : Oper} {a : Act} {Q : Exit → Act → World → Prop} (hgd : o.guard = none) (s x : Operand) (t : TypeId)
    (ho : o.op = .call { callee := .builtin .append, args := #[s, x], argTypes := #[t, t] }) (v u r : Value) (hs : a.eval s = v) (hx : a.eval x = u)
    (hr : (Builtin.append_ #[t, t] o.type #[v, u]).run Tryz.prog w = .ok r w) (h : wpList Tryz.prog ops Q rest (a.put o.dst r) w) : wpList Tryz.prog ops Q (o :: rest) a w :=
  wpList_plain hgd fun _ hK => by
    unfold Oper.wp execOp
    simp only [ho, resolve, invoke, builtin, Sem.run_bind, Sem.run_pure, Result.andThen_ok, List.map_toArray, List.map_cons, List.map_nil, hs, hx, hr]
    exact hK _ _ h
theorem tok_none (w : World) (ao : Option Addr) (cap : Nat) : (Builtin.append_ #[22, 22] 22 #[.slice none 0 0, .slice ao 0 cap]).run Tryz.prog w = .ok (.slice none 0 0) w := by
  cases ao <;> kernel_rfl
theorem info_tok2 : (Tryz.prog.info? 51).map (fun i => (i.zero, i.size, i.bytes)) = some (some (.agg #[.int .u8 0, .int .i64 0, .int .i64 0]), 3, 24) := by kernel_rfl
theorem add_at (g o j : Nat) : (⟨g, o, none⟩ : Addr).add j = ⟨g, o + j, none⟩ := by unfold Addr.add; split <;> simp_all
/-- layercakelaw1.tokens: a copy in new memory. -/
theorem tokens_copy (ao : Option Addr) (len cap : Nat) (t : Tks) (w : World) (hP : IsTokens w ao len t) (hlen : len ≤ 100000) :
    Calls Tryz.prog 9 #[.slice ao len cap] w fun e w' => ∃ a c, e = .returned (.slice a len c) ∧ IsTokens w' a len t ∧ Below w.heap.size w w' := by
  obtain ⟨i0, hi, hz0, hz1, hz2⟩ := info_parts info_tok2
  by_cases h0 : len = 0
  · subst h0
    have Hc := hide (tok_none w ao cap)
    clear hP
    go_enter Tryz.func9, Tryz.ntmps9
    go_wp2_with (at_builtin; refine wpList_append_eq2 _ rfl (.tmp 4) (.tmp 5) 22 rfl (.slice none 0 0) (.slice ao 0 cap) (.slice none 0 0) rfl rfl (unhide Hc) ?_)
    go_wp2
    go_ret
    exact ⟨_, _, rfl, .inl rfl, Below.refl _ _⟩
  · rcases hP with h | ⟨b, off, rfl, hm, hP⟩
    · exact absurd h h0
    have hnews : ∀ j u, (tokVals t len)[j]? = some u → w.cell? ((⟨b, off, none⟩ : Addr).add j) = some u := fun j u hj => by
      have hjl : j < len * 3 := by
        rcases Nat.lt_or_ge j (len * 3) with h | h
        · exact h
        · rw [List.getElem?_eq_none (by rw [tokVals_length]; exact h)] at hj; cases hj
      rw [add_at, ← hj, tokVals_at _ _ _ hjl]
      have hc := hP (j / 3) (by omega)
      by_cases e0 : j % 3 = 0
      · rw [if_pos e0, show off + j = off + j / 3 * 3 by omega]; exact hc.1
      · rw [if_neg e0]
        by_cases e1 : j % 3 = 1
        · rw [if_pos e1, show off + j = off + j / 3 * 3 + 1 by omega]; exact hc.2.1
        · rw [if_neg e1, show off + j = off + j / 3 * 3 + 2 by omega]; exact hc.2.2.1
    have h1 : ∀ u ∈ tokVals t len, u.oneCell' = true := fun u hu => by
      obtain ⟨i, _, rfl⟩ := List.mem_map.1 hu
      split
      · rfl
      · split <;> rfl
    have HQ : Hid (∀ i, i < len → t.b i < 256 ∧ (-9223372036854775808 ≤ t.l i ∧ t.l i ≤ 9223372036854775807) ∧ (-9223372036854775808 ≤ t.d i ∧ t.d i ≤ 9223372036854775807)) := fun i hi => (hP i hi).2.2.2
    have Hi := hide hi
    have Hz0 := hide hz0
    have Hz1 := hide hz1
    have Hz2 := hide hz2
    have Hn := hide hnews
    have H1 := hide h1
    clear hi hz0 hz1 hz2 hnews h1 hP
    go_enter Tryz.func9, Tryz.ntmps9
    go_wp2_with (at_builtin; refine wpList_append_lies _ rfl (.tmp 4) (.tmp 5) 22 rfl w.heap.size 51 i0 (.agg #[.int .u8 0, .int .i64 0, .int .i64 0]) 3 24 Tryz.underlying22 (unhide Hi) (unhide Hz0) (unhide Hz1) (unhide Hz2) rfl (by omega) (.slice none 0 0) 0 [] rfl (World.ownsRow_nil _ _ _ _) ⟨b, off, none⟩ len cap (tokVals t len) rfl (by rw [tokVals_length]) (unhide Hn) (unhide H1) (by omega) (by unfold maxLen; omega) (by omega) (Nat.le_refl _) _ rfl ?_)
    intro g cap2 w1 hown1 hgrow hat hlt1
    have hb1 : Below w.heap.size w w1 := (Below.refl _ _).grown hgrow (Nat.le_refl _) (fun k e => by simp [Value.ownBlock] at e)
    have HT : Hid (IsTokens w1 (some ⟨g, 0, none⟩) len t) := by
      refine .inr ⟨g, 0, rfl, hm, fun i hi => ?_⟩
      simp only [Nat.zero_add] at hown1 ⊢
      have q0 := hown1.cellAt (i * 3) (by omega)
      have q1 := hown1.cellAt (i * 3 + 1) (by omega)
      have q2 := hown1.cellAt (i * 3 + 2) (by omega)
      rw [tokVals_at _ _ _ (by omega), if_pos (by omega), show i * 3 / 3 = i by omega] at q0
      rw [tokVals_at _ _ _ (by omega), if_neg (by omega), if_pos (by omega), show (i * 3 + 1) / 3 = i by omega] at q1
      rw [tokVals_at _ _ _ (by omega), if_neg (by omega), if_neg (by omega), show (i * 3 + 2) / 3 = i by omega] at q2
      exact ⟨q0, q1, q2, unhide HQ i hi⟩
    clear hown1 hgrow hat hlt1
    go_wp2
    go_ret
    exact ⟨_, _, rfl, unhide HT, hb1⟩
set_option maxHeartbeats 2000000 in
theorem wide_any (ao : Option Addr) (len cap : Nat) (t : Tks) (w : World) (hP : IsTokens w ao len t) :
    Calls Tryz.prog 7 #[.slice ao len cap] w fun e w' => e = .returned (.bool (decide (len ≤ 300 ∧ t.wide len ≤ 6000))) ∧ w' = w := by
  have HP := hide hP
  clear hP
  go_enter Tryz.func7, Tryz.ntmps7
  go_wp2
  go_loop [3, 4] (fun s i => ∃ (k : Nat) (x : Int), k ≤ len ∧ i = .int .i64 (k : Int) ∧ s = .int .i64 x ∧ Hid (k ≤ 300 → x = t.wide k) ∧ (-9223372036854775808 ≤ x ∧ x ≤ 9223372036854775807)) (fun _ i => len - (intOf i).toNat)
  case atStart => exact ⟨0, 0, by omega, rfl, rfl, fun _ => rfl, by omega⟩
  case round =>
    obtain ⟨k, x, hk, rfl, rfl, HX, hx1, hx2⟩ := hrel
    by_cases hlt : k < len
    · have g1 : decide ((k : Int) < (len : Int)) = true := by simp; omega
      have hki : (k : Int) < (len : Int) := by omega
      rcases unhide HP with h0 | ⟨bb, off, rfl, hm, hc⟩
      · omega
      unfold maxLen at hm
      obtain ⟨_, c1, _, _, ⟨hl1, hl2⟩, _⟩ := hc k hlt
      have HNX : Hid (t.wide (k + 1) = t.wide k + if 0 < t.l k ∧ t.l k ≤ 258 then t.l k else 0) := rfl
      have hwl := t.wide_le k
      generalize t.l k = l at *
      clear hc
      by_cases h1 : 0 < l
      · have e1 : decide (l > 0) = true := by simpa using h1
        have e1' : decide (0 < l) = true := e1
        by_cases h2 : l ≤ 258
        · have e2 : decide (l ≤ 258) = true := by simpa using h2
          rw [if_pos ⟨h1, h2⟩] at HNX
          by_cases h3 : k < 300
          · have hxx := unhide HX (by omega)
            have hy : x + l ≤ 9000000000000000000 := by omega
            have HY : Hid (x + l = t.wide (k + 1)) := by show _ = _; rw [unhide HNX, hxx]
            clear hxx hwl
            go_wp2
            go_round
            case rel => exact ⟨k + 1, _, by omega, by go_num, rfl, fun _ => unhide HY, by omega⟩
            case measure => simp [intOf]; omega
          · obtain ⟨y, hy⟩ : ∃ y, y = IntKind.i64.wrap (x + l) := ⟨_, rfl⟩
            have hyb : -9223372036854775808 ≤ y ∧ y ≤ 9223372036854775807 := by rw [hy, IntKind.wrap_i64]; omega
            have hyw : IntKind.i64.wrap (x + l) = y := hy.symm
            clear hy hwl
            go_wp2
            go_round
            case rel => exact ⟨k + 1, _, by omega, by go_num, rfl, fun q => by omega, hyb⟩
            case measure => simp [intOf]; omega
        · have e2 : decide (l ≤ 258) = false := by simpa using h2
          rw [if_neg (fun h => h2 h.2)] at HNX
          go_wp2
          go_round
          case rel => exact ⟨k + 1, x, by omega, by go_num, rfl, fun q => by have := unhide HX (by omega); have := unhide HNX; omega, by omega⟩
          case measure => simp [intOf]; omega
      · have e1 : decide (l > 0) = false := by simpa using h1
        have e1' : decide (0 < l) = false := e1
        rw [if_neg (fun h => h1 h.1)] at HNX
        go_wp2
        go_round
        case rel => exact ⟨k + 1, x, by omega, by go_num, rfl, fun q => by have := unhide HX (by omega); have := unhide HNX; omega, by omega⟩
        case measure => simp [intOf]; omega
    · have : k = len := by omega
      subst this
      have g1 : decide ((k : Int) < (k : Int)) = false := by simp
      by_cases h1 : k ≤ 300
      · have e1 : decide ((k : Int) ≤ 300) = true := by simp; omega
        have e1' : decide (k ≤ 300) = true := by simpa using h1
        go_wp2
        go_ret
        exact ⟨ret_bool (by rw [unhide HX h1]), rfl⟩
      · have e1 : decide ((k : Int) ≤ 300) = false := by simp; omega
        have e1' : decide (k ≤ 300) = false := by simpa using h1
        go_wp2
        go_ret
        exact ⟨rfl, rfl⟩
end Go.Proofs.YtfeljhikeddodadGreatDoor
namespace Go.Proofs.YtfeljhikeddodadGreatDoor.Ps
open Pm Cn Nf

/-! ### Steps -/
abbrev Sp := Nat × Nat
/-- How many bits tell how many times more. -/
def more (i : Nat) : Nat := if i < 16 then 0 else againBits i
def stpP (w0 : Nat → Pc) (s : Sp) : List Pc := [w0 s.1, (s.2, more s.1)]
/-- A step more: what the row is. -/
def dec (row : List Nat) (s : Sp) : List Nat := if s.1 < 16 then row ++ [s.1] else row ++ List.replicate (againFrom s.1 + s.2) (againOf s.1 row)
/-- What a step may be, behind a row. -/
def OkS (row : List Nat) (s : Sp) : Prop := s.1 < 19 ∧ s.2 < 2 ^ more s.1 ∧ (s.1 = 16 → 0 < row.length)
/-- Steps, each behind what those ahead of it tell. -/
inductive Dec : List Nat → List Sp → List Nat → Prop where
  | nil (r : List Nat) : Dec r [] r
  | cons {r : List Nat} {s : Sp} {ss : List Sp} {r' : List Nat} (h : OkS r s) (t : Dec (dec r s) ss r') : Dec r (s :: ss) r'
theorem Dec.append {r m r' : List Nat} {a b : List Sp} (h : Dec r a m) (g : Dec m b r') : Dec r (a ++ b) r' := by
  induction h with
  | nil => exact g
  | cons h _ ih => exact .cons h (ih g)
theorem Dec.one {r : List Nat} {s : Sp} (h : OkS r s) : Dec r [s] (dec r s) := .cons h (.nil _)
theorem dec_more (r : List Nat) (s : Sp) : r.length < (dec r s).length := by
  unfold dec
  split
  · simp
  · rw [List.length_append, List.length_replicate]
    have : 3 ≤ againFrom s.1 := by unfold againFrom; split <;> omega
    omega
theorem Dec.le {r r' : List Nat} {ss : List Sp} (h : Dec r ss r') : r.length + ss.length ≤ r'.length := by
  induction h with
  | nil => simp
  | @cons r s ss r' h _ ih =>
    have := dec_more r s
    rw [List.length_cons]
    omega
theorem Dec.each {r r' : List Nat} {ss : List Sp} (h : Dec r ss r') : ∀ s ∈ ss, s.1 < 19 ∧ s.2 < 2 ^ more s.1 := by
  induction h with
  | nil => intro s hs; cases hs
  | cons h _ ih =>
    intro s hs
    rcases List.mem_cons.1 hs with rfl | hs
    · exact ⟨h.1, h.2.1⟩
    · exact ih s hs
theorem steps_fit {l0 : Nat → Nat} {ss : List Sp} (h : ∀ s ∈ ss, s.1 < 19 ∧ s.2 < 2 ^ more s.1) : Fit (ss.flatMap (stpP (word l0 19))) := by
  intro p hp
  obtain ⟨s, hs, hq⟩ := List.mem_flatMap.1 hp
  simp only [stpP, List.mem_cons, List.not_mem_nil, or_false] at hq
  rcases hq with rfl | rfl
  · exact word_fit _ _ _
  · exact (h s hs).2
/-- Steps are read. -/
theorem rows_run {V nb tot : Nat} {l0 : Nat → Nat} (hl : ∀ x, x < 19 → l0 x ≤ 15) (hk : all l0 19 ≤ 2 ^ 15) {r r' : List Nat} {ss : List Sp} (h : Dec r ss r') : ∀ {k : Nat}, (∀ s ∈ ss, 0 < l0 s.1) → At V nb k (ss.flatMap (stpP (word l0 19))) → r'.length = tot →
    Run (rowStep V nb tot l0) (k, r) (some (k + len (ss.flatMap (stpP (word l0 19))), r')) := by
  induction h with
  | nil r =>
    intro k _ _ ht
    refine .done ?_
    unfold rowStep
    rw [if_pos (by show tot ≤ r.length; omega)]
    rfl
  | @cons r s ss r' hs t ih =>
    intro k hp hat ht
    have h1 := t.le
    have h2 := dec_more r s
    obtain ⟨o1, o2, o3⟩ := hs
    have hcat : (s :: ss).flatMap (stpP (word l0 19)) = word l0 19 s.1 :: (s.2, more s.1) :: ss.flatMap (stpP (word l0 19)) := by simp [stpP]
    rw [hcat] at hat ⊢
    obtain ⟨a1, hat⟩ := At.cons (word_fit _ _ _) hat
    obtain ⟨a2, hat⟩ := At.cons o2 hat
    have h0 := hp s (by simp)
    have hw := At.word hl o1 h0 (code_lt l0 19 s.1 o1 h0 (hl _ o1) hk) a1
    have hg := a2.got
    simp only [word] at hg hat
    have ih2 := ih (fun x hx => hp x (by simp [hx])) hat ht
    have hlen : len (word l0 19 s.1 :: (s.2, more s.1) :: ss.flatMap (stpP (word l0 19))) = l0 s.1 + more s.1 + len (ss.flatMap (stpP (word l0 19))) := by
      simp only [len, word]; omega
    rw [hlen, show k + (l0 s.1 + more s.1 + len (ss.flatMap (stpP (word l0 19)))) = k + l0 s.1 + more s.1 + len (ss.flatMap (stpP (word l0 19))) by omega]
    refine .more ?_ ih2
    unfold rowStep
    rw [if_neg (by show ¬ tot ≤ r.length; omega)]
    simp only [hw]
    by_cases c : s.1 < 16
    · rw [if_pos c]
      have e : more s.1 = 0 := by unfold more; rw [if_pos c]
      unfold dec
      rw [if_pos c, e]
      rfl
    · rw [if_neg c]
      have e : more s.1 = againBits s.1 := by unfold more; rw [if_neg c]
      rw [e] at hg ⊢
      have hd : dec r s = r ++ List.replicate (againFrom s.1 + s.2) (againOf s.1 r) := by unfold dec; rw [if_neg c]
      have hdl : (dec r s).length = r.length + (againFrom s.1 + s.2) := by rw [hd, List.length_append, List.length_replicate]
      rw [if_neg (fun q => by have := o3 q.1; have := q.2; omega), hg]
      simp only
      rw [if_neg (by omega), hd]
/-! ### Codes without words at their ends -/
theorem upto_trim (f : Nat → Nat) {n N : Nat} (hn : n ≤ N) (h : ∀ j, n ≤ j → j < N → f j = 0) : upto f N = upto f n := by
  induction N with
  | zero => have : n = 0 := by omega
            subst this; rfl
  | succ N ih =>
    by_cases e : n = N + 1
    · subst e; rfl
    · show f N + upto f N = _
      rw [ih (by omega) (fun j h1 h2 => h j h1 (by omega)), h N (by omega) (by omega), Nat.zero_add]
theorem acc_trim (l : Nat → Nat) {n N : Nat} (hn : n ≤ N) (h : ∀ j, n ≤ j → j < N → l j = 0) (m i : Nat) : acc l N m i = acc l n m i := by
  unfold acc
  exact upto_trim _ hn (fun j h1 h2 => by rw [if_neg]; rw [h j h1 h2]; omega)
theorem code_trim (l : Nat → Nat) {n N : Nat} (hn : n ≤ N) (h : ∀ j, n ≤ j → j < N → l j = 0) (i : Nat) : code l N i = code l n i := by
  unfold code
  rw [acc_trim l hn h]
theorem all_trim (l : Nat → Nat) {n N : Nat} (hn : n ≤ N) (h : ∀ j, n ≤ j → j < N → l j = 0) : all l N = all l n := by
  unfold all
  exact upto_trim _ hn (fun j h1 h2 => by rw [if_neg]; rw [h j h1 h2]; omega)
theorem word_trim (l : Nat → Nat) {n N : Nat} (hn : n ≤ N) (h : ∀ j, n ≤ j → j < N → l j = 0) : word l N = word l n := by
  funext i
  unfold word
  rw [code_trim l hn h]
theorem right_trim (l : Nat → Nat) {n N : Nat} (hn : n ≤ N) (h : ∀ j, n ≤ j → j < N → l j = 0) (hr : Right l N) : Right l n := by
  have e1 : cnt l N = cnt l n := by
    unfold cnt
    exact upto_trim _ hn (fun j h1 h2 => by rw [if_neg]; rw [h j h1 h2]; omega)
  have e2 : ones l N = ones l n := by
    unfold ones
    exact upto_trim _ hn (fun j h1 h2 => by rw [if_neg]; rw [h j h1 h2]; omega)
  unfold Right at *
  rw [e1, e2, all_trim l hn h] at hr
  exact hr
theorem right_congr {l l' : Nat → Nat} {n : Nat} (h : ∀ i, i < n → l i = l' i) (hr : Right l n) : Right l' n := by
  have e1 : cnt l n = cnt l' n := upto_congr n (fun j hj => by rw [h j hj])
  have e2 : ones l n = ones l' n := upto_congr n (fun j hj => by rw [h j hj])
  have e3 : all l n = all l' n := upto_congr n (fun j hj => by rw [h j hj])
  unfold Right at *
  rw [e1, e2, e3] at hr
  exact hr
/-! ### The lengths of lengths -/
theorem len_threes (g : Nat → Nat) (n : Nat) : len ((List.range n).map fun j => (g j, 3)) = 3 * n := by
  induction n with
  | zero => rfl
  | succ n ih =>
    rw [List.range_succ, List.map_append, len_append, ih]
    simp [len]
    omega
theorem threes_fit (g : Nat → Nat) (n : Nat) (h : ∀ j, j < n → g j < 8) : Fit ((List.range n).map fun j => (g j, 3)) := by
  intro p hp
  obtain ⟨j, hj, rfl⟩ := List.mem_map.1 hp
  exact h j (List.mem_range.1 hj)
theorem threes_at {V nb k : Nat} (g : Nat → Nat) : ∀ (n : Nat), (∀ j, j < n → g j < 8) → At V nb k ((List.range n).map fun j => (g j, 3)) → ∀ c, c < n → V / 2 ^ (k + 3 * c) % 2 ^ 3 = g c := by
  intro n
  induction n with
  | zero => intro _ _ c hc; omega
  | succ n ih =>
    intro hg hat c hc
    rw [List.range_succ, List.map_append] at hat
    obtain ⟨h1, h2⟩ := At.split (threes_fit g n (fun j hj => hg j (by omega))) hat
    by_cases e : c = n
    · subst e
      rw [len_threes] at h2
      exact h2.one.2
    · exact ih (fun j hj => hg j (by omega)) h1 c (by omega)
theorem order_inj : ∀ a, a < 19 → ∀ b, b < 19 → order.getD a 0 = order.getD b 0 → a = b := by decide
theorem order_all : ∀ x, x < 19 → ∃ a, a < 19 ∧ order.getD a 0 = x := by decide
theorem small_at {V k : Nat} {l0 : Nat → Nat} : ∀ (n : Nat), n ≤ 19 → (∀ c, c < n → V / 2 ^ (k + 3 * c) % 2 ^ 3 = l0 (order.getD c 0)) → ∀ a, a < 19 → small V k n (order.getD a 0) = if a < n then l0 (order.getD a 0) else 0 := by
  intro n
  induction n with
  | zero => intro _ _ a _; rw [if_neg (by omega)]; rfl
  | succ n ih =>
    intro hn h a ha
    unfold small
    by_cases e : a = n
    · subst e
      rw [if_pos rfl, if_pos (by omega)]
      exact h a (by omega)
    · rw [if_neg (fun q => e (order_inj a ha n (by omega) q)), ih (by omega) (fun c hc => h c (by omega)) a ha]
      by_cases c : a < n
      · rw [if_pos c, if_pos (by omega)]
      · rw [if_neg c, if_neg (by omega)]
theorem small_is {V nb k nc : Nat} {l0 : Nat → Nat} (hn : nc ≤ 19) (h7 : ∀ x, x < 19 → l0 x ≤ 7) (hz : ∀ j, nc ≤ j → j < 19 → l0 (order.getD j 0) = 0) (hat : At V nb k ((List.range nc).map fun j => (l0 (order.getD j 0), 3))) : ∀ x, x < 19 → small V k nc x = l0 x := by
  intro x hx
  obtain ⟨a, ha, rfl⟩ := order_all x hx
  have ho : ∀ j, j < 19 → order.getD j 0 < 19 := by decide
  have h1 := threes_at (fun j => l0 (order.getD j 0)) nc (fun j hj => by have := h7 _ (ho j (by omega)); show l0 _ < 8; omega) hat
  rw [small_at nc hn h1 a ha]
  by_cases c : a < nc
  · rw [if_pos c]
  · rw [if_neg c, hz a (by omega) ha]
/-! ### The head, and the block -/
/-- What a dynamic block begins with, behind its kind. -/
def headP (ns nd nc : Nat) (l0 : Nat → Nat) (ss : List Sp) : List Pc :=
  [(ns - 257, 5), (nd - 1, 5), (nc - 4, 4)] ++ (((List.range nc).map fun j => (l0 (order.getD j 0), 3)) ++ ss.flatMap (stpP (word l0 19)))
/-- What is asked of them. -/
structure Hd (ns nd nc : Nat) (l0 l1 l2 : Nat → Nat) (ss : List Sp) : Prop where
  s : 257 ≤ ns ∧ ns ≤ 286
  d : 1 ≤ nd ∧ nd ≤ 30
  c : 4 ≤ nc ∧ nc ≤ 19
  seven : ∀ x, x < 19 → l0 x ≤ 7
  r0 : Right l0 19
  k0 : all l0 19 ≤ 2 ^ 15
  trim : ∀ j, nc ≤ j → j < 19 → l0 (order.getD j 0) = 0
  dec : Dec [] ss ((List.range ns).map l1 ++ (List.range nd).map l2)
  has : ∀ s ∈ ss, 0 < l0 s.1
  r1 : Right l1 ns
  r2 : Right l2 nd
  e : 0 < l1 256
theorem Hd.fit {ns nd nc : Nat} {l0 l1 l2 : Nat → Nat} {ss : List Sp} (h : Hd ns nd nc l0 l1 l2 ss) : Fit (headP ns nd nc l0 ss) := by
  have ho : ∀ j, j < 19 → order.getD j 0 < 19 := by decide
  have hs := h.s
  have hd := h.d
  have hc := h.c
  refine Fit.append (Fit.cons (by show ns - 257 < 2 ^ 5; omega) (Fit.cons (by show nd - 1 < 2 ^ 5; omega) (Fit.cons (by show nc - 4 < 2 ^ 4; omega) Fit.nil))) (Fit.append (threes_fit _ _ (fun j hj => by have := h.seven _ (ho j (by omega)); omega)) (steps_fit h.dec.each))
theorem row_one (l1 l2 : Nat → Nat) (ns nd i : Nat) (h : i < ns) : ((List.range ns).map l1 ++ (List.range nd).map l2).getD i 0 = l1 i := by
  rw [List.getD_eq_getElem?_getD, List.getElem?_append_left (by simpa using h)]
  simp [h]
theorem row_two (l1 l2 : Nat → Nat) (ns nd i : Nat) (h : i < nd) : ((List.range ns).map l1 ++ (List.range nd).map l2).getD (ns + i) 0 = l2 i := by
  rw [List.getD_eq_getElem?_getD, List.getElem?_append_right (by simp)]
  simp [h]
theorem dyn_head {V nb k ns nd nc : Nat} {l0 l1 l2 : Nat → Nat} {ss : List Sp} (h : Hd ns nd nc l0 l1 l2 ss) (hat : At V nb k (headP ns nd nc l0 ss)) :
    dyn V nb k = some (k + len (headP ns nd nc l0 ss), (List.range ns).map l1 ++ (List.range nd).map l2, ns) := by
  obtain ⟨s1, s2⟩ := h.s
  obtain ⟨d1, d2⟩ := h.d
  obtain ⟨c1, c2⟩ := h.c
  have ho : ∀ j, j < 19 → order.getD j 0 < 19 := by decide
  unfold headP at hat
  obtain ⟨a0, hat⟩ := At.split (Fit.cons (by show ns - 257 < 2 ^ 5; omega) (Fit.cons (by show nd - 1 < 2 ^ 5; omega) (Fit.cons (by show nc - 4 < 2 ^ 4; omega) Fit.nil))) hat
  obtain ⟨x1, a0⟩ := At.cons (by show ns - 257 < 2 ^ 5; omega) a0
  obtain ⟨x2, x3⟩ := At.cons (by show nd - 1 < 2 ^ 5; omega) a0
  have y1 := x1.one
  have y2 := x2.one
  have y3 := x3.one
  simp only at y1 y2 y3
  have hl3 : len [(ns - 257, 5), (nd - 1, 5), (nc - 4, 4)] = 14 := rfl
  rw [hl3] at hat
  obtain ⟨b1, b2⟩ := At.split (threes_fit _ _ (fun j hj => by have := h.seven _ (ho j (by omega)); omega)) hat
  rw [len_threes] at b2
  have hsm := small_is (V := V) (nb := nb) (k := k + 14) c2 h.seven h.trim b1
  have hb1 := b1.1
  rw [len_threes] at hb1
  have hrow := h.dec
  have htot : ((List.range ns).map l1 ++ (List.range nd).map l2).length = ns + nd := by simp
  have hrun := rows_run (V := V) (nb := nb) (tot := ns + nd) (fun x hx => by have := h.seven x hx; omega) h.k0 h.dec h.has b2 htot
  have e1 : V / 2 ^ k % 2 ^ 5 + 257 = ns := by rw [y1.2]; omega
  have e2 : V / 2 ^ (k + 5) % 2 ^ 5 + 1 = nd := by rw [y2.2]; omega
  have e3 : V / 2 ^ (k + 10) % 2 ^ 4 + 4 = nc := by
    have := y3.2
    rw [show k + 5 + 5 = k + 10 by omega] at this
    rw [this]; omega
  have hstep : rowStep V nb (ns + nd) (small V (k + 14) nc) = rowStep V nb (ns + nd) l0 := by
    funext s
    unfold rowStep
    rw [wd_congr hsm]
    split
    · rfl
    · split
      · rfl
      · next i hi => rw [hsm i (of_wd hi).1]
  unfold dyn
  rw [e1, e2, e3, hstep, if_neg (by have := y3.1; omega), if_neg (by omega), if_neg (by omega), if_neg (not_not_intro (right_congr (fun i hi => (hsm i hi).symm) h.r0)), run_of hrun]
  simp only
  rw [if_neg]
  · unfold headP
    rw [len_append, len_append, hl3, len_threes]
    congr 2
    omega
  · rintro (q | q | q)
    · exact q (right_congr (fun i hi => (row_one l1 l2 ns nd i hi).symm) h.r1)
    · exact q (right_congr (fun i hi => (row_two l1 l2 ns nd i hi).symm) h.r2)
    · rw [row_one l1 l2 ns nd 256 (by omega)] at q
      have := h.e
      omega
end Go.Proofs.YtfeljhikeddodadGreatDoor.Ps
namespace Go.Proofs.YtfeljhikeddodadGreatDoor
open Go.RowKit Ps Nf

/-! ### Rows of steps -/
def stV (ss : List Sp) : List Value := ss.flatMap fun s => [.int .i64 (s.1 : Int), .int .i64 (s.2 : Int)]
theorem stV_append (a b : List Sp) : stV (a ++ b) = stV a ++ stV b := by simp [stV]
theorem stV_length (ss : List Sp) : (stV ss).length = ss.length * 2 := by
  induction ss with
  | nil => rfl
  | cons c cs ih => simp only [stV, List.flatMap_cons, List.length_append, List.length_cons, List.length_nil] at ih ⊢; omega
theorem stV_at (ss : List Sp) (i : Nat) (h : i < ss.length) : (stV ss)[i * 2]? = some (.int .i64 ((ss.getD i (0, 0)).1 : Int)) ∧ (stV ss)[i * 2 + 1]? = some (.int .i64 ((ss.getD i (0, 0)).2 : Int)) := by
  induction ss generalizing i with
  | nil => exact absurd h (by simp)
  | cons t ts ih =>
    cases i with
    | zero => exact ⟨rfl, rfl⟩
    | succ i =>
      have := ih i (by rw [List.length_cons] at h; omega)
      rw [Nat.succ_mul]
      exact this
theorem stV_one (ss : List Sp) : ∀ u ∈ stV ss, u.oneCell' = true := by
  intro u hu
  obtain ⟨s, _, h⟩ := List.mem_flatMap.1 hu
  simp only [List.mem_cons, List.not_mem_nil, or_false] at h
  rcases h with rfl | rfl <;> rfl
theorem info_st : (Tryz.prog.info? 176).map (fun i => (i.zero, i.size, i.bytes)) = some (some (.agg #[.int .i64 0, .int .i64 0]), 2, 16) := by kernel_rfl
theorem app_st (w : World) (base q c : Nat) (v : Value) (ss m : List Sp) (t : TypeId) (hown : w.ownsRow base 176 2 v ss.length (stV ss)) (hq : ∀ j u, (stV m)[j]? = some u → w.cell? ⟨q, j, none⟩ = some u) (hl : ss.length + m.length ≤ 1000000) (hb : base ≤ w.heap.size) :
    ∃ v' w', (Builtin.append_ #[171, 171] t #[v, .slice (some ⟨q, 0, none⟩) m.length c]).run Tryz.prog w = .ok v' w' ∧ w'.ownsRow base 176 2 v' (ss ++ m).length (stV (ss ++ m)) ∧ w.grownBy w' v.ownBlock ∧ (v'.ownBlock = v.ownBlock ∨ v'.ownBlock = some w.heap.size) := by
  obtain ⟨i0, hi, hz0, hz1, hz2⟩ := info_parts info_st
  obtain ⟨v', w', a1, a2, a3, _, a5⟩ := run_append_own_at (P := Tryz.prog) w base 171 t 176 i0 (.agg #[.int .i64 0, .int .i64 0]) 2 16 Tryz.underlying171 hi hz0 hz1 hz2 rfl (by omega) v ss.length (stV ss) hown ⟨q, 0, none⟩ m.length c (stV m) (by rw [stV_length]) (fun j u hj => by rw [addr_add, Nat.zero_add]; exact hq j u hj) (stV_one m) (by unfold maxLen; omega) (by omega) hb
  refine ⟨v', w', a1, ?_, a3, a5⟩
  rw [stV_append, List.length_append]
  exact a2
theorem wpList_appSt (w : World) {ops : Array Oper} {rest : List Oper} {o : Oper} {a : Act} {Q : Exit → Act → World → Prop} (hgd : o.guard = none) (s x : Operand)
    (ho : o.op = .call { callee := .builtin .append, args := #[s, x], argTypes := #[171, 171] }) (base q k c : Nat) (v : Value) (ss m : List Sp) (hs : a.eval s = v) (hx : a.eval x = .slice (some ⟨q, 0, none⟩) k c) (hk : m.length = k)
    (hown : w.ownsRow base 176 2 v ss.length (stV ss)) (hq : ∀ j u, (stV m)[j]? = some u → w.cell? ⟨q, j, none⟩ = some u) (hl : ss.length + m.length ≤ 1000000) (hb : base ≤ w.heap.size)
    (h : ∀ v' w', w'.ownsRow base 176 2 v' (ss ++ m).length (stV (ss ++ m)) → w.grownBy w' v.ownBlock → (v'.ownBlock = v.ownBlock ∨ v'.ownBlock = some w.heap.size) → wpList Tryz.prog ops Q rest (a.put o.dst v') w') : wpList Tryz.prog ops Q (o :: rest) a w := by
  subst hk
  obtain ⟨v', w', a1, a2, a3, a5⟩ := app_st w base q c v ss m o.type hown hq hl hb
  refine wpList_plain hgd fun _ hK => ?_
  unfold Oper.wp execOp
  simp only [ho, resolve, invoke, builtin, Sem.run_bind, Sem.run_pure, Result.andThen_ok, List.map_toArray, List.map_cons, List.map_nil, hs, hx, a1]
  exact hK _ _ (h v' w' a2 a3 a5)
theorem own_keepS {w w' : World} {base n size : Nat} {e : TypeId} {v : Value} {xs : List Value} (h : w.ownsRow base e size v n xs) (hb : ∀ k, v.ownBlock = some k → k < w.heap.size → w'.heap[k]? = w.heap[k]?) : w'.ownsRow base e size v n xs := by
  rcases h.2 with ⟨rfl, h0⟩ | ⟨g, c, cur, rfl, hg, hh, r⟩
  · exact ⟨h.1, .inl ⟨rfl, h0⟩⟩
  · have hlt : g < w.heap.size := by
      rcases Nat.lt_or_ge g w.heap.size with q | q
      · exact q
      · rw [Array.getElem?_eq_none q] at hh; cases hh
    exact ⟨h.1, .inr ⟨g, c, cur, rfl, hg, by rw [hb g rfl hlt]; exact hh, r⟩⟩
theorem own_inS {w : World} {base n size : Nat} {e : TypeId} {v : Value} {xs : List Value} (h : w.ownsRow base e size v n xs) (k : Nat) (q : v.ownBlock = some k) : base ≤ k ∧ k < w.heap.size := by
  rcases h.2 with ⟨rfl, _⟩ | ⟨g, c, cur, rfl, hg, hh, _⟩
  · cases q
  · simp only [Value.ownBlock, Option.some.injEq] at q
    subst q
    refine ⟨hg, ?_⟩
    rcases Nat.lt_or_ge g w.heap.size with z | z
    · exact z
    · rw [Array.getElem?_eq_none z] at hh; cases hh
theorem own_sliceS {w : World} {base size n : Nat} {e : TypeId} {v : Value} {xs : List Value} (h : w.ownsRow base e size v n xs) : ∃ a c, v = .slice a n c := by
  rcases h.2 with ⟨rfl, rfl⟩ | ⟨g, c, cur, rfl, _⟩
  · exact ⟨_, _, rfl⟩
  · exact ⟨_, _, rfl⟩
/-! ### Plainly: what a step tells -/
/-- Wherever they stand, they tell a length so many times. -/
def Tells (ss : List Sp) (L j : Nat) : Prop := ∀ R : List Nat, Dec R ss (R ++ List.replicate j L)
theorem rep_add (R : List Nat) (L j k : Nat) : R ++ List.replicate j L ++ List.replicate k L = R ++ List.replicate (j + k) L := by
  rw [List.append_assoc, List.replicate_append_replicate]
theorem Tells.plain {ss : List Sp} {L j : Nat} (h : Tells ss L j) (hL : L ≤ 15) : Tells (ss ++ [(L, 0)]) L (j + 1) := fun R => by
  refine (h R).append ?_
  have := Dec.one (r := R ++ List.replicate j L) (s := (L, 0)) ⟨by show L < 19; omega, Nat.two_pow_pos _, fun e => by simp only at e; omega⟩
  unfold dec at this
  rw [if_pos (by show L < 16; omega)] at this
  rw [← rep_add]
  exact this
theorem Tells.zeros {ss : List Sp} {j sym told : Nat} (h : Tells ss 0 j) (hs : (sym = 17 ∧ 3 ≤ told ∧ told ≤ 10) ∨ (sym = 18 ∧ 11 ≤ told ∧ told ≤ 138)) : Tells (ss ++ [(sym, told - againFrom sym)]) 0 (j + told) := fun R => by
  refine (h R).append ?_
  have hf : againFrom sym + (told - againFrom sym) = told := by
    rcases hs with ⟨rfl, h1, h2⟩ | ⟨rfl, h1, h2⟩
    · show 3 + (told - 3) = told; omega
    · show 11 + (told - 11) = told; omega
  have := Dec.one (r := R ++ List.replicate j 0) (s := (sym, told - againFrom sym)) ⟨by show sym < 19; omega, by
    rcases hs with ⟨rfl, h1, h2⟩ | ⟨rfl, h1, h2⟩
    · show told - 3 < 2 ^ 3; omega
    · show told - 11 < 2 ^ 7; omega, fun e => by simp only at e; omega⟩
  unfold dec at this
  rw [if_neg (by show ¬ sym < 16; omega), hf, show againOf sym (R ++ List.replicate j 0) = 0 by unfold againOf; rw [if_neg (by omega)]] at this
  rw [← rep_add]
  exact this
theorem Tells.again {ss : List Sp} {L j told : Nat} (h : Tells ss L j) (hj : 1 ≤ j) (h1 : 3 ≤ told) (h2 : told ≤ 6) : Tells (ss ++ [(16, told - 3)]) L (j + told) := fun R => by
  refine (h R).append ?_
  have := Dec.one (r := R ++ List.replicate j L) (s := (16, told - 3)) ⟨by show 16 < 19; omega, by show told - 3 < 2 ^ 2; omega, fun _ => by rw [List.length_append, List.length_replicate]; omega⟩
  unfold dec at this
  have hl : againOf 16 (R ++ List.replicate j L) = L := by
    unfold againOf
    rw [if_pos rfl, List.length_append, List.length_replicate, List.getD_eq_getElem?_getD, List.getElem?_append_right (by omega), List.getElem?_replicate, if_pos (by omega)]
    rfl
  rw [if_neg (by show ¬ 16 < 16; omega), hl, show againFrom 16 + (told - 3) = told by show 3 + (told - 3) = told; omega] at this
  rw [← rep_add]
  exact this
theorem Tells.few {ss : List Sp} {L j : Nat} (h : Tells ss L j) : ss.length ≤ j := by
  have := (h []).le
  simp at this
  exact this
set_option maxHeartbeats 2000000 in
theorem drun_any (b o n cap : Nat) (z : Nat → Int) (w : World) (hP : ∀ i, i < n → w.cell? ⟨b, o + i, none⟩ = some (.int .i64 (z i))) (hn : 0 < n) (hn3 : n ≤ 1000) :
    Calls Tryz.prog 151 #[.slice (some ⟨b, o, none⟩) n cap] w fun e w' => ∃ k : Nat, e = .returned (.int .i64 (k : Int)) ∧ 1 ≤ k ∧ k ≤ n ∧ (∀ j, j < k → z j = z 0) ∧ ∃ nn, w' = w.drewN nn := by
  have c0 := hP 0 hn
  rw [Nat.add_zero] at c0
  have h0n : (0 : Int) < (n : Int) := by omega
  go_enter Tryz.func151, Tryz.ntmps151
  go_wp2
  go_loopw [3] (fun v wr => ∃ k : Nat, k ≤ n ∧ v = .int .i64 (k : Int) ∧ Hid (∀ j, j < k → z j = z 0) ∧ ∃ nn, wr = w.drewN nn) (fun v _ => n - (intOf v).toNat)
  case atStart => exact ⟨0, by omega, rfl, fun i hi => by omega, 0, rfl⟩
  case round =>
    obtain ⟨k, hk, rfl, HE, nn, rfl⟩ := hrel
    by_cases hlt : k < n
    · have g1 : decide ((k : Int) < (n : Int)) = true := decide_eq_true (by omega)
      have g1n : decide (k < n) = true := decide_eq_true hlt
      have hki : (k : Int) < (n : Int) := by omega
      have ck := hP k hlt
      obtain ⟨x, hx⟩ : ∃ x, x = z k := ⟨_, rfl⟩
      obtain ⟨y, hy⟩ : ∃ y, y = z 0 := ⟨_, rfl⟩
      rw [← hx] at ck
      rw [← hy] at c0
      by_cases he : x = y
      · have g2 : (x == y) = true := by rw [he]; simp
        have HE2 : Hid (∀ j, j < k + 1 → z j = z 0) := fun j hj => by
          by_cases e : j = k
          · subst e; rw [← hx, ← hy]; exact he
          · exact unhide HE j (by omega)
        clear hP hx hy HE
        go_wp2
        go_quiet (fail)
        go_wp2
        go_roundw
        case rel => exact ⟨k + 1, by omega, by go_num, HE2, _, rfl⟩
        case measure => simp [intOf]; omega
      · have g2 : (x == y) = false := by rw [beq_eq_false_iff_ne]; exact he
        have hk1 : 1 ≤ k := by
          rcases Nat.eq_zero_or_pos k with q | q
          · subst q; rw [hx, hy] at he; exact absurd rfl he
          · exact q
        clear hP hx hy
        go_wp2
        go_quiet (fail)
        go_wp2
        go_ret
        exact ⟨k, rfl, hk1, by omega, unhide HE, _, World.drewN_drewN _ _ _⟩
    · obtain rfl : k = n := by omega
      have g1 : decide ((k : Int) < (k : Int)) = false := by simp
      clear hP
      go_wp2
      go_quiet (fail)
      go_wp2
      go_ret
      exact ⟨k, rfl, by omega, by omega, unhide HE, _, World.drewN_drewN _ _ _⟩
end Go.Proofs.YtfeljhikeddodadGreatDoor
