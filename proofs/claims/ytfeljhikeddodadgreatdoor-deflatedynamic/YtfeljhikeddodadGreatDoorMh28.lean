/- plain.Code by its contracts: nil; an error of errors.New's make, one of the project's or another; a pointer to api.Fault that holds one of the project's. plain.Code of one of the errors. layercakelaw1.coded by its contracts. layercakelaw1.faulted by its contracts. Walks of the statement's helpers: a copy of tokens; are they few? an error's number and place. Walks of the statement's own helpers: are two rows of tokens the same? Do lengths cost no more than the best? -/
import Derived.Test.YtfeljhikeddodadGreatDoorErrsAs
import Derived.Below
import Derived.Test.YtfeljhikeddodadGreatDoorMh1
import Derived.Test.YtfeljhikeddodadGreatDoorMh27
import Derived.Deep.AppendLies
import Derived.Test.YtfeljhikeddodadGreatDoorMh18
import Derived.Test.YtfeljhikeddodadGreatDoorMh17
import Derived.Deep.QuietTactic
namespace Go.Proofs.YtfeljhikeddodadGreatDoor
open Go.RowKit Go.Extern.Stop Go.Stop Go.Extern

/-- The number of the i-th error's variable. -/
def sentAt (i : Nat) : Nat := [1, 0, 2, 3, 4, 5, 6, 7, 8].getD i 0
/-- The i-th error as a value. -/
def sentV (a : Nat → Addr) (i : Nat) : Value := .iface 243 (.pointer (some (a i)))
/-- What the project's errors hold: each variable a pointer to an error of errors.New's make, no two the same one; and the library's own handle. -/
structure Sent (w : World) (a : Nat → Addr) : Prop where
  cell : ∀ i, i < 9 → w.cell? ⟨sentAt i, 0, none⟩ = some (sentV a i)
  row : ∀ i, i < 9 → ∃ c t, w.heap[(a i).block]? = some (.cells c t (0, 0))
  apart : ∀ i j, i < 9 → j < 9 → i ≠ j → a i ≠ a j
  handle : w.cell? ⟨9, 0, none⟩ = some (.iface 199 (.agg #[.pointer (some ⟨12, 26, none⟩)]))
theorem cell_block {w : World} {p : Addr} {v : Value} (h : w.cell? p = some v) : p.block < w.heap.size := by
  rcases Nat.lt_or_ge p.block w.heap.size with h' | h'
  · exact h'
  · simp [World.cell?, Array.getElem?_eq_none h'] at h
theorem heap_block {w : World} {k : Nat} {o : Obj} (h : w.heap[k]? = some o) : k < w.heap.size := by
  rcases Nat.lt_or_ge k w.heap.size with h' | h'
  · exact h'
  · simp [Array.getElem?_eq_none h'] at h
theorem Sent.below {w w' : World} {a : Nat → Addr} (h : Sent w a) (hb : Below w.heap.size w w') : Sent w' a := by
  refine ⟨fun i hi => ?_, fun i hi => ?_, h.apart, ?_⟩
  · rw [hb.cell (cell_block (h.cell i hi))]; exact h.cell i hi
  · obtain ⟨c, t, hc⟩ := h.row i hi
    exact ⟨c, t, by rw [hb.block _ (heap_block hc)]; exact hc⟩
  · rw [hb.cell (cell_block h.handle)]; exact h.handle
theorem as_hit2 (e : Addr) (w : World) (a : Nat → Addr) (hS : Sent w a) :
    Calls Tryz.prog 68 #[.iface 106 (.pointer (some e)), .iface 108 (.pointer (some ⟨w.heap.size, 0, none⟩))] (w.alloc (.cells #[.pointer none] 106)) fun ev w' => ev = .returned (.bool true) ∧ Below w.heap.size w w' ∧ w'.cell? ⟨w.heap.size, 0, none⟩ = some (.pointer (some e)) := by
  have hb0 : Below w.heap.size w (w.alloc (.cells #[.pointer none] 106)) := (Below.refl _ _).alloc (Nat.le_refl _) _
  have hc0 : (w.alloc (.cells #[.pointer none] 106)).cell? ⟨w.heap.size, 0, none⟩ = some (.pointer none) := by simp
  refine (as_hit e ⟨w.heap.size, 0, none⟩ (.pointer none) _ (hS.below hb0).handle hc0 (by simp)).mono ?_
  rintro ev w' ⟨rfl, rfl⟩
  refine ⟨rfl, ((((hb0.alloc (by simp) _).alloc (by simp; omega) _).alloc (by simp; omega) _).alloc (by simp; omega) _).setCell (Nat.le_refl _) _, ?_⟩
  refine World.cell?_setCell_same (u := .pointer none) _ _ _ ?_
  rw [World.cell?_alloc_lt _ _ ⟨w.heap.size, 0, none⟩ (by simp; omega), World.cell?_alloc_lt _ _ ⟨w.heap.size, 0, none⟩ (by simp; omega), World.cell?_alloc_lt _ _ ⟨w.heap.size, 0, none⟩ (by simp; omega), World.cell?_alloc_lt _ _ ⟨w.heap.size, 0, none⟩ (by simp)]
  exact hc0
theorem is_fault_at (pb po : Nat) (idx k : Nat) (w : World) (a : Nat → Addr) (hS : Sent w a) (hk : k < 9) (hi : idx < 9) (h1 : w.cell? ⟨pb, po + 1, none⟩ = some (sentV a idx)) :
    Calls Tryz.prog 69 #[.iface 106 (.pointer (some ⟨pb, po, none⟩)), .iface 243 (.pointer (some (a k)))] w fun e w' => e = .returned (.bool (decide (k = idx))) ∧ w' = w := by
  by_cases h : k = idx
  · subst h
    rw [decide_eq_true rfl]
    exact is_fault_same pb po (a k) w h1
  · obtain ⟨c, t, hc⟩ := hS.row idx hi
    obtain ⟨c', t', hc'⟩ := hS.row k hk
    rw [decide_eq_false h]
    exact is_fault_other pb po (a k) (a idx) c c' t t' w h1 (hS.apart idx k hi hk (Ne.symm h)) hc hc'
/-- The list of the project's errors, laid. -/
def sentRow (a : Nat → Addr) : Array Value := #[sentV a 0, sentV a 1, sentV a 2, sentV a 3, sentV a 4, sentV a 5, sentV a 6, sentV a 7, sentV a 8]
theorem sentRow_at (a : Nat → Addr) (k : Nat) (hk : k < 9) : (sentRow a)[k]? = some (sentV a k) := by
  unfold sentRow
  match k, hk with
  | 0, _ => rfl
  | 1, _ => rfl
  | 2, _ => rfl
  | 3, _ => rfl
  | 4, _ => rfl
  | 5, _ => rfl
  | 6, _ => rfl
  | 7, _ => rfl
  | 8, _ => rfl
set_option maxHeartbeats 1000000 in
theorem code_fault (pb po : Nat) (at_ : Int) (idx : Nat) (w : World) (a : Nat → Addr) (hS : Sent w a) (hi : idx < 9) (h0 : w.cell? ⟨pb, po, none⟩ = some (.int .i64 at_)) (h1 : w.cell? ⟨pb, po + 1, none⟩ = some (sentV a idx)) :
    Calls Tryz.prog 26 #[.iface 106 (.pointer (some ⟨pb, po, none⟩))] w fun e w' => e = .returned (.tuple #[.int .i64 ((idx : Int) + 1), .int .i64 at_]) ∧ Below w.heap.size w w' := by
  have HS : Hid (Sent w a) := hS
  have H0 : Hid (w.cell? ⟨pb, po, none⟩ = some (.int .i64 at_)) := h0
  have H1 : Hid (w.cell? ⟨pb, po + 1, none⟩ = some (sentV a idx)) := h1
  clear hS h0 h1
  go_enter Tryz.func26, Tryz.ntmps26
  go_wp2_with fail
  refine (as_hit2 ⟨pb, po, none⟩ w a HS.out).mono ?_
  rintro e w1 ⟨rfl, hb1, hcf⟩
  have hS1 := HS.out.below hb1
  have hc0 : w1.cell? ⟨pb, po, none⟩ = some (.int .i64 at_) := by rw [hb1.cell (cell_block H0.out)]; exact H0.out
  have c0 := hS1.cell 0 (by decide)
  have c1 := hS1.cell 1 (by decide)
  have c2 := hS1.cell 2 (by decide)
  have c3 := hS1.cell 3 (by decide)
  have c4 := hS1.cell 4 (by decide)
  have c5 := hS1.cell 5 (by decide)
  have c6 := hS1.cell 6 (by decide)
  have c7 := hS1.cell 7 (by decide)
  have c8 := hS1.cell 8 (by decide)
  simp only [sentAt, sentV, List.getD_cons_zero, List.getD_cons_succ] at c0 c1 c2 c3 c4 c5 c6 c7 c8
  go_wp2
  clear c0 c1 c2 c3 c4 c5 c6 c7 c8
  have hrow9 : ∀ j, j < 9 → (w1.alloc (.cells (sentRow a) 26)).cell? ⟨w1.heap.size, j, none⟩ = some (.iface 243 (.pointer (some (a j)))) := fun j hj => by
    rw [World.cell?_alloc_at _ _ _ _ rfl, sentRow_at a j hj]; rfl
  go_loopw [3, 27] (fun s3 i wx => ∃ k : Nat, k ≤ idx ∧ s3 = .int .i64 at_ ∧ i = .int .i64 k ∧ Hid (∀ j, j < 9 → wx.cell? ⟨w1.heap.size, j, none⟩ = some (.iface 243 (.pointer (some (a j))))) ∧ Below w1.heap.size w1 wx) (fun _ i _ => 9 - (intOf i).toNat)
  case atStart => exact ⟨0, by omega, rfl, rfl, hrow9, (Below.refl _ _).alloc (Nat.le_refl _) _⟩
  case round =>
    obtain ⟨k, hki, rfl, rfl, Hcell, hbx⟩ := hrel
    clear hrow9
    have hbw := hb1.trans (hbx.mono hb1.size)
    have hlt : k < 9 := by omega
    have hd : decide ((k : Int) < 9) = true := by simp; omega
    have hc := Hcell.out k hlt
    have h1x : wr.cell? ⟨pb, po + 1, none⟩ = some (sentV a idx) := by rw [hbw.cell (cell_block H1.out)]; exact H1.out
    have hat := is_fault_at pb po idx k wr a (HS.out.below hbw) hlt hi h1x
    by_cases hi2 : k = idx
    · subst hi2
      rw [decide_eq_true rfl] at hat
      have Hat : Hid (Calls _ _ _ _ _) := hat
      clear hat h1x
      go_wp2_with fail
      refine Hat.out.mono ?_
      rintro e w2 ⟨rfl, rfl⟩
      go_wp2
      go_ret2
      exact ⟨rfl, hbw⟩
    · rw [decide_eq_false hi2] at hat
      have Hat : Hid (Calls _ _ _ _ _) := hat
      clear hat h1x
      go_wp2_with fail
      refine Hat.out.mono ?_
      rintro e w2 ⟨rfl, rfl⟩
      go_wp2
      go_roundw
      case rel => exact ⟨k + 1, by omega, rfl, by go_num, Hcell, hbx⟩
      case measure => simp [intOf]; omega
end Go.Proofs.YtfeljhikeddodadGreatDoor
namespace Go.Proofs.YtfeljhikeddodadGreatDoor
open Go.RowKit

end Go.Proofs.YtfeljhikeddodadGreatDoor
namespace Go.Proofs.YtfeljhikeddodadGreatDoor
open Go.RowKit

end Go.Proofs.YtfeljhikeddodadGreatDoor
namespace Go.Proofs.YtfeljhikeddodadGreatDoor
open Go.RowKit

/-- layercakelaw1.faulted, of a pointer to api.Fault. -/
theorem faulted_at (q i c : Nat) (w : World) (a : Nat → Addr) (hS : Sent w a) (hi : c < 9) (h0 : w.cell? ⟨q, 0, none⟩ = some (.int .i64 (i : Int))) (h1 : w.cell? ⟨q, 1, none⟩ = some (sentV a c)) :
    Calls Tryz.prog 11 #[.iface 106 (.pointer (some ⟨q, 0, none⟩)), .agg #[.int .i64 ((c : Int) + 1), .int .i64 (i : Int)]] w fun e w' => e = .returned (.bool true) ∧ Below w.heap.size w w' := by
  have hb0 : Below w.heap.size w (w.alloc (.cells #[.int .i64 ((c : Int) + 1), .int .i64 (i : Int)] 31)) := (Below.refl _ _).alloc (Nat.le_refl _) _
  have hq : q < w.heap.size := World.block_lt_of_cell? _ _ h0
  have HC := hide (code_fault q 0 (i : Int) c (w.alloc (.cells #[.int .i64 ((c : Int) + 1), .int .i64 (i : Int)] 31)) a (hS.below hb0) hi ((hb0.cell (p := ⟨q, 0, none⟩) hq).trans h0) ((hb0.cell (p := ⟨q, 0 + 1, none⟩) hq).trans h1))
  have f0 : (w.alloc (.cells #[.int .i64 ((c : Int) + 1), .int .i64 (i : Int)] 31)).cell? ⟨w.heap.size, 0, none⟩ = some (.int .i64 ((c : Int) + 1)) := by simp
  have f1 : (w.alloc (.cells #[.int .i64 ((c : Int) + 1), .int .i64 (i : Int)] 31)).cell? ⟨w.heap.size, 1, none⟩ = some (.int .i64 (i : Int)) := by simp
  have hz : w.heap.size < (w.alloc (.cells #[.int .i64 ((c : Int) + 1), .int .i64 (i : Int)] 31)).heap.size := by simp
  have c0 : (((c : Int) + 1) == 0) = false := by simp; omega
  clear hS h0 h1
  go_enter Tryz.func11, Tryz.ntmps11
  go_wp2_with fail
  refine (unhide HC).mono ?_
  generalize w.alloc (.cells #[.int .i64 ((c : Int) + 1), .int .i64 (i : Int)] 31) = w0 at *
  rintro e w1 ⟨rfl, hb1⟩
  have k0 := (hb1.cell (p := ⟨w.heap.size, 0, none⟩) hz).trans f0
  have k1 := (hb1.cell (p := ⟨w.heap.size, 1, none⟩) hz).trans f1
  have hbw : Below w.heap.size w w1 := hb0.trans (hb1.mono hb0.size)
  clear HC hb1 hb0 f0 f1 hz
  go_wp2
  go_ret
  exact ⟨rfl, hbw⟩
end Go.Proofs.YtfeljhikeddodadGreatDoor
namespace Go.Proofs.YtfeljhikeddodadGreatDoor
open Go.RowKit

def tokVals (t : Tks) (len : Nat) : List Value := (List.range (len * 3)).map fun j => if j % 3 = 0 then .int .u8 (t.b (j / 3) : Nat) else if j % 3 = 1 then .int .i64 (t.l (j / 3)) else .int .i64 (t.d (j / 3))
theorem tokVals_length (t : Tks) (len : Nat) : (tokVals t len).length = len * 3 := by simp [tokVals]
theorem tokVals_at (t : Tks) (len j : Nat) (h : j < len * 3) : (tokVals t len)[j]? = some (if j % 3 = 0 then .int .u8 (t.b (j / 3) : Nat) else if j % 3 = 1 then .int .i64 (t.l (j / 3)) else .int .i64 (t.d (j / 3))) := by
  unfold tokVals
  rw [List.getElem?_map, List.getElem?_range h]
  rfl
theorem wpList_append_eq2 (w : World) {ops : Array Oper} {rest : List Oper} {o : Oper} {a : Act} {Q : Exit → Act → World → Prop} (hgd : o.guard = none) (s x : Operand) (t : TypeId)
    (ho : o.op = .call { callee := .builtin .append, args := #[s, x], argTypes := #[t, t] }) (v u r : Value) (hs : a.eval s = v) (hx : a.eval x = u)
    (hr : (Builtin.append_ #[t, t] o.type #[v, u]).run Tryz.prog w = .ok r w) (h : wpList Tryz.prog ops Q rest (a.put o.dst r) w) : wpList Tryz.prog ops Q (o :: rest) a w :=
  wpList_plain hgd fun _ hK => by
    unfold Oper.wp execOp
    simp only [ho, resolve, invoke, builtin, Sem.run_bind, Sem.run_pure, Result.andThen_ok, List.map_toArray, List.map_cons, List.map_nil, hs, hx, hr]
    exact hK _ _ h
theorem tok_none (w : World) (ao : Option Addr) (cap : Nat) : (Builtin.append_ #[22, 22] 22 #[.slice none 0 0, .slice ao 0 cap]).run Tryz.prog w = .ok (.slice none 0 0) w := by
  cases ao <;> kernel_rfl
theorem info_tok2 : (Tryz.prog.info? 51).map (fun i => (i.zero, i.size, i.bytes)) = some (some (.agg #[.int .u8 0, .int .i64 0, .int .i64 0]), 3, 24) := by kernel_rfl
theorem add_at (g o j : Nat) : (⟨g, o, none⟩ : Addr).add j = ⟨g, o + j, none⟩ := by unfold Addr.add; split <;> simp_all
/-- layercakelaw1.tokens: a copy in new memory. -/
theorem tokens_copy (ao : Option Addr) (len cap : Nat) (t : Tks) (w : World) (hP : IsTokens w ao len t) (hlen : len ≤ 100000) :
    Calls Tryz.prog 9 #[.slice ao len cap] w fun e w' => ∃ a c, e = .returned (.slice a len c) ∧ IsTokens w' a len t ∧ Below w.heap.size w w' := by
  obtain ⟨i0, hi, hz0, hz1, hz2⟩ := info_parts info_tok2
  by_cases h0 : len = 0
  · subst h0
    have Hc := hide (tok_none w ao cap)
    clear hP
    go_enter Tryz.func9, Tryz.ntmps9
    go_wp2_with (at_builtin; refine wpList_append_eq2 _ rfl (.tmp 4) (.tmp 5) 22 rfl (.slice none 0 0) (.slice ao 0 cap) (.slice none 0 0) rfl rfl (unhide Hc) ?_)
    go_wp2
    go_ret
    exact ⟨_, _, rfl, .inl rfl, Below.refl _ _⟩
  · rcases hP with h | ⟨b, off, rfl, hm, hP⟩
    · exact absurd h h0
    have hnews : ∀ j u, (tokVals t len)[j]? = some u → w.cell? ((⟨b, off, none⟩ : Addr).add j) = some u := fun j u hj => by
      have hjl : j < len * 3 := by
        rcases Nat.lt_or_ge j (len * 3) with h | h
        · exact h
        · rw [List.getElem?_eq_none (by rw [tokVals_length]; exact h)] at hj; cases hj
      rw [add_at, ← hj, tokVals_at _ _ _ hjl]
      have hc := hP (j / 3) (by omega)
      by_cases e0 : j % 3 = 0
      · rw [if_pos e0, show off + j = off + j / 3 * 3 by omega]; exact hc.1
      · rw [if_neg e0]
        by_cases e1 : j % 3 = 1
        · rw [if_pos e1, show off + j = off + j / 3 * 3 + 1 by omega]; exact hc.2.1
        · rw [if_neg e1, show off + j = off + j / 3 * 3 + 2 by omega]; exact hc.2.2.1
    have h1 : ∀ u ∈ tokVals t len, u.oneCell' = true := fun u hu => by
      obtain ⟨i, _, rfl⟩ := List.mem_map.1 hu
      split
      · rfl
      · split <;> rfl
    have HQ : Hid (∀ i, i < len → t.b i < 256 ∧ (-9223372036854775808 ≤ t.l i ∧ t.l i ≤ 9223372036854775807) ∧ (-9223372036854775808 ≤ t.d i ∧ t.d i ≤ 9223372036854775807)) := fun i hi => (hP i hi).2.2.2
    have Hi := hide hi
    have Hz0 := hide hz0
    have Hz1 := hide hz1
    have Hz2 := hide hz2
    have Hn := hide hnews
    have H1 := hide h1
    clear hi hz0 hz1 hz2 hnews h1 hP
    go_enter Tryz.func9, Tryz.ntmps9
    go_wp2_with (at_builtin; refine wpList_append_lies _ rfl (.tmp 4) (.tmp 5) 22 rfl w.heap.size 51 i0 (.agg #[.int .u8 0, .int .i64 0, .int .i64 0]) 3 24 Tryz.underlying22 (unhide Hi) (unhide Hz0) (unhide Hz1) (unhide Hz2) rfl (by omega) (.slice none 0 0) 0 [] rfl (World.ownsRow_nil _ _ _ _) ⟨b, off, none⟩ len cap (tokVals t len) rfl (by rw [tokVals_length]) (unhide Hn) (unhide H1) (by omega) (by unfold maxLen; omega) (by omega) (Nat.le_refl _) _ rfl ?_)
    intro g cap2 w1 hown1 hgrow hat hlt1
    have hb1 : Below w.heap.size w w1 := (Below.refl _ _).grown hgrow (Nat.le_refl _) (fun k e => by simp [Value.ownBlock] at e)
    have HT : Hid (IsTokens w1 (some ⟨g, 0, none⟩) len t) := by
      refine .inr ⟨g, 0, rfl, hm, fun i hi => ?_⟩
      simp only [Nat.zero_add] at hown1 ⊢
      have q0 := hown1.cellAt (i * 3) (by omega)
      have q1 := hown1.cellAt (i * 3 + 1) (by omega)
      have q2 := hown1.cellAt (i * 3 + 2) (by omega)
      rw [tokVals_at _ _ _ (by omega), if_pos (by omega), show i * 3 / 3 = i by omega] at q0
      rw [tokVals_at _ _ _ (by omega), if_neg (by omega), if_pos (by omega), show (i * 3 + 1) / 3 = i by omega] at q1
      rw [tokVals_at _ _ _ (by omega), if_neg (by omega), if_neg (by omega), show (i * 3 + 2) / 3 = i by omega] at q2
      exact ⟨q0, q1, q2, unhide HQ i hi⟩
    clear hown1 hgrow hat hlt1
    go_wp2
    go_ret
    exact ⟨_, _, rfl, unhide HT, hb1⟩
set_option maxHeartbeats 2000000 in
theorem wide_any (ao : Option Addr) (len cap : Nat) (t : Tks) (w : World) (hP : IsTokens w ao len t) :
    Calls Tryz.prog 7 #[.slice ao len cap] w fun e w' => e = .returned (.bool (decide (len ≤ 300 ∧ t.wide len ≤ 6000))) ∧ w' = w := by
  have HP := hide hP
  clear hP
  go_enter Tryz.func7, Tryz.ntmps7
  go_wp2
  go_loop [3, 4] (fun s i => ∃ (k : Nat) (x : Int), k ≤ len ∧ i = .int .i64 (k : Int) ∧ s = .int .i64 x ∧ Hid (k ≤ 300 → x = t.wide k) ∧ (-9223372036854775808 ≤ x ∧ x ≤ 9223372036854775807)) (fun _ i => len - (intOf i).toNat)
  case atStart => exact ⟨0, 0, by omega, rfl, rfl, fun _ => rfl, by omega⟩
  case round =>
    obtain ⟨k, x, hk, rfl, rfl, HX, hx1, hx2⟩ := hrel
    by_cases hlt : k < len
    · have g1 : decide ((k : Int) < (len : Int)) = true := by simp; omega
      have hki : (k : Int) < (len : Int) := by omega
      rcases unhide HP with h0 | ⟨bb, off, rfl, hm, hc⟩
      · omega
      unfold maxLen at hm
      obtain ⟨_, c1, _, _, ⟨hl1, hl2⟩, _⟩ := hc k hlt
      have HNX : Hid (t.wide (k + 1) = t.wide k + if 0 < t.l k ∧ t.l k ≤ 258 then t.l k else 0) := rfl
      have hwl := t.wide_le k
      generalize t.l k = l at *
      clear hc
      by_cases h1 : 0 < l
      · have e1 : decide (l > 0) = true := by simpa using h1
        have e1' : decide (0 < l) = true := e1
        by_cases h2 : l ≤ 258
        · have e2 : decide (l ≤ 258) = true := by simpa using h2
          rw [if_pos ⟨h1, h2⟩] at HNX
          by_cases h3 : k < 300
          · have hxx := unhide HX (by omega)
            have hy : x + l ≤ 9000000000000000000 := by omega
            have HY : Hid (x + l = t.wide (k + 1)) := by show _ = _; rw [unhide HNX, hxx]
            clear hxx hwl
            go_wp2
            go_round
            case rel => exact ⟨k + 1, _, by omega, by go_num, rfl, fun _ => unhide HY, by omega⟩
            case measure => simp [intOf]; omega
          · obtain ⟨y, hy⟩ : ∃ y, y = IntKind.i64.wrap (x + l) := ⟨_, rfl⟩
            have hyb : -9223372036854775808 ≤ y ∧ y ≤ 9223372036854775807 := by rw [hy, IntKind.wrap_i64]; omega
            have hyw : IntKind.i64.wrap (x + l) = y := hy.symm
            clear hy hwl
            go_wp2
            go_round
            case rel => exact ⟨k + 1, _, by omega, by go_num, rfl, fun q => by omega, hyb⟩
            case measure => simp [intOf]; omega
        · have e2 : decide (l ≤ 258) = false := by simpa using h2
          rw [if_neg (fun h => h2 h.2)] at HNX
          go_wp2
          go_round
          case rel => exact ⟨k + 1, x, by omega, by go_num, rfl, fun q => by have := unhide HX (by omega); have := unhide HNX; omega, by omega⟩
          case measure => simp [intOf]; omega
      · have e1 : decide (l > 0) = false := by simpa using h1
        have e1' : decide (0 < l) = false := e1
        rw [if_neg (fun h => h1 h.1)] at HNX
        go_wp2
        go_round
        case rel => exact ⟨k + 1, x, by omega, by go_num, rfl, fun q => by have := unhide HX (by omega); have := unhide HNX; omega, by omega⟩
        case measure => simp [intOf]; omega
    · have : k = len := by omega
      subst this
      have g1 : decide ((k : Int) < (k : Int)) = false := by simp
      by_cases h1 : k ≤ 300
      · have e1 : decide ((k : Int) ≤ 300) = true := by simp; omega
        have e1' : decide (k ≤ 300) = true := by simpa using h1
        go_wp2
        go_ret
        exact ⟨ret_bool (by rw [unhide HX h1]), rfl⟩
      · have e1 : decide ((k : Int) ≤ 300) = false := by simp; omega
        have e1' : decide (k ≤ 300) = false := by simpa using h1
        go_wp2
        go_ret
        exact ⟨rfl, rfl⟩
end Go.Proofs.YtfeljhikeddodadGreatDoor
namespace Go.Proofs.YtfeljhikeddodadGreatDoor
open Go.RowKit Pm Cn

/-- Two best codes of the same counts cost the same. -/
theorem good_same {z y y' : Nat → Int} {len most : Nat} (h : GoodL z y len most) (h' : GoodL z y' len most) : upto (fun i => nat y i * nat z i) len = upto (fun i => nat y' i * nat z i) len := by
  have hp : ((posOf (nat z) len).mergeSort (fun a b => decide (a ≤ b))).Perm (posOf (nat z) len) := List.mergeSort_perm _ _
  have ho : Ord ((posOf (nat z) len).mergeSort (fun a b => decide (a ≤ b))) := by
    have := List.pairwise_mergeSort (le := fun a b => decide (a ≤ b)) (fun a b c => by simp; omega) (fun a b => by simp; omega) (posOf (nat z) len)
    exact this.imp (fun h => by simpa using h)
  rw [← h.least _ ho hp, ← h'.least _ ho hp]
theorem upto_le (f : Nat → Nat) (b n : Nat) (h : ∀ i, i < n → f i ≤ b) : upto f n ≤ n * b := by
  induction n with
  | zero => simp [upto]
  | succ n ih =>
    show f n + upto f n ≤ _
    have h1 := h n (by omega)
    have h2 := ih (fun i hi => h i (by omega))
    rw [Nat.succ_mul]
    omega
set_option maxHeartbeats 4000000 in
set_option maxRecDepth 100000 in
theorem cost_dd (ao bo : Option Addr) (N M capA capB : Nat) (z l : Nat → Nat) (w : World) (hP : IsInts w ao N (fun i => (z i : Int))) (hL : IsInts w bo M (fun i => (l i : Int))) (hN : N ≤ 300) (hN0 : 0 < N) (hM0 : 0 < M) (hMN : M ≤ N) (htl : ∀ i, M ≤ i → i < N → l i = 0) (hB : Bst z l N 15) (hz : ∀ i, i < N → z i ≤ 1048576) :
    Calls Tryz.prog 17 #[.slice ao N capA, .slice bo M capB] w fun e w' => e = .returned (.tuple #[.bool true, .bool true]) ∧ Below w.heap.size w w' := by
  have HI := hide (ints_any ao N capA _ w hP (by omega))
  have hsy : (syms (fun i => (z i : Int)) N).length ≤ N := by
    have := List.length_filter_le (fun i => decide (0 < ((z i : Nat) : Int))) (List.range N)
    simpa [syms] using this
  have hbc : ∀ i, i < N → badC ((z i : Nat) : Int) = false := fun i hi => by
    have := hz i hi
    unfold badC
    simp
    omega
  obtain ⟨y0, hg0, hl0⟩ := hB.good
  have HBS := hide hB.same
  have HBL := hide hB.le
  have HG0 := hide (And.intro hg0 hl0)
  have HZ := hide hz
  have HTL := hide htl
  have HP := hide hP
  have HL := hide hL
  clear hP hL hB hg0 hl0 hz htl
  go_enter Tryz.func17, Tryz.ntmps17
  go_wp2_with fail
  refine (unhide HI).mono ?_; rintro e w1 ⟨v1, rfl, hown1, hb1⟩
  obtain ⟨a1, cap1, rfl, hP1⟩ := ints_own hown1 (fun i hi => by have := unhide HZ i hi; omega)
  have HLG := hide (lengths_good a1 N cap1 15 _ w1 hP1 hN (by omega) (by omega) hbc (by omega))
  clear HI hown1 hP1 hbc hsy
  go_wp2_with fail
  refine (unhide HLG).mono ?_; rintro e w2 ⟨g, y, rfl, hown2, hgl, hb2⟩
  have hb2w : Below w.heap.size w w2 := hb1.trans (hb2.mono hb1.size)
  have hylow := hgl.low
  have HY : Hid (∀ i, i < N → ∃ q : Nat, y i = (q : Int) ∧ q ≤ 15 ∧ w2.cell? ⟨g, i, none⟩ = some (.int .i64 (q : Int)) ∧ nat y i = q) := fun i hi => by
    obtain ⟨h1, h2⟩ := hylow i hi
    obtain ⟨q, hq⟩ := Int.eq_ofNat_of_zero_le h1
    refine ⟨q, hq, by omega, ?_, by unfold nat; rw [hq]; simp⟩
    rw [hown2.cellAt i (by omega), intVals_at _ _ _ hi, hq]
  have HEQ : Hid (upto (fun i => l i * z i) N = upto (fun i => nat y i * z i) N) := by
    obtain ⟨h1, h2⟩ := unhide HG0
    have := good_same h1 hgl
    have hnz : (nat fun i => ((z i : Nat) : Int)) = z := by funext i; unfold nat; simp
    rw [hnz, ← h2] at this
    exact this
  obtain ⟨bA, oA, rfl, hmA, hcA⟩ : ∃ b off, ao = some ⟨b, off, none⟩ ∧ N ≤ maxLen ∧ ∀ i, i < N → w2.cell? ⟨b, off + i, none⟩ = some (.int .i64 (z i : Int)) := by
    rcases (unhide HP).below hb2w with h | ⟨b, off, h1, h2, h3⟩
    · omega
    · exact ⟨b, off, h1, h2, fun i hi => (h3 i hi).1⟩
  obtain ⟨bB, oB, rfl, hmB, hcB⟩ : ∃ b off, bo = some ⟨b, off, none⟩ ∧ M ≤ maxLen ∧ ∀ i, i < M → w2.cell? ⟨b, off + i, none⟩ = some (.int .i64 (l i : Int)) := by
    rcases (unhide HL).below hb2w with h | ⟨b, off, h1, h2, h3⟩
    · omega
    · exact ⟨b, off, h1, h2, fun i hi => (h3 i hi).1⟩
  have HCA := hide hcA
  have HCB := hide hcB
  have HX : Hid (∀ i, i ≤ N → upto (fun i => l i * z i) i ≤ 6000000000 ∧ upto (fun i => nat y i * z i) i ≤ 6000000000) := fun i hi => by
    refine ⟨Nat.le_trans (upto_le _ (15 * 1048576) i (fun j hj => Nat.mul_le_mul (unhide HBL j (by omega)) (unhide HZ j (by omega)))) ?_, Nat.le_trans (upto_le _ (15 * 1048576) i (fun j hj => Nat.mul_le_mul ?_ (unhide HZ j (by omega)))) ?_⟩
    · have : i * (15 * 1048576) ≤ 300 * (15 * 1048576) := Nat.mul_le_mul_right _ (by omega)
      omega
    · obtain ⟨q, _, hq, _, he⟩ := unhide HY j (by omega)
      omega
    · have : i * (15 * 1048576) ≤ 300 * (15 * 1048576) := Nat.mul_le_mul_right _ (by omega)
      omega
  have HBW := hide hb2w
  clear HLG hown2 hgl hylow hcA hcB HG0 HP HL hb1 hb2 hb2w
  go_wp2
  go_loopw [8, 9, 10] (fun xv yv iv wr => ∃ i nn : Nat, i ≤ N ∧ iv = .int .i64 (i : Int) ∧ xv = .int .i64 ((upto (fun i => l i * z i) i : Nat) : Int) ∧ yv = .int .i64 ((upto (fun i => nat y i * z i) i : Nat) : Int) ∧ wr = w2.drewN nn) (fun _ _ iv _ => N - (intOf iv).toNat)
  case atStart => exact ⟨0, 0, by omega, rfl, rfl, rfl, rfl⟩
  case round =>
    obtain ⟨i, nn, hi, rfl, rfl, rfl, rfl⟩ := hrel
    obtain ⟨x1, x2⟩ := unhide HX i hi
    by_cases hlt : i < N
    · have g1 : decide ((i : Int) < (N : Int)) = true := decide_eq_true (by omega)
      have g1n : decide (i < N) = true := decide_eq_true hlt
      have hli := unhide HBL i hlt
      have hzi := unhide HZ i hlt
      have hsm := unhide HBS i hlt
      obtain ⟨q, hyq, hq15, hcq, hnq⟩ := unhide HY i hlt
      have hca := unhide HCA i hlt
      have HN1 : Hid (upto (fun i => l i * z i) (i + 1) = upto (fun i => l i * z i) i + l i * z i) := by show l i * z i + _ = _; omega
      have HN2 : Hid (upto (fun i => nat y i * z i) (i + 1) = upto (fun i => nat y i * z i) i + q * z i) := by show nat y i * z i + _ = _; rw [hnq]; omega
      have hm1 : l i * z i ≤ 15728640 := Nat.le_trans (Nat.mul_le_mul hli hzi) (by omega)
      have hm2 : q * z i ≤ 15728640 := Nat.le_trans (Nat.mul_le_mul hq15 hzi) (by omega)
      have hxb := (unhide HX (i + 1) (by omega)).1
      obtain ⟨Z, hZ⟩ : ∃ Z, Z = z i := ⟨_, rfl⟩
      obtain ⟨L, hL⟩ : ∃ L, L = l i := ⟨_, rfl⟩
      rw [← hL, ← hZ] at HN1 hm1
      rw [← hZ] at HN2 hm2 hca hzi hsm
      rw [← hL] at hli hsm
      obtain ⟨P1, hP1⟩ : ∃ P1, P1 = L * Z := ⟨_, rfl⟩
      obtain ⟨P2, hP2⟩ : ∃ P2, P2 = q * Z := ⟨_, rfl⟩
      have zp1 : (Z : Int) * (L : Int) = (P1 : Int) := by rw [hP1, Nat.mul_comm]; simp
      have zp2 : (Z : Int) * (q : Int) = (P2 : Int) := by rw [hP2, Nat.mul_comm]; simp
      rw [← hP1] at HN1 hm1
      rw [← hP2] at HN2 hm2
      obtain ⟨X, hX⟩ : ∃ X, X = upto (fun i => l i * z i) i := ⟨_, rfl⟩
      obtain ⟨Y, hY⟩ : ∃ Y, Y = upto (fun i => nat y i * z i) i := ⟨_, rfl⟩
      rw [← hX] at HN1 x1
      rw [← hY] at HN2 x2
      rw [← hX, ← hY]
      have ha1 : (i : Int) < (N : Int) := by omega
      have HPZ : Hid (0 < L ↔ 0 < Z) := hsm
      clear hZ hP1 hP2 hX hY hyq hnq hsm hxb
      by_cases hz0 : 0 < Z
      · have hl0 : 0 < L := (unhide HPZ).2 hz0
        have g2 : decide ((Z : Int) > 0) = true := decide_eq_true (by omega)
        have g2' : decide ((0 : Int) < (Z : Int)) = true := g2
        have g2n : decide (0 < Z) = true := decide_eq_true hz0
        have g3 : ((L : Int) == 0) = false := beq_eq_false_iff_ne.2 (by omega)
        by_cases hiM : i < M
        · have g4 : decide ((i : Int) < (M : Int)) = true := decide_eq_true (by omega)
          have g4n : decide (i < M) = true := decide_eq_true hiM
          have hcb := unhide HCB i hiM
          rw [← hL] at hcb
          have ha2 : (i : Int) < (M : Int) := by omega
          clear hL HCA HCB
          go_wp2
          go_quiet (fail)
          go_wp2
          go_roundw
          case rel => exact ⟨i + 1, _, by omega, by go_num, by rw [unhide HN1]; go_num, by rw [unhide HN2]; go_num, rfl⟩
          case measure => simp [intOf]; omega
        · exact absurd (unhide HTL i (by omega) hlt) (by omega)
      · have hZ0 : Z = 0 := by omega
        have hL0 : L = 0 := by
          rcases Nat.eq_zero_or_pos L with h | h
          · exact h
          · have := (unhide HPZ).1 h; omega
        have hP10 : P1 = 0 := by subst hZ0; simp at zp1; omega
        have hP20 : P2 = 0 := by subst hZ0; simp at zp2; omega
        by_cases hiM : i < M
        · have g4 : decide ((i : Int) < (M : Int)) = true := decide_eq_true (by omega)
          have g4n : decide (i < M) = true := decide_eq_true hiM
          have hcb := unhide HCB i hiM
          rw [← hL] at hcb
          have ha2 : (i : Int) < (M : Int) := by omega
          subst hZ0 hL0 hP10 hP20
          clear hL HCA HCB zp1 zp2 hz0
          go_wp2
          go_quiet (fail)
          go_wp2
          go_roundw
          case rel => exact ⟨i + 1, _, by omega, by go_num, by rw [unhide HN1]; go_num, by rw [unhide HN2]; go_num, rfl⟩
          case measure => simp [intOf]; omega
        · have g4 : decide ((i : Int) < (M : Int)) = false := decide_eq_false (by omega)
          have g4n : decide (i < M) = false := decide_eq_false hiM
          subst hZ0 hL0 hP10 hP20
          clear hL HCA HCB zp1 zp2 hz0
          go_wp2
          go_quiet (fail)
          go_wp2
          go_roundw
          case rel => exact ⟨i + 1, _, by omega, by go_num, by rw [unhide HN1]; go_num, by rw [unhide HN2]; go_num, rfl⟩
          case measure => simp [intOf]; omega
    · obtain rfl : i = N := by omega
      have g1 : decide ((i : Int) < (i : Int)) = false := by simp
      have hle := unhide HEQ
      have HBF := hide (below_drewN (unhide HBW) nn)
      obtain ⟨X, hX⟩ : ∃ X, X = upto (fun j => l j * z j) i := ⟨_, rfl⟩
      obtain ⟨Y, hY⟩ : ∃ Y, Y = upto (fun j => nat y j * z j) i := ⟨_, rfl⟩
      rw [← hX, ← hY]
      have hXY : X = Y := by rw [hX, hY]; exact hle
      have g5 : decide ((X : Int) ≤ (Y : Int)) = true := decide_eq_true (by omega)
      have g5n : decide (X ≤ Y) = true := decide_eq_true (by omega)
      clear hX hY hle hXY
      go_wp2
      go_ret2
      exact ⟨rfl, unhide HBF⟩
set_option maxHeartbeats 2000000 in
set_option maxRecDepth 100000 in
theorem sameTokens_any (ao bo : Option Addr) (n capA capB : Nat) (t : Tks) (w : World) (hA : IsTokens w ao n t) (hB : IsTokens w bo n t) :
    Calls Tryz.prog 16 #[.slice ao n capA, .slice bo n capB] w fun e w' => e = .returned (.bool true) ∧ ∃ nn, w' = w.drewN nn := by
  have g0 : ((n : Int) != (n : Int)) = false := by simp
  have HA := hide hA
  have HB := hide hB
  clear hA hB
  go_enter Tryz.func16, Tryz.ntmps16
  go_wp2
  go_loopw [5] (fun iv wr => ∃ i nn : Nat, i ≤ n ∧ iv = .int .i64 (i : Int) ∧ wr = w.drewN nn) (fun iv _ => n - (intOf iv).toNat)
  case atStart => exact ⟨0, 0, by omega, rfl, rfl⟩
  case round =>
    obtain ⟨i, nn, hi, rfl, rfl⟩ := hrel
    by_cases hlt : i < n
    · have g1 : decide ((i : Int) < (n : Int)) = true := decide_eq_true (by omega)
      have g1n : decide (i < n) = true := decide_eq_true hlt
      obtain ⟨bA, oA, rfl, _, hcA⟩ := (unhide HA).resolve_left (by omega)
      obtain ⟨bB, oB, rfl, hm, hcB⟩ := (unhide HB).resolve_left (by omega)
      obtain ⟨a0, a1, a2, _⟩ := hcA i hlt
      obtain ⟨b0, b1, b2, _⟩ := hcB i hlt
      have ha1 : (i : Int) < (n : Int) := by omega
      have hnm : n ≤ 9223372036854775807 := by unfold maxLen at hm; omega
      clear hcA hcB HA HB
      go_wp2
      go_quiet (fail)
      go_wp2
      go_roundw
      case rel => exact ⟨i + 1, _, by omega, by go_num, rfl⟩
      case measure => simp [intOf]; omega
    · obtain rfl : i = n := by omega
      have g1 : decide ((i : Int) < (i : Int)) = false := by simp
      go_wp2
      go_ret
      exact ⟨rfl, nn, rfl⟩
end Go.Proofs.YtfeljhikeddodadGreatDoor
