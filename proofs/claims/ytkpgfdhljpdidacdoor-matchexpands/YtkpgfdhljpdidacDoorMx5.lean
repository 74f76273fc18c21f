/- Walks of the statement's helpers: a copy of tokens; are they few? an error's number and place. -/
import Derived.Test.YtkpgfdhljpdidacDoorMx4
import Derived.Test.YtkpgfdhljpdidacDoorCode
import Derived.Deep.AppendLies
namespace Go.Proofs.YtkpgfdhljpdidacDoor
open Go.RowKit

def tokVals (t : Tks) (len : Nat) : List Value := (List.range (len * 3)).map fun j => if j % 3 = 0 then .int .u8 (t.b (j / 3) : Nat) else if j % 3 = 1 then .int .i64 (t.l (j / 3)) else .int .i64 (t.d (j / 3))
theorem tokVals_length (t : Tks) (len : Nat) : (tokVals t len).length = len * 3 := by simp [tokVals]
theorem tokVals_at (t : Tks) (len j : Nat) (h : j < len * 3) : (tokVals t len)[j]? = some (if j % 3 = 0 then .int .u8 (t.b (j / 3) : Nat) else if j % 3 = 1 then .int .i64 (t.l (j / 3)) else .int .i64 (t.d (j / 3))) := by
  unfold tokVals
  rw [List.getElem?_map, List.getElem?_range h]
  rfl

theorem wpList_append_eq2 (w : World) {ops : Array Oper} {rest : List Oper} {o : Oper} {a : Act} {Q : Exit → Act → World → Prop} (hgd : o.guard = none) (s x : Operand) (t : TypeId)
    (ho : o.op = .call { callee := .builtin .append, args := #[s, x], argTypes := #[t, t] }) (v u r : Value) (hs : a.eval s = v) (hx : a.eval x = u)
    (hr : (Builtin.append_ #[t, t] o.type #[v, u]).run Tryd.prog w = .ok r w) (h : wpList Tryd.prog ops Q rest (a.put o.dst r) w) : wpList Tryd.prog ops Q (o :: rest) a w :=
  wpList_plain hgd fun _ hK => by
    unfold Oper.wp execOp
    simp only [ho, resolve, invoke, builtin, Sem.run_bind, Sem.run_pure, Result.andThen_ok, List.map_toArray, List.map_cons, List.map_nil, hs, hx, hr]
    exact hK _ _ h

theorem tok_none (w : World) (ao : Option Addr) (cap : Nat) : (Builtin.append_ #[51, 51] 51 #[.slice none 0 0, .slice ao 0 cap]).run Tryd.prog w = .ok (.slice none 0 0) w := by
  cases ao <;> kernel_rfl

theorem info_tok2 : (Tryd.prog.info? 98).map (fun i => (i.zero, i.size, i.bytes)) = some (some (.agg #[.int .u8 0, .int .i64 0, .int .i64 0]), 3, 24) := by kernel_rfl
theorem add_at (g o j : Nat) : (⟨g, o, none⟩ : Addr).add j = ⟨g, o + j, none⟩ := by unfold Addr.add; split <;> simp_all

/-- layercakelaw1.tokens: a copy in new memory. -/
theorem tokens_any (ao : Option Addr) (len cap : Nat) (t : Tks) (w : World) (hP : IsTokens w ao len t) (hlen : len ≤ 100000) :
    Calls Tryd.prog 26 #[.slice ao len cap] w fun e w' => ∃ a c, e = .returned (.slice a len c) ∧ IsTokens w' a len t ∧ Below w.heap.size w w' := by
  obtain ⟨i0, hi, hz0, hz1, hz2⟩ := info_parts info_tok2
  by_cases h0 : len = 0
  · subst h0
    have Hc := hide (tok_none w ao cap)
    clear hP
    go_enter Tryd.func26, Tryd.ntmps26
    go_wp2_with (at_builtin; refine wpList_append_eq2 _ rfl (.tmp 4) (.tmp 5) 51 rfl (.slice none 0 0) (.slice ao 0 cap) (.slice none 0 0) rfl rfl (unhide Hc) ?_)
    go_wp2
    go_ret
    exact ⟨_, _, rfl, .inl rfl, Below.refl _ _⟩
  · rcases hP with h | ⟨b, off, rfl, hm, hP⟩
    · exact absurd h h0
    have hnews : ∀ j u, (tokVals t len)[j]? = some u → w.cell? ((⟨b, off, none⟩ : Addr).add j) = some u := fun j u hj => by
      have hjl : j < len * 3 := by
        rcases Nat.lt_or_ge j (len * 3) with h | h
        · exact h
        · rw [List.getElem?_eq_none (by rw [tokVals_length]; exact h)] at hj; cases hj
      rw [add_at, ← hj, tokVals_at _ _ _ hjl]
      have hc := hP (j / 3) (by omega)
      by_cases e0 : j % 3 = 0
      · rw [if_pos e0, show off + j = off + j / 3 * 3 by omega]; exact hc.1
      · rw [if_neg e0]
        by_cases e1 : j % 3 = 1
        · rw [if_pos e1, show off + j = off + j / 3 * 3 + 1 by omega]; exact hc.2.1
        · rw [if_neg e1, show off + j = off + j / 3 * 3 + 2 by omega]; exact hc.2.2.1
    have h1 : ∀ u ∈ tokVals t len, u.oneCell' = true := fun u hu => by
      obtain ⟨i, _, rfl⟩ := List.mem_map.1 hu
      split
      · rfl
      · split <;> rfl
    have HQ : Hid (∀ i, i < len → t.b i < 256 ∧ (-9223372036854775808 ≤ t.l i ∧ t.l i ≤ 9223372036854775807) ∧ (-9223372036854775808 ≤ t.d i ∧ t.d i ≤ 9223372036854775807)) := fun i hi => (hP i hi).2.2.2
    have Hi := hide hi
    have Hz0 := hide hz0
    have Hz1 := hide hz1
    have Hz2 := hide hz2
    have Hn := hide hnews
    have H1 := hide h1
    clear hi hz0 hz1 hz2 hnews h1 hP
    go_enter Tryd.func26, Tryd.ntmps26
    go_wp2_with (at_builtin; refine wpList_append_lies _ rfl (.tmp 4) (.tmp 5) 51 rfl w.heap.size 98 i0 (.agg #[.int .u8 0, .int .i64 0, .int .i64 0]) 3 24 Tryd.underlying51 (unhide Hi) (unhide Hz0) (unhide Hz1) (unhide Hz2) rfl (by omega) (.slice none 0 0) 0 [] rfl (World.ownsRow_nil _ _ _ _) ⟨b, off, none⟩ len cap (tokVals t len) rfl (by rw [tokVals_length]) (unhide Hn) (unhide H1) (by omega) (by unfold maxLen; omega) (by omega) (Nat.le_refl _) _ rfl ?_)
    intro g cap2 w1 hown1 hgrow hat hlt1
    have hb1 : Below w.heap.size w w1 := (Below.refl _ _).grown hgrow (Nat.le_refl _) (fun k e => by simp [Value.ownBlock] at e)
    have HT : Hid (IsTokens w1 (some ⟨g, 0, none⟩) len t) := by
      refine .inr ⟨g, 0, rfl, hm, fun i hi => ?_⟩
      simp only [Nat.zero_add] at hown1 ⊢
      have q0 := hown1.cellAt (i * 3) (by omega)
      have q1 := hown1.cellAt (i * 3 + 1) (by omega)
      have q2 := hown1.cellAt (i * 3 + 2) (by omega)
      rw [tokVals_at _ _ _ (by omega), if_pos (by omega), show i * 3 / 3 = i by omega] at q0
      rw [tokVals_at _ _ _ (by omega), if_neg (by omega), if_pos (by omega), show (i * 3 + 1) / 3 = i by omega] at q1
      rw [tokVals_at _ _ _ (by omega), if_neg (by omega), if_neg (by omega), show (i * 3 + 2) / 3 = i by omega] at q2
      exact ⟨q0, q1, q2, unhide HQ i hi⟩
    clear hown1 hgrow hat hlt1
    go_wp2
    go_ret
    exact ⟨_, _, rfl, unhide HT, hb1⟩


set_option maxHeartbeats 2000000 in
theorem wide_any (ao : Option Addr) (len cap : Nat) (t : Tks) (w : World) (hP : IsTokens w ao len t) :
    Calls Tryd.prog 24 #[.slice ao len cap] w fun e w' => e = .returned (.bool (decide (len ≤ 300 ∧ t.wide len ≤ 6000))) ∧ w' = w := by
  have HP := hide hP
  clear hP
  go_enter Tryd.func24, Tryd.ntmps24
  go_wp2
  go_loop [3, 4] (fun s i => ∃ (k : Nat) (x : Int), k ≤ len ∧ i = .int .i64 (k : Int) ∧ s = .int .i64 x ∧ Hid (k ≤ 300 → x = t.wide k) ∧ (-9223372036854775808 ≤ x ∧ x ≤ 9223372036854775807)) (fun _ i => len - (intOf i).toNat)
  case atStart => exact ⟨0, 0, by omega, rfl, rfl, fun _ => rfl, by omega⟩
  case round =>
    obtain ⟨k, x, hk, rfl, rfl, HX, hx1, hx2⟩ := hrel
    by_cases hlt : k < len
    · have g1 : decide ((k : Int) < (len : Int)) = true := by simp; omega
      have hki : (k : Int) < (len : Int) := by omega
      rcases unhide HP with h0 | ⟨bb, off, rfl, hm, hc⟩
      · omega
      unfold maxLen at hm
      obtain ⟨_, c1, _, _, ⟨hl1, hl2⟩, _⟩ := hc k hlt
      have HNX : Hid (t.wide (k + 1) = t.wide k + if 0 < t.l k ∧ t.l k ≤ 258 then t.l k else 0) := rfl
      have hwl := t.wide_le k
      generalize t.l k = l at *
      clear hc
      by_cases h1 : 0 < l
      · have e1 : decide (l > 0) = true := by simpa using h1
        have e1' : decide (0 < l) = true := e1
        by_cases h2 : l ≤ 258
        · have e2 : decide (l ≤ 258) = true := by simpa using h2
          rw [if_pos ⟨h1, h2⟩] at HNX
          by_cases h3 : k < 300
          · have hxx := unhide HX (by omega)
            have hy : x + l ≤ 9000000000000000000 := by omega
            have HY : Hid (x + l = t.wide (k + 1)) := by show _ = _; rw [unhide HNX, hxx]
            clear hxx hwl
            go_wp2
            go_round
            case rel => exact ⟨k + 1, _, by omega, by go_num, rfl, fun _ => unhide HY, by omega⟩
            case measure => simp [intOf]; omega
          · obtain ⟨y, hy⟩ : ∃ y, y = IntKind.i64.wrap (x + l) := ⟨_, rfl⟩
            have hyb : -9223372036854775808 ≤ y ∧ y ≤ 9223372036854775807 := by rw [hy, IntKind.wrap_i64]; omega
            have hyw : IntKind.i64.wrap (x + l) = y := hy.symm
            clear hy hwl
            go_wp2
            go_round
            case rel => exact ⟨k + 1, _, by omega, by go_num, rfl, fun q => by omega, hyb⟩
            case measure => simp [intOf]; omega
        · have e2 : decide (l ≤ 258) = false := by simpa using h2
          rw [if_neg (fun h => h2 h.2)] at HNX
          go_wp2
          go_round
          case rel => exact ⟨k + 1, x, by omega, by go_num, rfl, fun q => by have := unhide HX (by omega); have := unhide HNX; omega, by omega⟩
          case measure => simp [intOf]; omega
      · have e1 : decide (l > 0) = false := by simpa using h1
        have e1' : decide (0 < l) = false := e1
        rw [if_neg (fun h => h1 h.1)] at HNX
        go_wp2
        go_round
        case rel => exact ⟨k + 1, x, by omega, by go_num, rfl, fun q => by have := unhide HX (by omega); have := unhide HNX; omega, by omega⟩
        case measure => simp [intOf]; omega
    · have : k = len := by omega
      subst this
      have g1 : decide ((k : Int) < (k : Int)) = false := by simp
      by_cases h1 : k ≤ 300
      · have e1 : decide ((k : Int) ≤ 300) = true := by simp; omega
        have e1' : decide (k ≤ 300) = true := by simpa using h1
        go_wp2
        go_ret
        exact ⟨ret_bool (by rw [unhide HX h1]), rfl⟩
      · have e1 : decide ((k : Int) ≤ 300) = false := by simp; omega
        have e1' : decide (k ≤ 300) = false := by simpa using h1
        go_wp2
        go_ret
        exact ⟨rfl, rfl⟩

/-- layercakelaw1.faulted, of a pointer to api.Fault. -/
theorem faulted_at (q i c : Nat) (w : World) (a : Nat → Addr) (hS : Sent w a) (hi : c < 9) (h0 : w.cell? ⟨q, 0, none⟩ = some (.int .i64 (i : Int))) (h1 : w.cell? ⟨q, 1, none⟩ = some (sentV a c)) :
    Calls Tryd.prog 28 #[.iface 104 (.pointer (some ⟨q, 0, none⟩)), .agg #[.int .i64 ((c : Int) + 1), .int .i64 (i : Int)]] w fun e w' => e = .returned (.bool true) ∧ Below w.heap.size w w' := by
  have hb0 : Below w.heap.size w (w.alloc (.cells #[.int .i64 ((c : Int) + 1), .int .i64 (i : Int)] 61)) := (Below.refl _ _).alloc (Nat.le_refl _) _
  have hq := cells_lt h0
  have HC := hide (code_fault q 0 (i : Int) c (w.alloc (.cells #[.int .i64 ((c : Int) + 1), .int .i64 (i : Int)] 61)) a (hS.below hb0) hi ((hb0.cell (p := ⟨q, 0, none⟩) hq).trans h0) ((hb0.cell (p := ⟨q, 0 + 1, none⟩) hq).trans h1))
  have f0 : (w.alloc (.cells #[.int .i64 ((c : Int) + 1), .int .i64 (i : Int)] 61)).cell? ⟨w.heap.size, 0, none⟩ = some (.int .i64 ((c : Int) + 1)) := by simp
  have f1 : (w.alloc (.cells #[.int .i64 ((c : Int) + 1), .int .i64 (i : Int)] 61)).cell? ⟨w.heap.size, 1, none⟩ = some (.int .i64 (i : Int)) := by simp
  have hz : w.heap.size < (w.alloc (.cells #[.int .i64 ((c : Int) + 1), .int .i64 (i : Int)] 61)).heap.size := by simp
  have c0 : (((c : Int) + 1) == 0) = false := by simp; omega
  clear hS h0 h1
  go_enter Tryd.func28, Tryd.ntmps28
  go_wp2_with fail
  refine (unhide HC).mono ?_
  generalize w.alloc (.cells #[.int .i64 ((c : Int) + 1), .int .i64 (i : Int)] 61) = w0 at *
  rintro e w1 ⟨rfl, hb1⟩
  have k0 := (hb1.cell (p := ⟨w.heap.size, 0, none⟩) hz).trans f0
  have k1 := (hb1.cell (p := ⟨w.heap.size, 1, none⟩) hz).trans f1
  have hbw : Below w.heap.size w w1 := hb0.trans (hb1.mono hb0.size)
  clear HC hb1 hb0 f0 f1 hz
  go_wp2
  go_ret
  exact ⟨rfl, hbw⟩
end Go.Proofs.YtkpgfdhljpdidacDoor
