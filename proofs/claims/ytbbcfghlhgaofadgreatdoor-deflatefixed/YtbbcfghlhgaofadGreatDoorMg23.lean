/- Walks of the statement's helpers: a copy of tokens; are they few? an error's number and place. Walks of the program's reader of packed texts: lengths of a dynamic block, one run. -/
import Derived.Test.YtbbcfghlhgaofadGreatDoorMx4
import Derived.Test.YtbbcfghlhgaofadGreatDoorCode
import Derived.Deep.AppendLies
import Derived.Test.YtbbcfghlhgaofadGreatDoorMg21
namespace Go.Proofs.YtbbcfghlhgaofadGreatDoor
open Go.RowKit

def tokVals (t : Tks) (len : Nat) : List Value := (List.range (len * 3)).map fun j => if j % 3 = 0 then .int .u8 (t.b (j / 3) : Nat) else if j % 3 = 1 then .int .i64 (t.l (j / 3)) else .int .i64 (t.d (j / 3))
theorem tokVals_length (t : Tks) (len : Nat) : (tokVals t len).length = len * 3 := by simp [tokVals]
theorem tokVals_at (t : Tks) (len j : Nat) (h : j < len * 3) : (tokVals t len)[j]? = some (if j % 3 = 0 then .int .u8 (t.b (j / 3) : Nat) else if j % 3 = 1 then .int .i64 (t.l (j / 3)) else .int .i64 (t.d (j / 3))) := by
  unfold tokVals
  rw [List.getElem?_map, List.getElem?_range h]
  rfl

theorem wpList_append_eq2 (w : World) {ops : Array Oper} {rest : List Oper} {o : Oper} {a : Act} {Q : Exit → Act → World → Prop} (hgd : o.guard = none) (s x : Operand) (t : TypeId)
    (ho : o.op = .call { callee := .builtin .append, args := #[s, x], argTypes := #[t, t] }) (v u r : Value) (hs : a.eval s = v) (hx : a.eval x = u)
    (hr : (Builtin.append_ #[t, t] o.type #[v, u]).run Tryz.prog w = .ok r w) (h : wpList Tryz.prog ops Q rest (a.put o.dst r) w) : wpList Tryz.prog ops Q (o :: rest) a w :=
  wpList_plain hgd fun _ hK => by
    unfold Oper.wp execOp
    simp only [ho, resolve, invoke, builtin, Sem.run_bind, Sem.run_pure, Result.andThen_ok, List.map_toArray, List.map_cons, List.map_nil, hs, hx, hr]
    exact hK _ _ h

theorem tok_none (w : World) (ao : Option Addr) (cap : Nat) : (Builtin.append_ #[22, 22] 22 #[.slice none 0 0, .slice ao 0 cap]).run Tryz.prog w = .ok (.slice none 0 0) w := by
  cases ao <;> kernel_rfl

theorem info_tok2 : (Tryz.prog.info? 51).map (fun i => (i.zero, i.size, i.bytes)) = some (some (.agg #[.int .u8 0, .int .i64 0, .int .i64 0]), 3, 24) := by kernel_rfl
theorem add_at (g o j : Nat) : (⟨g, o, none⟩ : Addr).add j = ⟨g, o + j, none⟩ := by unfold Addr.add; split <;> simp_all

/-- layercakelaw1.tokens: a copy in new memory. -/
theorem tokens_copy (ao : Option Addr) (len cap : Nat) (t : Tks) (w : World) (hP : IsTokens w ao len t) (hlen : len ≤ 100000) :
    Calls Tryz.prog 9 #[.slice ao len cap] w fun e w' => ∃ a c, e = .returned (.slice a len c) ∧ IsTokens w' a len t ∧ Below w.heap.size w w' := by
  obtain ⟨i0, hi, hz0, hz1, hz2⟩ := info_parts info_tok2
  by_cases h0 : len = 0
  · subst h0
    have Hc := hide (tok_none w ao cap)
    clear hP
    go_enter Tryz.func9, Tryz.ntmps9
    go_wp2_with (at_builtin; refine wpList_append_eq2 _ rfl (.tmp 4) (.tmp 5) 22 rfl (.slice none 0 0) (.slice ao 0 cap) (.slice none 0 0) rfl rfl (unhide Hc) ?_)
    go_wp2
    go_ret
    exact ⟨_, _, rfl, .inl rfl, Below.refl _ _⟩
  · rcases hP with h | ⟨b, off, rfl, hm, hP⟩
    · exact absurd h h0
    have hnews : ∀ j u, (tokVals t len)[j]? = some u → w.cell? ((⟨b, off, none⟩ : Addr).add j) = some u := fun j u hj => by
      have hjl : j < len * 3 := by
        rcases Nat.lt_or_ge j (len * 3) with h | h
        · exact h
        · rw [List.getElem?_eq_none (by rw [tokVals_length]; exact h)] at hj; cases hj
      rw [add_at, ← hj, tokVals_at _ _ _ hjl]
      have hc := hP (j / 3) (by omega)
      by_cases e0 : j % 3 = 0
      · rw [if_pos e0, show off + j = off + j / 3 * 3 by omega]; exact hc.1
      · rw [if_neg e0]
        by_cases e1 : j % 3 = 1
        · rw [if_pos e1, show off + j = off + j / 3 * 3 + 1 by omega]; exact hc.2.1
        · rw [if_neg e1, show off + j = off + j / 3 * 3 + 2 by omega]; exact hc.2.2.1
    have h1 : ∀ u ∈ tokVals t len, u.oneCell' = true := fun u hu => by
      obtain ⟨i, _, rfl⟩ := List.mem_map.1 hu
      split
      · rfl
      · split <;> rfl
    have HQ : Hid (∀ i, i < len → t.b i < 256 ∧ (-9223372036854775808 ≤ t.l i ∧ t.l i ≤ 9223372036854775807) ∧ (-9223372036854775808 ≤ t.d i ∧ t.d i ≤ 9223372036854775807)) := fun i hi => (hP i hi).2.2.2
    have Hi := hide hi
    have Hz0 := hide hz0
    have Hz1 := hide hz1
    have Hz2 := hide hz2
    have Hn := hide hnews
    have H1 := hide h1
    clear hi hz0 hz1 hz2 hnews h1 hP
    go_enter Tryz.func9, Tryz.ntmps9
    go_wp2_with (at_builtin; refine wpList_append_lies _ rfl (.tmp 4) (.tmp 5) 22 rfl w.heap.size 51 i0 (.agg #[.int .u8 0, .int .i64 0, .int .i64 0]) 3 24 Tryz.underlying22 (unhide Hi) (unhide Hz0) (unhide Hz1) (unhide Hz2) rfl (by omega) (.slice none 0 0) 0 [] rfl (World.ownsRow_nil _ _ _ _) ⟨b, off, none⟩ len cap (tokVals t len) rfl (by rw [tokVals_length]) (unhide Hn) (unhide H1) (by omega) (by unfold maxLen; omega) (by omega) (Nat.le_refl _) _ rfl ?_)
    intro g cap2 w1 hown1 hgrow hat hlt1
    have hb1 : Below w.heap.size w w1 := (Below.refl _ _).grown hgrow (Nat.le_refl _) (fun k e => by simp [Value.ownBlock] at e)
    have HT : Hid (IsTokens w1 (some ⟨g, 0, none⟩) len t) := by
      refine .inr ⟨g, 0, rfl, hm, fun i hi => ?_⟩
      simp only [Nat.zero_add] at hown1 ⊢
      have q0 := hown1.cellAt (i * 3) (by omega)
      have q1 := hown1.cellAt (i * 3 + 1) (by omega)
      have q2 := hown1.cellAt (i * 3 + 2) (by omega)
      rw [tokVals_at _ _ _ (by omega), if_pos (by omega), show i * 3 / 3 = i by omega] at q0
      rw [tokVals_at _ _ _ (by omega), if_neg (by omega), if_pos (by omega), show (i * 3 + 1) / 3 = i by omega] at q1
      rw [tokVals_at _ _ _ (by omega), if_neg (by omega), if_neg (by omega), show (i * 3 + 2) / 3 = i by omega] at q2
      exact ⟨q0, q1, q2, unhide HQ i hi⟩
    clear hown1 hgrow hat hlt1
    go_wp2
    go_ret
    exact ⟨_, _, rfl, unhide HT, hb1⟩


set_option maxHeartbeats 2000000 in
theorem wide_any (ao : Option Addr) (len cap : Nat) (t : Tks) (w : World) (hP : IsTokens w ao len t) :
    Calls Tryz.prog 7 #[.slice ao len cap] w fun e w' => e = .returned (.bool (decide (len ≤ 300 ∧ t.wide len ≤ 6000))) ∧ w' = w := by
  have HP := hide hP
  clear hP
  go_enter Tryz.func7, Tryz.ntmps7
  go_wp2
  go_loop [3, 4] (fun s i => ∃ (k : Nat) (x : Int), k ≤ len ∧ i = .int .i64 (k : Int) ∧ s = .int .i64 x ∧ Hid (k ≤ 300 → x = t.wide k) ∧ (-9223372036854775808 ≤ x ∧ x ≤ 9223372036854775807)) (fun _ i => len - (intOf i).toNat)
  case atStart => exact ⟨0, 0, by omega, rfl, rfl, fun _ => rfl, by omega⟩
  case round =>
    obtain ⟨k, x, hk, rfl, rfl, HX, hx1, hx2⟩ := hrel
    by_cases hlt : k < len
    · have g1 : decide ((k : Int) < (len : Int)) = true := by simp; omega
      have hki : (k : Int) < (len : Int) := by omega
      rcases unhide HP with h0 | ⟨bb, off, rfl, hm, hc⟩
      · omega
      unfold maxLen at hm
      obtain ⟨_, c1, _, _, ⟨hl1, hl2⟩, _⟩ := hc k hlt
      have HNX : Hid (t.wide (k + 1) = t.wide k + if 0 < t.l k ∧ t.l k ≤ 258 then t.l k else 0) := rfl
      have hwl := t.wide_le k
      generalize t.l k = l at *
      clear hc
      by_cases h1 : 0 < l
      · have e1 : decide (l > 0) = true := by simpa using h1
        have e1' : decide (0 < l) = true := e1
        by_cases h2 : l ≤ 258
        · have e2 : decide (l ≤ 258) = true := by simpa using h2
          rw [if_pos ⟨h1, h2⟩] at HNX
          by_cases h3 : k < 300
          · have hxx := unhide HX (by omega)
            have hy : x + l ≤ 9000000000000000000 := by omega
            have HY : Hid (x + l = t.wide (k + 1)) := by show _ = _; rw [unhide HNX, hxx]
            clear hxx hwl
            go_wp2
            go_round
            case rel => exact ⟨k + 1, _, by omega, by go_num, rfl, fun _ => unhide HY, by omega⟩
            case measure => simp [intOf]; omega
          · obtain ⟨y, hy⟩ : ∃ y, y = IntKind.i64.wrap (x + l) := ⟨_, rfl⟩
            have hyb : -9223372036854775808 ≤ y ∧ y ≤ 9223372036854775807 := by rw [hy, IntKind.wrap_i64]; omega
            have hyw : IntKind.i64.wrap (x + l) = y := hy.symm
            clear hy hwl
            go_wp2
            go_round
            case rel => exact ⟨k + 1, _, by omega, by go_num, rfl, fun q => by omega, hyb⟩
            case measure => simp [intOf]; omega
        · have e2 : decide (l ≤ 258) = false := by simpa using h2
          rw [if_neg (fun h => h2 h.2)] at HNX
          go_wp2
          go_round
          case rel => exact ⟨k + 1, x, by omega, by go_num, rfl, fun q => by have := unhide HX (by omega); have := unhide HNX; omega, by omega⟩
          case measure => simp [intOf]; omega
      · have e1 : decide (l > 0) = false := by simpa using h1
        have e1' : decide (0 < l) = false := e1
        rw [if_neg (fun h => h1 h.1)] at HNX
        go_wp2
        go_round
        case rel => exact ⟨k + 1, x, by omega, by go_num, rfl, fun q => by have := unhide HX (by omega); have := unhide HNX; omega, by omega⟩
        case measure => simp [intOf]; omega
    · have : k = len := by omega
      subst this
      have g1 : decide ((k : Int) < (k : Int)) = false := by simp
      by_cases h1 : k ≤ 300
      · have e1 : decide ((k : Int) ≤ 300) = true := by simp; omega
        have e1' : decide (k ≤ 300) = true := by simpa using h1
        go_wp2
        go_ret
        exact ⟨ret_bool (by rw [unhide HX h1]), rfl⟩
      · have e1 : decide ((k : Int) ≤ 300) = false := by simp; omega
        have e1' : decide (k ≤ 300) = false := by simpa using h1
        go_wp2
        go_ret
        exact ⟨rfl, rfl⟩

/-- layercakelaw1.faulted, of a pointer to api.Fault. -/
theorem faulted_at (q i c : Nat) (w : World) (a : Nat → Addr) (hS : Sent w a) (hi : c < 9) (h0 : w.cell? ⟨q, 0, none⟩ = some (.int .i64 (i : Int))) (h1 : w.cell? ⟨q, 1, none⟩ = some (sentV a c)) :
    Calls Tryz.prog 11 #[.iface 106 (.pointer (some ⟨q, 0, none⟩)), .agg #[.int .i64 ((c : Int) + 1), .int .i64 (i : Int)]] w fun e w' => e = .returned (.bool true) ∧ Below w.heap.size w w' := by
  have hb0 : Below w.heap.size w (w.alloc (.cells #[.int .i64 ((c : Int) + 1), .int .i64 (i : Int)] 31)) := (Below.refl _ _).alloc (Nat.le_refl _) _
  have hq := cells_lt h0
  have HC := hide (code_fault q 0 (i : Int) c (w.alloc (.cells #[.int .i64 ((c : Int) + 1), .int .i64 (i : Int)] 31)) a (hS.below hb0) hi ((hb0.cell (p := ⟨q, 0, none⟩) hq).trans h0) ((hb0.cell (p := ⟨q, 0 + 1, none⟩) hq).trans h1))
  have f0 : (w.alloc (.cells #[.int .i64 ((c : Int) + 1), .int .i64 (i : Int)] 31)).cell? ⟨w.heap.size, 0, none⟩ = some (.int .i64 ((c : Int) + 1)) := by simp
  have f1 : (w.alloc (.cells #[.int .i64 ((c : Int) + 1), .int .i64 (i : Int)] 31)).cell? ⟨w.heap.size, 1, none⟩ = some (.int .i64 (i : Int)) := by simp
  have hz : w.heap.size < (w.alloc (.cells #[.int .i64 ((c : Int) + 1), .int .i64 (i : Int)] 31)).heap.size := by simp
  have c0 : (((c : Int) + 1) == 0) = false := by simp; omega
  clear hS h0 h1
  go_enter Tryz.func11, Tryz.ntmps11
  go_wp2_with fail
  refine (unhide HC).mono ?_
  generalize w.alloc (.cells #[.int .i64 ((c : Int) + 1), .int .i64 (i : Int)] 31) = w0 at *
  rintro e w1 ⟨rfl, hb1⟩
  have k0 := (hb1.cell (p := ⟨w.heap.size, 0, none⟩) hz).trans f0
  have k1 := (hb1.cell (p := ⟨w.heap.size, 1, none⟩) hz).trans f1
  have hbw : Below w.heap.size w w1 := hb0.trans (hb1.mono hb0.size)
  clear HC hb1 hb0 f0 f1 hz
  go_wp2
  go_ret
  exact ⟨rfl, hbw⟩
end Go.Proofs.YtbbcfghlhgaofadGreatDoor
namespace Go.Proofs.YtbbcfghlhgaofadGreatDoor
open Go.RowKit Pm Cn Cd Nf

section
variable {P p : Nat} {s : ByteArray} {k : Nat} {out : List UInt8} {most : Nat} {fx : Value} {t : TypeId} {xT xB xS : Value}

theorem num_any (d : Nat) (w : World) (h : IA w P p s k out most fx) (hG : Gl w t xT xB xS) (hd : d ≤ 16) :
    Calls Tryz.prog 71 #[.pointer (some ⟨P, 0, none⟩), .int .i64 (d : Int)] w fun e w' =>
      (∃ x, get (tv s) (8 * s.size) k d = some x ∧ x < 65536 ∧ e = .returned (.int .i64 (x : Nat)) ∧ IA w' P p s (k + d) out most fx ∧ Gl w' t xT xB xS ∧ But (· = p) w w' ∧ rowT w' P = rowT w P) ∨
      (get (tv s) (8 * s.size) k d = none ∧ e = .panicked (thrown t xT) ∧ Below p w w') := by
  have hlt := h.lt
  have hpP := h.ltp
  refine (number_any d w h hG (by omega)).mono ?_
  rintro e w' (⟨hf, rfl, hI, hb, hr⟩ | ⟨hf, rfl, hb⟩)
  · exact .inl ⟨_, get_some hf, Nat.lt_of_lt_of_le (Nat.mod_lt _ (Nat.two_pow_pos _)) (Nat.pow_le_pow_right (n := 2) (j := 16) (by omega) hd), rfl, hI, hG.bits hb h, hb, hr⟩
  · exact .inr ⟨get_none hf, rfl, hb.below (by omega) (fun i hi q => by omega)⟩

/-- What a symbol of the code of lengths means behind a row: which length, how often, and how many bits; or nothing. -/
def runOf (V nb k i : Nat) (row : List Nat) : Option (Nat × Nat × Nat) :=
  if i < 16 then some (i, 1, 0)
  else if i = 16 ∧ row.length = 0 then none
  else match get V nb k (againBits i) with
    | none => none
    | some x => some (againOf i row, againFrom i + x, againBits i)

set_option maxHeartbeats 2000000 in
set_option maxRecDepth 100000 in
theorem run_any (i : Nat) (row : List Nat) (v : Value) (base : Nat) (w : World) (h : IA w P p s k out most fx) (hG : Gl w t xT xB xS) (hi : i < 19) (hrow : w.ownsRow base 3 1 v row.length (natVals row)) (_hbase : P < base) (hsm : ∀ x ∈ row, x ≤ 15) (hln : row.length ≤ 1000) :
    Calls Tryz.prog 150 #[.pointer (some ⟨P, 0, none⟩), .int .i64 (i : Int), v] w fun e w' =>
      (∃ q : Nat × Nat × Nat, runOf (tv s) (8 * s.size) k i row = some q ∧ q.1 ≤ 15 ∧ 1 ≤ q.2.1 ∧ q.2.1 ≤ 138 ∧ e = .returned (.tuple #[.int .i64 (q.1 : Nat), .int .i64 (q.2.1 : Nat)]) ∧ IA w' P p s (k + q.2.2) out most fx ∧ Gl w' t xT xB xS ∧ But (· = p) w w' ∧ rowT w' P = rowT w P) ∨
      (runOf (tv s) (8 * s.size) k i row = none ∧ e = .panicked (thrown t xT) ∧ Below p w w') := by
  obtain ⟨a0, c0, rfl, hg0⟩ := own_shape hrow
  have HI := hide h
  have HG := hide hG
  have ht := hG.text
  have hpP := h.ltp
  have hPl := h.lt
  have hleast : leastT i ≤ 11 ∧ 1 ≤ leastT i := by unfold leastT; split <;> (try split) <;> (try split) <;> omega
  have hwidth : widthT i ≤ 7 := by unfold widthT; split <;> (try split) <;> (try split) <;> omega
  have HTM := hide (times_any i w)
  have HN := hide (num_any (widthT i) w h hG (by omega))
  have HRO : Hid (∀ L : Nat, (16 ≤ i → L = againOf i row) → (i < 16 → L = i) → ¬ (i = 16 ∧ row.length = 0) → runOf (tv s) (8 * s.size) k i row = match get (tv s) (8 * s.size) k (widthT i) with | none => none | some x => some (L, leastT i + x, widthT i)) := fun L h1 h2 h3 => by
    unfold runOf
    by_cases h16 : i < 16
    · rw [if_pos h16, h2 h16]
      have e1 : widthT i = 0 := by unfold widthT; rw [if_neg (by omega), if_neg (by omega), if_neg (by omega)]
      have e2 : leastT i = 1 := by unfold leastT; rw [if_neg (by omega), if_neg (by omega), if_neg (by omega)]
      have hw0 := h.bits.within
      rw [e1, e2, get_some (by omega)]
      simp [Nat.mod_one]
    · rw [if_neg h16, if_neg h3, ← h1 (by omega)]
      rcases (show i = 16 ∨ i = 17 ∨ i = 18 by omega) with rfl | rfl | rfl <;> rfl
  have HXB : Hid (∀ x, get (tv s) (8 * s.size) k (widthT i) = some x → leastT i + x ≤ 138) := fun x hx => by
    have hxl : x < 2 ^ widthT i := by
      unfold Nf.get at hx; split at hx
      · injection hx with hx; rw [← hx]; exact Nat.mod_lt _ (Nat.two_pow_pos _)
      · cases hx
    rcases (show i < 16 ∨ i = 16 ∨ i = 17 ∨ i = 18 by omega) with h16 | rfl | rfl | rfl
    · have e1 : widthT i = 0 := by unfold widthT; rw [if_neg (by omega), if_neg (by omega), if_neg (by omega)]
      rw [e1] at hxl; simp at hxl; omega
    · have : x < 4 := hxl; have : leastT 16 = 3 := rfl; omega
    · have : x < 8 := hxl; have : leastT 17 = 3 := rfl; omega
    · have : x < 128 := hxl; have : leastT 18 = 11 := rfl; omega
  obtain ⟨lt, hlt⟩ : ∃ q, q = leastT i := ⟨_, rfl⟩
  obtain ⟨wt, hwt⟩ : ∃ q, q = widthT i := ⟨_, rfl⟩
  rw [← hlt] at hleast HTM HRO HXB
  rw [← hwt] at hwidth HTM HN HRO HXB
  clear hlt hwt h hG
  have HEND : Hid (∀ L : Nat, L ≤ 15 → runOf (tv s) (8 * s.size) k i row = (match get (tv s) (8 * s.size) k wt with | none => none | some x => some (L, lt + x, wt)) → ∀ x, get (tv s) (8 * s.size) k wt = some x → ∃ q : Nat × Nat × Nat, runOf (tv s) (8 * s.size) k i row = some q ∧ q.1 ≤ 15 ∧ 1 ≤ q.2.1 ∧ q.2.1 ≤ 138 ∧ q = (L, lt + x, wt)) := fun L hL he x hx => ⟨(L, lt + x, wt), by rw [he, hx], hL, by show 1 ≤ lt + x; omega, unhide HXB x hx, rfl⟩
  by_cases h16 : i < 16
  · have g1 : ((i : Int) == 16) = false := by simp; omega
    have g2 : ((i : Int) == 17) = false := by simp; omega
    have g3 : ((i : Int) == 18) = false := by simp; omega
    have HE := hide (unhide HEND i (by omega) (unhide HRO i (by omega) (fun _ => rfl) (by omega)))
    have HE2 := hide (unhide HRO i (by omega) (fun _ => rfl) (by omega))
    clear h16 hg0
    go_enter Tryz.func150, Tryz.ntmps150
    go_wp2_with fail
    refine (unhide HTM).mono ?_; rintro e w1 ⟨rfl, hw1⟩
    replace hw1 := hw1.symm
    subst hw1
    go_wp2_with fail
    refine (unhide HN).mono ?_
    rintro e w2 (⟨x, hx, hxl, rfl, hI1, hG1, hb1, hr1⟩ | ⟨hx, rfl, hb1⟩)
    · obtain ⟨q, hq1, hq2, hq3, hq4, rfl⟩ := unhide HE x hx
      have HQ := hide hq1
      have HI1 := hide hI1
      have HG1 := hide hG1
      have HQ4 := hide hq4; have HQ2 := hide hq2
      obtain ⟨y, hy⟩ : ∃ y, y = lt + x := ⟨_, rfl⟩
      have zy : (lt : Int) + (x : Int) = (y : Int) := by omega
      have hyl : y ≤ 138 := by rw [hy]; exact hq4
      have HY := hide hy
      clear hq1 hq2 hq3 hq4 hx hI1 hG1 HN HTM HE HE2 HEND HRO HXB hy
      go_wp2
      go_ret2
      exact .inl ⟨(i, lt + x, wt), unhide HQ, unhide HQ2, by show 1 ≤ lt + x; omega, unhide HQ4, by rw [← unhide HY]; rfl, unhide HI1, unhide HG1, hb1, hr1⟩
    · have HX : Hid (runOf (tv s) (8 * s.size) k i row = none) := by show _ = _; rw [unhide HE2, hx]
      clear hx HN HTM HE HE2 HEND HRO HXB
      go_wp2
      exact ⟨rfl, .inr ⟨unhide HX, rfl, hb1⟩⟩
  by_cases e17 : i = 17 ∨ i = 18
  · have g1 : ((i : Int) == 16) = false := by simp; omega
    have hz : againOf i row = 0 := by rcases e17 with rfl | rfl <;> rfl
    have HE := hide (unhide HEND 0 (by omega) (unhide HRO 0 (fun _ => hz.symm) (by omega) (by omega)))
    have HE2 := hide (unhide HRO 0 (fun _ => hz.symm) (by omega) (by omega))
    clear hg0 hz
    rcases e17 with rfl | rfl
    · go_enter Tryz.func150, Tryz.ntmps150
      go_wp2_with fail
      refine (unhide HTM).mono ?_; rintro e w1 ⟨rfl, hw1⟩
      replace hw1 := hw1.symm
      subst hw1
      go_wp2_with fail
      refine (unhide HN).mono ?_
      rintro e w2 (⟨x, hx, hxl, rfl, hI1, hG1, hb1, hr1⟩ | ⟨hx, rfl, hb1⟩)
      · obtain ⟨q, hq1, hq2, hq3, hq4, rfl⟩ := unhide HE x hx
        have HQ := hide hq1
        have HI1 := hide hI1
        have HG1 := hide hG1
        have HQ4 := hide hq4; have HQ2 := hide hq2
        obtain ⟨y, hy⟩ : ∃ y, y = lt + x := ⟨_, rfl⟩
        have zy : (lt : Int) + (x : Int) = (y : Int) := by omega
        have hyl : y ≤ 138 := by rw [hy]; exact hq4
        have HY := hide hy
        clear hq1 hq2 hq3 hq4 hx hI1 hG1 HN HTM HE HE2 HEND HRO HXB hy
        go_wp2
        go_ret2
        exact .inl ⟨(0, lt + x, wt), unhide HQ, unhide HQ2, by show 1 ≤ lt + x; omega, unhide HQ4, by rw [← unhide HY]; rfl, unhide HI1, unhide HG1, hb1, hr1⟩
      · have HX : Hid (runOf (tv s) (8 * s.size) k 17 row = none) := by show _ = _; rw [unhide HE2, hx]
        clear hx HN HTM HE HE2 HEND HRO HXB
        go_wp2
        exact ⟨rfl, .inr ⟨unhide HX, rfl, hb1⟩⟩
    · go_enter Tryz.func150, Tryz.ntmps150
      go_wp2_with fail
      refine (unhide HTM).mono ?_; rintro e w1 ⟨rfl, hw1⟩
      replace hw1 := hw1.symm
      subst hw1
      go_wp2_with fail
      refine (unhide HN).mono ?_
      rintro e w2 (⟨x, hx, hxl, rfl, hI1, hG1, hb1, hr1⟩ | ⟨hx, rfl, hb1⟩)
      · obtain ⟨q, hq1, hq2, hq3, hq4, rfl⟩ := unhide HE x hx
        have HQ := hide hq1
        have HI1 := hide hI1
        have HG1 := hide hG1
        have HQ4 := hide hq4; have HQ2 := hide hq2
        obtain ⟨y, hy⟩ : ∃ y, y = lt + x := ⟨_, rfl⟩
        have zy : (lt : Int) + (x : Int) = (y : Int) := by omega
        have hyl : y ≤ 138 := by rw [hy]; exact hq4
        have HY := hide hy
        clear hq1 hq2 hq3 hq4 hx hI1 hG1 HN HTM HE HE2 HEND HRO HXB hy
        go_wp2
        go_ret2
        exact .inl ⟨(0, lt + x, wt), unhide HQ, unhide HQ2, by show 1 ≤ lt + x; omega, unhide HQ4, by rw [← unhide HY]; rfl, unhide HI1, unhide HG1, hb1, hr1⟩
      · have HX : Hid (runOf (tv s) (8 * s.size) k 18 row = none) := by show _ = _; rw [unhide HE2, hx]
        clear hx HN HTM HE HE2 HEND HRO HXB
        go_wp2
        exact ⟨rfl, .inr ⟨unhide HX, rfl, hb1⟩⟩
  have e16 : i = 16 := by omega
  subst e16
  by_cases hr0 : row.length = 0
  · have HR : Hid (runOf (tv s) (8 * s.size) k 16 row = none) := by show _ = _; unfold runOf; rw [if_neg (by omega), if_pos ⟨rfl, hr0⟩]
    clear hg0
    rw [hr0] at hrow ⊢
    go_enter Tryz.func150, Tryz.ntmps150
    go_wp2_with fail
    refine (throw_any t xT _).mono ?_; rintro e w2 ⟨rfl, rfl⟩
    go_wp2
    exact ⟨rfl, .inr ⟨unhide HR, rfl, Below.refl _ _⟩⟩
  · have g1 : ((row.length : Int) == 0) = false := by clear hg0; simp only [beq_eq_false_iff_ne, ne_eq]; omega
    obtain ⟨g, rfl, hgb⟩ := hg0 (by clear hg0; omega)
    obtain ⟨ix, hix⟩ : ∃ q, q = row.length - 1 := ⟨_, rfl⟩
    have zix : (row.length : Int) - 1 = (ix : Int) := by omega
    have hixl : ix < row.length := by omega
    have hixi : (ix : Int) < (row.length : Int) := by omega
    obtain ⟨b, hbb⟩ : ∃ b, b = row[ix] := ⟨_, rfl⟩
    have cb : w.cell? ⟨g, ix, none⟩ = some (.int .i64 (b : Nat)) := by rw [own_cell hrow ix hixl, hbb]
    have hb15 : b ≤ 15 := by rw [hbb]; exact hsm _ (List.getElem_mem hixl)
    have e : againOf 16 row = b := by
      show row.getD (row.length - 1) 0 = b
      rw [← hix, hbb]
      simp [List.getElem?_eq_getElem hixl]
    have HE := hide (unhide HEND b hb15 (unhide HRO b (fun _ => e.symm) (by omega) (by omega)))
    have HE2 := hide (unhide HRO b (fun _ => e.symm) (by omega) (by omega))
    clear hrow hix hbb e hr0
    go_enter Tryz.func150, Tryz.ntmps150
    go_wp2_with fail
    refine (unhide HTM).mono ?_; rintro e w1 ⟨rfl, hw1⟩
    replace hw1 := hw1.symm
    subst hw1
    go_wp2_with fail
    refine (unhide HN).mono ?_
    rintro e w2 (⟨x, hx, hxl, rfl, hI1, hG1, hb1, hr1⟩ | ⟨hx, rfl, hb1⟩)
    · obtain ⟨q, hq1, hq2, hq3, hq4, rfl⟩ := unhide HE x hx
      have HQ := hide hq1
      have HI1 := hide hI1
      have HG1 := hide hG1
      have HQ4 := hide hq4; have HQ2 := hide hq2
      obtain ⟨y, hy⟩ : ∃ y, y = lt + x := ⟨_, rfl⟩
      have zy : (lt : Int) + (x : Int) = (y : Int) := by omega
      have hyl : y ≤ 138 := by rw [hy]; exact hq4
      have HY := hide hy
      clear hq1 hq2 hq3 hq4 hx hI1 hG1 HN HTM HE HE2 HEND HRO HXB hy
      go_wp2
      go_ret2
      exact .inl ⟨(b, lt + x, wt), unhide HQ, unhide HQ2, by show 1 ≤ lt + x; omega, unhide HQ4, by rw [← unhide HY]; rfl, unhide HI1, unhide HG1, hb1, hr1⟩
    · have HX : Hid (runOf (tv s) (8 * s.size) k 16 row = none) := by show _ = _; rw [unhide HE2, hx]
      clear hx HN HTM HE HE2 HEND HRO HXB
      go_wp2
      exact ⟨rfl, .inr ⟨unhide HX, rfl, hb1⟩⟩
end
end Go.Proofs.YtbbcfghlhgaofadGreatDoor
