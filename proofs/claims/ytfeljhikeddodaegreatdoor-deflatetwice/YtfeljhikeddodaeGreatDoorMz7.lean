/- Tokens of a text: the program's. -/
import Derived.Test.YtfeljhikeddodaeGreatDoorMg26
import Derived.Test.YtfeljhikeddodaeGreatDoorMg21
namespace Go.Proofs.YtfeljhikeddodaeGreatDoor
open Go.RowKit Mm

/-- A token by its numbers. -/
def tk (s : ByteArray) (a l b : Nat) : Nat × Nat × Nat := if l = 0 then (byt s a, 0, 0) else (0, l, b)
theorem tokV_is (s : ByteArray) (a l b : Nat) : tokV s a l b = .agg #[.int .u8 ((tk s a l b).1 : Int), .int .i64 ((tk s a l b).2.1 : Int), .int .i64 ((tk s a l b).2.2 : Int)] := by
  unfold tokV tk
  split <;> rfl
theorem tk_len (s : ByteArray) (a l b : Nat) : (tk s a l b).2.1 = l := by
  unfold tk
  split
  · rename_i h; exact h.symm
  · rfl
theorem tk_byte (s : ByteArray) (a l b : Nat) : (tk s a l b).1 < 256 := by
  unfold tk
  split
  · exact byt_lt _ _
  · exact Nat.zero_lt_succ _
theorem tk_far (s : ByteArray) (a l b k : Nat) (h : b ≤ k) : (tk s a l b).2.2 ≤ k := by
  unfold tk
  split
  · exact Nat.zero_le _
  · exact h
/-- Tokens that cover the first bytes of a text, the longest match each time. -/
inductive Cov (s : ByteArray) (win : Nat) : Nat → List (Nat × Nat × Nat) → Prop where
  | nil : Cov s win 0 []
  | snoc {a l b : Nat} {ts : List (Nat × Nat × Nat)} (h : Cov s win a ts) (ha : a < s.size) (hl : LgOk s win a l b) : Cov s win (a + max 1 l) (ts ++ [tk s a l b])
theorem LgOk.size {s : ByteArray} {win a l b : Nat} (h : LgOk s win a l b) (ha : a < s.size) : a + max 1 l ≤ s.size ∧ l ≤ 258 ∧ b ≤ a := by
  rcases h.good with ⟨h1, h2⟩ | ⟨h1, h2, h3, h4, h5, h6⟩ <;> omega
theorem Cov.greedy {s : ByteArray} {win a : Nat} {ts : List (Nat × Nat × Nat)} (hs : s.size ≤ 3000) (h : Cov s win a ts) : ∀ k, Greedy (s := byt s) (n := s.size) (W := win) a k → Greedy (s := byt s) (n := s.size) (W := win) 0 (ts.length + k) := by
  induction h with
  | nil => intro k hk; simpa using hk
  | @snoc a l b ts h ha hl ih =>
    intro k hk
    have hz := hl.size ha
    have := ih (k + 1) (.cons (by omega) hz.1 (fun r hr hM => by
      obtain ⟨f, f1, f2, f3, f4, f5⟩ := hM
      have := hl.best hs f f1 f2 r (by omega) f5 hr
      omega) hk)
    rw [List.length_append, List.length_singleton]
    rwa [show ts.length + 1 + k = ts.length + (k + 1) by omega]
theorem Cov.all {s : ByteArray} {win : Nat} {ts : List (Nat × Nat × Nat)} (hs : s.size ≤ 3000) (h : Cov s win s.size ts) : Greedy (s := byt s) (n := s.size) (W := win) 0 ts.length := Cov.greedy hs h 0 .nil
theorem Cov.few {s : ByteArray} {win a : Nat} {ts : List (Nat × Nat × Nat)} (h : Cov s win a ts) : ts.length ≤ a := by
  induction h with
  | nil => simp
  | snoc h ha hl ih => rw [List.length_append, List.length_singleton]; omega
/-! ### Rows of tokens -/
def tkVals : List (Nat × Nat × Nat) → List Value
  | [] => []
  | t :: ts => .int .u8 (t.1 : Int) :: .int .i64 (t.2.1 : Int) :: .int .i64 (t.2.2 : Int) :: tkVals ts
theorem tkVals_append (a b : List (Nat × Nat × Nat)) : tkVals (a ++ b) = tkVals a ++ tkVals b := by
  induction a with
  | nil => rfl
  | cons t a ih => simp [tkVals, ih]
theorem info_tk : (Tryz.prog.info? 38).map (fun i => (i.zero, i.size, i.bytes)) = some (some (.agg #[.int .u8 0, .int .i64 0, .int .i64 0]), 3, 24) := by kernel_rfl
theorem app_tk (w : World) (base q : Nat) (v : Value) (ts : List (Nat × Nat × Nat)) (x y z : Nat) (t : TypeId) (hown : w.ownsRow base 38 3 v ts.length (tkVals ts)) (h0 : w.cell? ⟨q, 0, none⟩ = some (.int .u8 (x : Int))) (h1 : w.cell? ⟨q, 1, none⟩ = some (.int .i64 (y : Int))) (h2 : w.cell? ⟨q, 2, none⟩ = some (.int .i64 (z : Int))) (hl : ts.length ≤ 1000000) (hb : base ≤ w.heap.size) :
    ∃ v' w', (Builtin.append_ #[23, 23] t #[v, .slice (some ⟨q, 0, none⟩) 1 1]).run Tryz.prog w = .ok v' w' ∧ w'.ownsRow base 38 3 v' (ts ++ [(x, y, z)]).length (tkVals (ts ++ [(x, y, z)])) ∧ w.grownBy w' v.ownBlock ∧ (v'.ownBlock = v.ownBlock ∨ v'.ownBlock = some w.heap.size) := by
  obtain ⟨i0, hi, hz0, hz1, hz2⟩ := info_parts info_tk
  obtain ⟨v', w', a1, a2, a3, _, a5⟩ := run_append_own_at (P := Tryz.prog) w base 23 t 38 i0 (.agg #[.int .u8 0, .int .i64 0, .int .i64 0]) 3 24 Tryz.underlying23 hi hz0 hz1 hz2 rfl (by omega) v ts.length (tkVals ts) hown ⟨q, 0, none⟩ 1 1 [.int .u8 (x : Int), .int .i64 (y : Int), .int .i64 (z : Int)] rfl (fun j u hj => by
    have hadd : (⟨q, 0, none⟩ : Addr).add j = ⟨q, j, none⟩ := by unfold Addr.add; split <;> simp_all
    rw [hadd]
    match j, hj with
    | 0, hj => rw [h0]; simpa using hj
    | 1, hj => rw [h1]; simpa using hj
    | 2, hj => rw [h2]; simpa using hj
    | j + 3, hj => simp at hj) (fun u hu => by
    simp only [List.mem_cons, List.not_mem_nil, or_false] at hu
    rcases hu with rfl | rfl | rfl <;> rfl) (by unfold maxLen; omega) (by omega) hb
  refine ⟨v', w', a1, ?_, a3, a5⟩
  rw [tkVals_append, List.length_append]
  exact a2
theorem wpList_appTk (w : World) {ops : Array Oper} {rest : List Oper} {o : Oper} {a : Act} {Q : Exit → Act → World → Prop} (hgd : o.guard = none) (s x : Operand)
    (ho : o.op = .call { callee := .builtin .append, args := #[s, x], argTypes := #[23, 23] }) (base q : Nat) (v : Value) (ts : List (Nat × Nat × Nat)) (x0 y0 z0 : Nat) (hs : a.eval s = v) (hx : a.eval x = .slice (some ⟨q, 0, none⟩) 1 1)
    (hown : w.ownsRow base 38 3 v ts.length (tkVals ts)) (h0 : w.cell? ⟨q, 0, none⟩ = some (.int .u8 (x0 : Int))) (h1 : w.cell? ⟨q, 1, none⟩ = some (.int .i64 (y0 : Int))) (h2 : w.cell? ⟨q, 2, none⟩ = some (.int .i64 (z0 : Int))) (hl : ts.length ≤ 1000000) (hb : base ≤ w.heap.size)
    (h : ∀ v' w', w'.ownsRow base 38 3 v' (ts ++ [(x0, y0, z0)]).length (tkVals (ts ++ [(x0, y0, z0)])) → w.grownBy w' v.ownBlock → (v'.ownBlock = v.ownBlock ∨ v'.ownBlock = some w.heap.size) → wpList Tryz.prog ops Q rest (a.put o.dst v') w') : wpList Tryz.prog ops Q (o :: rest) a w := by
  obtain ⟨v', w', a1, a2, a3, a5⟩ := app_tk w base q v ts x0 y0 z0 o.type hown h0 h1 h2 hl hb
  refine wpList_plain hgd fun _ hK => ?_
  unfold Oper.wp execOp
  simp only [ho, resolve, invoke, builtin, Sem.run_bind, Sem.run_pure, Result.andThen_ok, List.map_toArray, List.map_cons, List.map_nil, hs, hx, a1]
  exact hK _ _ (h v' w' a2 a3 a5)
theorem row_keep {w w' : World} {B n size : Nat} {t : TypeId} {vL : Value} {xs : List Value} (h : w.ownsRow B t size vL n xs) (hb : ∀ k, vL.ownBlock = some k → w'.heap[k]? = w.heap[k]?) : w'.ownsRow B t size vL n xs := by
  refine ⟨h.1, ?_⟩
  rcases h.2 with q | ⟨g, cap, cur, rfl, hg, hh, r⟩
  · exact .inl q
  · exact .inr ⟨g, cap, cur, rfl, hg, by rw [hb g rfl]; exact hh, r⟩
theorem row_shape {w : World} {base size n : Nat} {e : TypeId} {v : Value} {xs : List Value} (h : w.ownsRow base e size v n xs) : ∃ a c, v = .slice a n c := by
  rcases h.2 with ⟨rfl, rfl⟩ | ⟨g, c, cur, rfl, _⟩
  · exact ⟨none, 0, rfl⟩
  · exact ⟨_, c, rfl⟩
set_option maxHeartbeats 4000000 in
set_option maxRecDepth 100000 in
theorem tokens_in (s : ByteArray) (win : Nat) (w : World) (hs : s.size ≤ 20000) (h1 : 1 ≤ win) (h2 : win ≤ 32768) :
    Calls Tryz.prog 5 #[.string s, .int .i64 (win : Int)] w fun e w' => ∃ (ts : List (Nat × Nat × Nat)) (aL : Option Addr) (cL : Nat), e = .returned (.tuple #[.slice aL ts.length cL, .nilIface]) ∧ Cov s win s.size ts ∧ w'.ownsRow w.heap.size 38 3 (.slice aL ts.length cL) ts.length (tkVals ts) ∧ Below w.heap.size w w' := by
  have HBD := hide (bounded_yes s win w (by omega) h1 h2)
  have HNC := hide (newChains_any s win w hs)
  go_enter Tryz.func5, Tryz.ntmps5
  go_wp2_with fail
  refine (unhide HBD).mono ?_; rintro e w0 ⟨rfl, rfl⟩
  clear HBD
  go_wp2_with fail
  refine (unhide HNC).mono ?_; rintro e w1 ⟨c, bm, gb, rfl, hC, hb1, hc0, hm0, hg0⟩
  have HC1 := hide hC
  have HB1 := hide hb1
  have HO1 := hide (World.ownsRow_nil w1 w0.heap.size 38 3)
  have hz1 : w0.heap.size ≤ w1.heap.size := hb1.size
  clear hC hb1 HNC
  go_wp2
  go_loopw [6, 8] (fun lv av wr => ∃ (a n cL : Nat) (aL : Option Addr) (ts : List (Nat × Nat × Nat)), lv = .slice aL n cL ∧ Hid (n = ts.length) ∧ av = .int .i64 (a : Int) ∧ a ≤ s.size ∧ Hid (CH wr c bm gb s win a) ∧ Hid (Cov s win a ts) ∧ Hid (wr.ownsRow w0.heap.size 38 3 (.slice aL n cL) ts.length (tkVals ts)) ∧ Hid ((Value.slice aL n cL).ownBlock ≠ some c ∧ (Value.slice aL n cL).ownBlock ≠ some bm ∧ (Value.slice aL n cL).ownBlock ≠ some gb) ∧ Hid (Below w0.heap.size w0 wr) ∧ w0.heap.size ≤ wr.heap.size) (fun _ av _ => s.size - (intOf av).toNat)
  case atStart => exact ⟨0, 0, 0, none, [], rfl, rfl, rfl, by omega, HC1, .nil, HO1, ⟨by simp [Value.ownBlock], by simp [Value.ownBlock], by simp [Value.ownBlock]⟩, HB1, hz1⟩
  case round =>
    clear HC1 HO1 HB1 hz1
    obtain ⟨a, n, cL, aL, ts, rfl, Hn, rfl, ha, HC, HV, HO, HNE, HB, hwz⟩ := hrel
    by_cases hlt : a < s.size
    · have d1 : decide ((a : Int) < (s.size : Int)) = true := decide_eq_true (by omega)
      have d1n : decide (a < s.size) = true := decide_eq_true hlt
      have HX := hide (token_any c bm gb win a s wr (unhide HC) hs hlt h2)
      go_wp2_with fail
      refine (unhide HX).mono ?_; rintro e w2 ⟨l, b, rfl, hok, hb2⟩
      rw [tokV_is]
      have hsz := hok.size hlt
      obtain ⟨x, hx⟩ : ∃ x, x = (tk s a l b).1 := ⟨_, rfl⟩
      obtain ⟨y, hy⟩ : ∃ y, y = (tk s a l b).2.1 := ⟨_, rfl⟩
      obtain ⟨z, hz⟩ : ∃ z, z = (tk s a l b).2.2 := ⟨_, rfl⟩
      have htk : tk s a l b = (x, y, z) := by rw [hx, hy, hz]
      rw [← hx, ← hy, ← hz]
      have hyl : y = l := by rw [hy]; exact tk_len s a l b
      have hxl : x < 256 := by rw [hx]; exact tk_byte s a l b
      have hzl : z ≤ 20000 := by rw [hz]; exact tk_far s a l b 20000 (by omega)
      have HC2 := hide ((unhide HC).below hb2)
      have HO2 := hide (row_keep (unhide HO) (fun k e => hb2.block k ((unhide HO).lt k e).2))
      have HB2 := hide ((unhide HB).trans (hb2.mono hwz))
      have hz2 : w0.heap.size ≤ w2.heap.size := (unhide HB2).size
      have hlc := (unhide HC2).ltc
      have hlm := (unhide HC2).ltm
      have hlg := (unhide HC2).lt
      have HOK := hide hok
      have HTK := hide htk
      subst hyl
      clear hok hb2 hx hz htk HC HO HB HX hy
      obtain ⟨k0, k1, k2, _, _, _, hza⟩ := three_at w2 (.int .u8 (x : Int)) (.int .i64 (y : Int)) (.int .i64 (z : Int)) 38
      have hb3 : Below w2.heap.size w2 (w2.alloc (.cells #[.int .u8 (x : Int), .int .i64 (y : Int), .int .i64 (z : Int)] 38)) := (Below.refl _ _).alloc (Nat.le_refl _) _
      have HC3 := hide ((unhide HC2).below hb3)
      have HO3 := hide (row_keep (unhide HO2) (fun k e => hb3.block k ((unhide HO2).lt k e).2))
      have HB3 := hide ((unhide HB2).trans (hb3.mono hz2))
      have hqn : (Value.slice aL n cL).ownBlock ≠ some w2.heap.size := fun e => by have := ((unhide HO2).lt _ e).2; omega
      have Hqn := hide hqn
      obtain ⟨q, hq⟩ : ∃ q, q = w2.heap.size := ⟨_, rfl⟩
      obtain ⟨w3, hw3⟩ : ∃ w3, w3 = w2.alloc (.cells #[.int .u8 (x : Int), .int .i64 (y : Int), .int .i64 (z : Int)] 38) := ⟨_, rfl⟩
      rw [← hw3] at HC3 HO3 HB3 hza
      rw [← hw3, ← hq] at k0 k1 k2
      rw [← hq] at Hqn hza
      have hqc : q ≠ c := by omega
      have hqm : q ≠ bm := by omega
      have hqg : q ≠ gb := by omega
      have hw3e : w2.alloc (.cells #[.int .u8 (x : Int), .int .i64 (y : Int), .int .i64 (z : Int)] 38) = w3 := hw3.symm
      have hqe : w2.heap.size = q := hq.symm
      have hz3 : w0.heap.size ≤ w3.heap.size := (unhide HB3).size
      obtain ⟨j0, j1, j2, _, _, _, hz4⟩ := three_at w3 (.int .u8 (x : Int)) (.int .i64 (y : Int)) (.int .i64 (z : Int)) 38
      have HO4 := hide ((unhide HO3).alloc (.cells #[.int .u8 (x : Int), .int .i64 (y : Int), .int .i64 (z : Int)] 38))
      have hb4 : Below w3.heap.size w3 (w3.alloc (.cells #[.int .u8 (x : Int), .int .i64 (y : Int), .int .i64 (z : Int)] 38)) := (Below.refl _ _).alloc (Nat.le_refl _) _
      have HB4 := hide hb4
      have hlc3 := (unhide HC3).ltc
      have hlm3 := (unhide HC3).ltm
      have hlg3 := (unhide HC3).lt
      have hts : ts.length ≤ 20000 := by have := (unhide HV).few; omega
      rw [hza] at j0 j1 j2
      have hz5 : w0.heap.size ≤ (w3.alloc (.cells #[.int .u8 (x : Int), .int .i64 (y : Int), .int .i64 (z : Int)] 38)).heap.size := by omega
      clear hb3 HC2 HO2 HB2 hqn hw3 hq hlc hlm hlg hb4
      go_wp2_with (at_builtin; refine wpList_appTk _ rfl (.tmp 25) (.tmp 27) rfl w0.heap.size (q + 1) (.slice aL n cL) ts x y z rfl (by first | rfl | (simp [Act.eval]; done)) (unhide HO4) j0 j1 j2 (by omega) hz5 ?_)
      intro v5 w5 hown5 hgr5 hat5
      obtain ⟨hn1, hn2, hn3⟩ := unhide HNE
      have hs5 := hgr5.size
      have hblk : ∀ k, k < w3.heap.size → (Value.slice aL n cL).ownBlock ≠ some k → w5.heap[k]? = w3.heap[k]? := fun k hk hne => by
        rw [hgr5.block k (by omega) (fun e => hne e.symm)]
        exact (unhide HB4).block k hk
      have HC5 := hide ((unhide HC3).keep (hblk c hlc3 hn1) (hblk bm hlm3 hn2) (hblk gb hlg3 hn3) (by omega))
      have m0 := (World.cell?_of_block (a := ⟨q, 0, none⟩) (hblk q (by omega) (unhide Hqn))).trans k0
      have m1 := (World.cell?_of_block (a := ⟨q, 1, none⟩) (hblk q (by omega) (unhide Hqn))).trans k1
      have m2 := (World.cell?_of_block (a := ⟨q, 2, none⟩) (hblk q (by omega) (unhide Hqn))).trans k2
      have HB5 := hide (((unhide HB3).trans ((unhide HB4).mono hz3)).grown hgr5 hz5 (fun k e => ((unhide HO4).lt k e).1))
      have hln : (ts ++ [(x, y, z)]).length = ts.length + 1 := by simp
      obtain ⟨aM, cM, hvM⟩ := row_shape hown5
      obtain ⟨nM, hnM⟩ : ∃ nM, nM = (ts ++ [(x, y, z)]).length := ⟨_, rfl⟩
      have hown5' : w5.ownsRow w0.heap.size 38 3 v5 (ts ++ [(x, y, z)]).length (tkVals (ts ++ [(x, y, z)])) := by first | exact hown5 | (rw [hln]; exact hown5)
      have hvM' : v5 = .slice aM nM cM := by rw [hvM, hnM]; first | rfl | rw [hln]
      have hne5 : v5.ownBlock ≠ some c ∧ v5.ownBlock ≠ some bm ∧ v5.ownBlock ≠ some gb := by
        rcases hat5 with h | h
        · rw [h]; exact ⟨hn1, hn2, hn3⟩
        · refine ⟨fun e => ?_, fun e => ?_, fun e => ?_⟩
          all_goals
            rw [e] at h
            injection h with h
            omega
      clear hvM
      subst hvM'
      have HO5 := hide hown5'
      have HNE5 := hide hne5
      have HNM := hide hnM
      have hz6 : w0.heap.size ≤ w5.heap.size := (unhide HB5).size
      obtain ⟨mx, hmx⟩ : ∃ mx, mx = max 1 y := ⟨_, rfl⟩
      have HBO := hide (fun w => bytesOf_any x (y : Int) (z : Int) w (mx : Int) (by rw [hmx]; split <;> omega) (by omega))
      have HMX := hide hmx
      have hq5 : q < w5.heap.size := by omega
      clear hown5 hown5' hgr5 hat5 hblk hne5 hln hnM HO4 HB4 HO3 HC3 HB3 HNE j0 j1 j2 hz4 hz5 k0 k1 k2 hmx
      go_wp2_with fail
      refine (unhide HBO w5).mono ?_; rintro e w6 ⟨rfl, hb6⟩
      have HC6 := hide ((unhide HC5).below hb6)
      have HO6 := hide (row_keep (unhide HO5) (fun k e => hb6.block k ((unhide HO5).lt k e).2))
      have HB6 := hide ((unhide HB5).trans (hb6.mono hz6))
      have hmx1 : 1 ≤ mx ∧ a + mx ≤ s.size := by have := unhide HMX; omega
      clear hb6 HC5 HO5 HB5 HBO m0 m1 m2 hs5 hza hqc hqm hqg hw3e hqe hz3 hlc3 hlm3 hlg3 hn1 hn2 hn3 Hqn hq5 hz2 hz6 d1 d1n
      go_wp2
      go_loopw [8, 31] (fun av iv wq => ∃ i : Nat, iv = .int .i64 (i : Int) ∧ av = .int .i64 ((a + i : Nat) : Int) ∧ i ≤ mx ∧ Hid (CH wq c bm gb s win (a + i)) ∧ Hid (wq.ownsRow w0.heap.size 38 3 (.slice aM nM cM) (ts ++ [(x, y, z)]).length (tkVals (ts ++ [(x, y, z)]))) ∧ Hid (Below w0.heap.size w0 wq)) (fun _ iv _ => mx - (intOf iv).toNat)
      case atStart => exact ⟨0, rfl, rfl, by omega, HC6, HO6, HB6⟩
      case round =>
        clear HC6 HO6 HB6
        obtain ⟨i, rfl, rfl, hi, HC7, HO7, HB7⟩ := hrel
        by_cases hlt2 : i < mx
        · have d2 : decide ((i : Int) < (mx : Int)) = true := decide_eq_true (by omega)
          have d2n : decide (i < mx) = true := decide_eq_true hlt2
          have HX := hide (add_any c bm gb win (a + i) s _ (unhide HC7) hs (by omega))
          obtain ⟨p, hp⟩ : ∃ p, p = a + i := ⟨_, rfl⟩
          rw [← hp] at HX HC7
          have hpn : p < 20000 := by omega
          rw [← hp]
          have Hp := hide hp
          clear hp
          go_wp2_with fail
          refine (unhide HX).mono ?_; rintro e w8 ⟨rfl, hC8, hbu8⟩
          obtain ⟨e1, e2, e3⟩ := unhide HNE5
          have HC8 := hide hC8
          have HO8 := hide (row_keep (unhide HO7) (fun k e => hbu8.block k ((unhide HO7).lt k e).2 (fun q => by
            rcases q with q | q
            · subst q; exact e2 e
            · subst q; exact e3 e)))
          have HB8 := hide ((unhide HB7).trans (hbu8.below (unhide HB7).size (fun k hk q => by rcases q with q | q <;> omega)))
          clear hC8 hbu8 HC7 HO7 HB7 HX e1 e2 e3
          go_wp2
          go_roundw
          case rel =>
            have hp1 : a + (i + 1) = p + 1 := by have := unhide Hp; omega
            exact ⟨i + 1, by go_num, by rw [hp1]; go_num, by omega, by rw [hp1]; exact HC8, HO8, HB8⟩
          case measure => simp [intOf]; omega
        · obtain rfl : i = mx := by omega
          have d2 : decide ((i : Int) < (i : Int)) = false := by simp
          have hcov : Cov s win (a + i) (ts ++ [(x, y, z)]) := by
            rw [← unhide HTK, unhide HMX]
            exact .snoc (unhide HV) hlt (unhide HOK)
          have HV9 := hide hcov
          have hz9 := (unhide HB7).size
          clear hcov
          go_wp2
          go_roundw
          case rel => exact ⟨a + i, nM, cM, aM, ts ++ [(x, y, z)], rfl, HNM, rfl, by omega, HC7, HV9, HO7, HNE5, HB7, hz9⟩
          case measure => simp [intOf]; omega
    · obtain rfl : a = s.size := by omega
      have d1 : decide ((s.size : Int) < (s.size : Int)) = false := by simp
      have hn : n = ts.length := unhide Hn
      subst hn
      go_wp2
      go_ret2
      exact ⟨ts, aL, cL, rfl, unhide HV, unhide HO, unhide HB⟩
end Go.Proofs.YtfeljhikeddodaeGreatDoor
