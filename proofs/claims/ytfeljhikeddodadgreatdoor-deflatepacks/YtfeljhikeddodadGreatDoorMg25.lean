/- Tokens of a text: the program's. Tokens that cover a text mean it. What Tokens answers, as a row of tokens; Tokens and Fewest of windows that may not be. Walk: Deflate, of a text that is not long. One byte more of a text. Plain facts on ADLER's two sums over natural numbers. Walks of ADLER's functions, the program's and the document's. -/
import Derived.Test.YtfeljhikeddodadGreatDoorMg24
import Derived.Test.YtfeljhikeddodadGreatDoorMg21
import Derived.Test.YtfeljhikeddodadGreatDoorMg22
import Derived.Test.YtfeljhikeddodadGreatDoorChecked
import Derived.Test.YtfeljhikeddodadGreatDoorMg1
import Derived.WalkKit
import Derived.WalkLawsBesides
import Derived.WalkSpells
import Derived.Handy
import Derived.Laws.BitsAllLaws
import Derived.Laws.Shifts
import Derived.Deep.LoopGhost
namespace Go.Proofs.YtfeljhikeddodadGreatDoor
open Go.RowKit Mm

/-- A token by its numbers. -/
def tk (s : ByteArray) (a l b : Nat) : Nat × Nat × Nat := if l = 0 then (byt s a, 0, 0) else (0, l, b)
theorem tokV_is (s : ByteArray) (a l b : Nat) : tokV s a l b = .agg #[.int .u8 ((tk s a l b).1 : Int), .int .i64 ((tk s a l b).2.1 : Int), .int .i64 ((tk s a l b).2.2 : Int)] := by
  unfold tokV tk
  split <;> rfl
theorem tk_len (s : ByteArray) (a l b : Nat) : (tk s a l b).2.1 = l := by
  unfold tk
  split
  · rename_i h; exact h.symm
  · rfl
theorem tk_byte (s : ByteArray) (a l b : Nat) : (tk s a l b).1 < 256 := by
  unfold tk
  split
  · exact byt_lt _ _
  · exact Nat.zero_lt_succ _
theorem tk_far (s : ByteArray) (a l b k : Nat) (h : b ≤ k) : (tk s a l b).2.2 ≤ k := by
  unfold tk
  split
  · exact Nat.zero_le _
  · exact h
/-- Tokens that cover the first bytes of a text, the longest match each time. -/
inductive Cov (s : ByteArray) (win : Nat) : Nat → List (Nat × Nat × Nat) → Prop where
  | nil : Cov s win 0 []
  | snoc {a l b : Nat} {ts : List (Nat × Nat × Nat)} (h : Cov s win a ts) (ha : a < s.size) (hl : LgOk s win a l b) : Cov s win (a + max 1 l) (ts ++ [tk s a l b])
theorem LgOk.size {s : ByteArray} {win a l b : Nat} (h : LgOk s win a l b) (ha : a < s.size) : a + max 1 l ≤ s.size ∧ l ≤ 258 ∧ b ≤ a := by
  rcases h.good with ⟨h1, h2⟩ | ⟨h1, h2, h3, h4, h5, h6⟩ <;> omega
theorem Cov.greedy {s : ByteArray} {win a : Nat} {ts : List (Nat × Nat × Nat)} (hs : s.size ≤ 3000) (h : Cov s win a ts) : ∀ k, Greedy (s := byt s) (n := s.size) (W := win) a k → Greedy (s := byt s) (n := s.size) (W := win) 0 (ts.length + k) := by
  induction h with
  | nil => intro k hk; simpa using hk
  | @snoc a l b ts h ha hl ih =>
    intro k hk
    have hz := hl.size ha
    have := ih (k + 1) (.cons (by omega) hz.1 (fun r hr hM => by
      obtain ⟨f, f1, f2, f3, f4, f5⟩ := hM
      have := hl.best hs f f1 f2 r (by omega) f5 hr
      omega) hk)
    rw [List.length_append, List.length_singleton]
    rwa [show ts.length + 1 + k = ts.length + (k + 1) by omega]
theorem Cov.all {s : ByteArray} {win : Nat} {ts : List (Nat × Nat × Nat)} (hs : s.size ≤ 3000) (h : Cov s win s.size ts) : Greedy (s := byt s) (n := s.size) (W := win) 0 ts.length := Cov.greedy hs h 0 .nil
theorem Cov.few {s : ByteArray} {win a : Nat} {ts : List (Nat × Nat × Nat)} (h : Cov s win a ts) : ts.length ≤ a := by
  induction h with
  | nil => simp
  | snoc h ha hl ih => rw [List.length_append, List.length_singleton]; omega
/-! ### Rows of tokens -/
def tkVals : List (Nat × Nat × Nat) → List Value
  | [] => []
  | t :: ts => .int .u8 (t.1 : Int) :: .int .i64 (t.2.1 : Int) :: .int .i64 (t.2.2 : Int) :: tkVals ts
theorem tkVals_append (a b : List (Nat × Nat × Nat)) : tkVals (a ++ b) = tkVals a ++ tkVals b := by
  induction a with
  | nil => rfl
  | cons t a ih => simp [tkVals, ih]
theorem info_tk : (Tryz.prog.info? 51).map (fun i => (i.zero, i.size, i.bytes)) = some (some (.agg #[.int .u8 0, .int .i64 0, .int .i64 0]), 3, 24) := by kernel_rfl
theorem app_tk (w : World) (base q : Nat) (v : Value) (ts : List (Nat × Nat × Nat)) (x y z : Nat) (t : TypeId) (hown : w.ownsRow base 51 3 v ts.length (tkVals ts)) (h0 : w.cell? ⟨q, 0, none⟩ = some (.int .u8 (x : Int))) (h1 : w.cell? ⟨q, 1, none⟩ = some (.int .i64 (y : Int))) (h2 : w.cell? ⟨q, 2, none⟩ = some (.int .i64 (z : Int))) (hl : ts.length ≤ 1000000) (hb : base ≤ w.heap.size) :
    ∃ v' w', (Builtin.append_ #[22, 22] t #[v, .slice (some ⟨q, 0, none⟩) 1 1]).run Tryz.prog w = .ok v' w' ∧ w'.ownsRow base 51 3 v' (ts ++ [(x, y, z)]).length (tkVals (ts ++ [(x, y, z)])) ∧ w.grownBy w' v.ownBlock ∧ (v'.ownBlock = v.ownBlock ∨ v'.ownBlock = some w.heap.size) := by
  obtain ⟨i0, hi, hz0, hz1, hz2⟩ := info_parts info_tk
  obtain ⟨v', w', a1, a2, a3, _, a5⟩ := run_append_own_at (P := Tryz.prog) w base 22 t 51 i0 (.agg #[.int .u8 0, .int .i64 0, .int .i64 0]) 3 24 Tryz.underlying22 hi hz0 hz1 hz2 rfl (by omega) v ts.length (tkVals ts) hown ⟨q, 0, none⟩ 1 1 [.int .u8 (x : Int), .int .i64 (y : Int), .int .i64 (z : Int)] rfl (fun j u hj => by
    have hadd : (⟨q, 0, none⟩ : Addr).add j = ⟨q, j, none⟩ := by unfold Addr.add; split <;> simp_all
    rw [hadd]
    match j, hj with
    | 0, hj => rw [h0]; simpa using hj
    | 1, hj => rw [h1]; simpa using hj
    | 2, hj => rw [h2]; simpa using hj
    | j + 3, hj => simp at hj) (fun u hu => by
    simp only [List.mem_cons, List.not_mem_nil, or_false] at hu
    rcases hu with rfl | rfl | rfl <;> rfl) (by unfold maxLen; omega) (by omega) hb
  refine ⟨v', w', a1, ?_, a3, a5⟩
  rw [tkVals_append, List.length_append]
  exact a2
theorem wpList_appTk (w : World) {ops : Array Oper} {rest : List Oper} {o : Oper} {a : Act} {Q : Exit → Act → World → Prop} (hgd : o.guard = none) (s x : Operand)
    (ho : o.op = .call { callee := .builtin .append, args := #[s, x], argTypes := #[22, 22] }) (base q : Nat) (v : Value) (ts : List (Nat × Nat × Nat)) (x0 y0 z0 : Nat) (hs : a.eval s = v) (hx : a.eval x = .slice (some ⟨q, 0, none⟩) 1 1)
    (hown : w.ownsRow base 51 3 v ts.length (tkVals ts)) (h0 : w.cell? ⟨q, 0, none⟩ = some (.int .u8 (x0 : Int))) (h1 : w.cell? ⟨q, 1, none⟩ = some (.int .i64 (y0 : Int))) (h2 : w.cell? ⟨q, 2, none⟩ = some (.int .i64 (z0 : Int))) (hl : ts.length ≤ 1000000) (hb : base ≤ w.heap.size)
    (h : ∀ v' w', w'.ownsRow base 51 3 v' (ts ++ [(x0, y0, z0)]).length (tkVals (ts ++ [(x0, y0, z0)])) → w.grownBy w' v.ownBlock → (v'.ownBlock = v.ownBlock ∨ v'.ownBlock = some w.heap.size) → wpList Tryz.prog ops Q rest (a.put o.dst v') w') : wpList Tryz.prog ops Q (o :: rest) a w := by
  obtain ⟨v', w', a1, a2, a3, a5⟩ := app_tk w base q v ts x0 y0 z0 o.type hown h0 h1 h2 hl hb
  refine wpList_plain hgd fun _ hK => ?_
  unfold Oper.wp execOp
  simp only [ho, resolve, invoke, builtin, Sem.run_bind, Sem.run_pure, Result.andThen_ok, List.map_toArray, List.map_cons, List.map_nil, hs, hx, a1]
  exact hK _ _ (h v' w' a2 a3 a5)
theorem row_keep {w w' : World} {B n size : Nat} {t : TypeId} {vL : Value} {xs : List Value} (h : w.ownsRow B t size vL n xs) (hb : ∀ k, vL.ownBlock = some k → w'.heap[k]? = w.heap[k]?) : w'.ownsRow B t size vL n xs := by
  refine ⟨h.1, ?_⟩
  rcases h.2 with q | ⟨g, cap, cur, rfl, hg, hh, r⟩
  · exact .inl q
  · exact .inr ⟨g, cap, cur, rfl, hg, by rw [hb g rfl]; exact hh, r⟩
theorem row_shape {w : World} {base size n : Nat} {e : TypeId} {v : Value} {xs : List Value} (h : w.ownsRow base e size v n xs) : ∃ a c, v = .slice a n c := by
  rcases h.2 with ⟨rfl, rfl⟩ | ⟨g, c, cur, rfl, _⟩
  · exact ⟨none, 0, rfl⟩
  · exact ⟨_, c, rfl⟩
set_option maxHeartbeats 4000000 in
set_option maxRecDepth 100000 in
theorem tokens_in (s : ByteArray) (win : Nat) (w : World) (hs : s.size ≤ 20000) (h1 : 1 ≤ win) (h2 : win ≤ 32768) :
    Calls Tryz.prog 53 #[.string s, .int .i64 (win : Int)] w fun e w' => ∃ (ts : List (Nat × Nat × Nat)) (aL : Option Addr) (cL : Nat), e = .returned (.tuple #[.slice aL ts.length cL, .nilIface]) ∧ Cov s win s.size ts ∧ w'.ownsRow w.heap.size 51 3 (.slice aL ts.length cL) ts.length (tkVals ts) ∧ Below w.heap.size w w' := by
  have HBD := hide (bounded_yes s win w (by omega) h1 h2)
  have HNC := hide (newChains_any s win w hs)
  go_enter Tryz.func53, Tryz.ntmps53
  go_wp2_with fail
  refine (unhide HBD).mono ?_; rintro e w0 ⟨rfl, rfl⟩
  clear HBD
  go_wp2_with fail
  refine (unhide HNC).mono ?_; rintro e w1 ⟨c, bm, gb, rfl, hC, hb1, hc0, hm0, hg0⟩
  have HC1 := hide hC
  have HB1 := hide hb1
  have HO1 := hide (World.ownsRow_nil w1 w0.heap.size 51 3)
  have hz1 : w0.heap.size ≤ w1.heap.size := hb1.size
  clear hC hb1 HNC
  go_wp2
  go_loopw [6, 8] (fun lv av wr => ∃ (a n cL : Nat) (aL : Option Addr) (ts : List (Nat × Nat × Nat)), lv = .slice aL n cL ∧ Hid (n = ts.length) ∧ av = .int .i64 (a : Int) ∧ a ≤ s.size ∧ Hid (CH wr c bm gb s win a) ∧ Hid (Cov s win a ts) ∧ Hid (wr.ownsRow w0.heap.size 51 3 (.slice aL n cL) ts.length (tkVals ts)) ∧ Hid ((Value.slice aL n cL).ownBlock ≠ some c ∧ (Value.slice aL n cL).ownBlock ≠ some bm ∧ (Value.slice aL n cL).ownBlock ≠ some gb) ∧ Hid (Below w0.heap.size w0 wr) ∧ w0.heap.size ≤ wr.heap.size) (fun _ av _ => s.size - (intOf av).toNat)
  case atStart => exact ⟨0, 0, 0, none, [], rfl, rfl, rfl, by omega, HC1, .nil, HO1, ⟨by simp [Value.ownBlock], by simp [Value.ownBlock], by simp [Value.ownBlock]⟩, HB1, hz1⟩
  case round =>
    clear HC1 HO1 HB1 hz1
    obtain ⟨a, n, cL, aL, ts, rfl, Hn, rfl, ha, HC, HV, HO, HNE, HB, hwz⟩ := hrel
    by_cases hlt : a < s.size
    · have d1 : decide ((a : Int) < (s.size : Int)) = true := decide_eq_true (by omega)
      have d1n : decide (a < s.size) = true := decide_eq_true hlt
      have HX := hide (token_any c bm gb win a s wr (unhide HC) hs hlt h2)
      go_wp2_with fail
      refine (unhide HX).mono ?_; rintro e w2 ⟨l, b, rfl, hok, hb2⟩
      rw [tokV_is]
      have hsz := hok.size hlt
      obtain ⟨x, hx⟩ : ∃ x, x = (tk s a l b).1 := ⟨_, rfl⟩
      obtain ⟨y, hy⟩ : ∃ y, y = (tk s a l b).2.1 := ⟨_, rfl⟩
      obtain ⟨z, hz⟩ : ∃ z, z = (tk s a l b).2.2 := ⟨_, rfl⟩
      have htk : tk s a l b = (x, y, z) := by rw [hx, hy, hz]
      rw [← hx, ← hy, ← hz]
      have hyl : y = l := by rw [hy]; exact tk_len s a l b
      have hxl : x < 256 := by rw [hx]; exact tk_byte s a l b
      have hzl : z ≤ 20000 := by rw [hz]; exact tk_far s a l b 20000 (by omega)
      have HC2 := hide ((unhide HC).below hb2)
      have HO2 := hide (row_keep (unhide HO) (fun k e => hb2.block k ((unhide HO).lt k e).2))
      have HB2 := hide ((unhide HB).trans (hb2.mono hwz))
      have hz2 : w0.heap.size ≤ w2.heap.size := (unhide HB2).size
      have hlc := (unhide HC2).ltc
      have hlm := (unhide HC2).ltm
      have hlg := (unhide HC2).lt
      have HOK := hide hok
      have HTK := hide htk
      subst hyl
      clear hok hb2 hx hz htk HC HO HB HX hy
      obtain ⟨k0, k1, k2, _, _, _, hza⟩ := three_at w2 (.int .u8 (x : Int)) (.int .i64 (y : Int)) (.int .i64 (z : Int)) 51
      have hb3 : Below w2.heap.size w2 (w2.alloc (.cells #[.int .u8 (x : Int), .int .i64 (y : Int), .int .i64 (z : Int)] 51)) := (Below.refl _ _).alloc (Nat.le_refl _) _
      have HC3 := hide ((unhide HC2).below hb3)
      have HO3 := hide (row_keep (unhide HO2) (fun k e => hb3.block k ((unhide HO2).lt k e).2))
      have HB3 := hide ((unhide HB2).trans (hb3.mono hz2))
      have hqn : (Value.slice aL n cL).ownBlock ≠ some w2.heap.size := fun e => by have := ((unhide HO2).lt _ e).2; omega
      have Hqn := hide hqn
      obtain ⟨q, hq⟩ : ∃ q, q = w2.heap.size := ⟨_, rfl⟩
      obtain ⟨w3, hw3⟩ : ∃ w3, w3 = w2.alloc (.cells #[.int .u8 (x : Int), .int .i64 (y : Int), .int .i64 (z : Int)] 51) := ⟨_, rfl⟩
      rw [← hw3] at HC3 HO3 HB3 hza
      rw [← hw3, ← hq] at k0 k1 k2
      rw [← hq] at Hqn hza
      have hqc : q ≠ c := by omega
      have hqm : q ≠ bm := by omega
      have hqg : q ≠ gb := by omega
      have hw3e : w2.alloc (.cells #[.int .u8 (x : Int), .int .i64 (y : Int), .int .i64 (z : Int)] 51) = w3 := hw3.symm
      have hqe : w2.heap.size = q := hq.symm
      have hz3 : w0.heap.size ≤ w3.heap.size := (unhide HB3).size
      obtain ⟨j0, j1, j2, _, _, _, hz4⟩ := three_at w3 (.int .u8 (x : Int)) (.int .i64 (y : Int)) (.int .i64 (z : Int)) 51
      have HO4 := hide ((unhide HO3).alloc (.cells #[.int .u8 (x : Int), .int .i64 (y : Int), .int .i64 (z : Int)] 51))
      have hb4 : Below w3.heap.size w3 (w3.alloc (.cells #[.int .u8 (x : Int), .int .i64 (y : Int), .int .i64 (z : Int)] 51)) := (Below.refl _ _).alloc (Nat.le_refl _) _
      have HB4 := hide hb4
      have hlc3 := (unhide HC3).ltc
      have hlm3 := (unhide HC3).ltm
      have hlg3 := (unhide HC3).lt
      have hts : ts.length ≤ 20000 := by have := (unhide HV).few; omega
      rw [hza] at j0 j1 j2
      have hz5 : w0.heap.size ≤ (w3.alloc (.cells #[.int .u8 (x : Int), .int .i64 (y : Int), .int .i64 (z : Int)] 51)).heap.size := by omega
      clear hb3 HC2 HO2 HB2 hqn hw3 hq hlc hlm hlg hb4
      go_wp2_with (at_builtin; refine wpList_appTk _ rfl (.tmp 25) (.tmp 27) rfl w0.heap.size (q + 1) (.slice aL n cL) ts x y z rfl (by first | rfl | (simp [Act.eval]; done)) (unhide HO4) j0 j1 j2 (by omega) hz5 ?_)
      intro v5 w5 hown5 hgr5 hat5
      obtain ⟨hn1, hn2, hn3⟩ := unhide HNE
      have hs5 := hgr5.size
      have hblk : ∀ k, k < w3.heap.size → (Value.slice aL n cL).ownBlock ≠ some k → w5.heap[k]? = w3.heap[k]? := fun k hk hne => by
        rw [hgr5.block k (by omega) (fun e => hne e.symm)]
        exact (unhide HB4).block k hk
      have HC5 := hide ((unhide HC3).keep (hblk c hlc3 hn1) (hblk bm hlm3 hn2) (hblk gb hlg3 hn3) (by omega))
      have m0 := (World.cell?_of_block (a := ⟨q, 0, none⟩) (hblk q (by omega) (unhide Hqn))).trans k0
      have m1 := (World.cell?_of_block (a := ⟨q, 1, none⟩) (hblk q (by omega) (unhide Hqn))).trans k1
      have m2 := (World.cell?_of_block (a := ⟨q, 2, none⟩) (hblk q (by omega) (unhide Hqn))).trans k2
      have HB5 := hide (((unhide HB3).trans ((unhide HB4).mono hz3)).grown hgr5 hz5 (fun k e => ((unhide HO4).lt k e).1))
      have hln : (ts ++ [(x, y, z)]).length = ts.length + 1 := by simp
      obtain ⟨aM, cM, hvM⟩ := row_shape hown5
      obtain ⟨nM, hnM⟩ : ∃ nM, nM = (ts ++ [(x, y, z)]).length := ⟨_, rfl⟩
      have hown5' : w5.ownsRow w0.heap.size 51 3 v5 (ts ++ [(x, y, z)]).length (tkVals (ts ++ [(x, y, z)])) := by first | exact hown5 | (rw [hln]; exact hown5)
      have hvM' : v5 = .slice aM nM cM := by rw [hvM, hnM]; first | rfl | rw [hln]
      have hne5 : v5.ownBlock ≠ some c ∧ v5.ownBlock ≠ some bm ∧ v5.ownBlock ≠ some gb := by
        rcases hat5 with h | h
        · rw [h]; exact ⟨hn1, hn2, hn3⟩
        · refine ⟨fun e => ?_, fun e => ?_, fun e => ?_⟩
          all_goals
            rw [e] at h
            injection h with h
            omega
      clear hvM
      subst hvM'
      have HO5 := hide hown5'
      have HNE5 := hide hne5
      have HNM := hide hnM
      have hz6 : w0.heap.size ≤ w5.heap.size := (unhide HB5).size
      obtain ⟨mx, hmx⟩ : ∃ mx, mx = max 1 y := ⟨_, rfl⟩
      have HBO := hide (fun w => bytesOf_any x (y : Int) (z : Int) w (mx : Int) (by rw [hmx]; split <;> omega) (by omega))
      have HMX := hide hmx
      have hq5 : q < w5.heap.size := by omega
      clear hown5 hown5' hgr5 hat5 hblk hne5 hln hnM HO4 HB4 HO3 HC3 HB3 HNE j0 j1 j2 hz4 hz5 k0 k1 k2 hmx
      go_wp2_with fail
      refine (unhide HBO w5).mono ?_; rintro e w6 ⟨rfl, hb6⟩
      have HC6 := hide ((unhide HC5).below hb6)
      have HO6 := hide (row_keep (unhide HO5) (fun k e => hb6.block k ((unhide HO5).lt k e).2))
      have HB6 := hide ((unhide HB5).trans (hb6.mono hz6))
      have hmx1 : 1 ≤ mx ∧ a + mx ≤ s.size := by have := unhide HMX; omega
      clear hb6 HC5 HO5 HB5 HBO m0 m1 m2 hs5 hza hqc hqm hqg hw3e hqe hz3 hlc3 hlm3 hlg3 hn1 hn2 hn3 Hqn hq5 hz2 hz6 d1 d1n
      go_wp2
      go_loopw [8, 31] (fun av iv wq => ∃ i : Nat, iv = .int .i64 (i : Int) ∧ av = .int .i64 ((a + i : Nat) : Int) ∧ i ≤ mx ∧ Hid (CH wq c bm gb s win (a + i)) ∧ Hid (wq.ownsRow w0.heap.size 51 3 (.slice aM nM cM) (ts ++ [(x, y, z)]).length (tkVals (ts ++ [(x, y, z)]))) ∧ Hid (Below w0.heap.size w0 wq)) (fun _ iv _ => mx - (intOf iv).toNat)
      case atStart => exact ⟨0, rfl, rfl, by omega, HC6, HO6, HB6⟩
      case round =>
        clear HC6 HO6 HB6
        obtain ⟨i, rfl, rfl, hi, HC7, HO7, HB7⟩ := hrel
        by_cases hlt2 : i < mx
        · have d2 : decide ((i : Int) < (mx : Int)) = true := decide_eq_true (by omega)
          have d2n : decide (i < mx) = true := decide_eq_true hlt2
          have HX := hide (add_any c bm gb win (a + i) s _ (unhide HC7) hs (by omega))
          obtain ⟨p, hp⟩ : ∃ p, p = a + i := ⟨_, rfl⟩
          rw [← hp] at HX HC7
          have hpn : p < 20000 := by omega
          rw [← hp]
          have Hp := hide hp
          clear hp
          go_wp2_with fail
          refine (unhide HX).mono ?_; rintro e w8 ⟨rfl, hC8, hbu8⟩
          obtain ⟨e1, e2, e3⟩ := unhide HNE5
          have HC8 := hide hC8
          have HO8 := hide (row_keep (unhide HO7) (fun k e => hbu8.block k ((unhide HO7).lt k e).2 (fun q => by
            rcases q with q | q
            · subst q; exact e2 e
            · subst q; exact e3 e)))
          have HB8 := hide ((unhide HB7).trans (hbu8.below (unhide HB7).size (fun k hk q => by rcases q with q | q <;> omega)))
          clear hC8 hbu8 HC7 HO7 HB7 HX e1 e2 e3
          go_wp2
          go_roundw
          case rel =>
            have hp1 : a + (i + 1) = p + 1 := by have := unhide Hp; omega
            exact ⟨i + 1, by go_num, by rw [hp1]; go_num, by omega, by rw [hp1]; exact HC8, HO8, HB8⟩
          case measure => simp [intOf]; omega
        · obtain rfl : i = mx := by omega
          have d2 : decide ((i : Int) < (i : Int)) = false := by simp
          have hcov : Cov s win (a + i) (ts ++ [(x, y, z)]) := by
            rw [← unhide HTK, unhide HMX]
            exact .snoc (unhide HV) hlt (unhide HOK)
          have HV9 := hide hcov
          have hz9 := (unhide HB7).size
          clear hcov
          go_wp2
          go_roundw
          case rel => exact ⟨a + i, nM, cM, aM, ts ++ [(x, y, z)], rfl, HNM, rfl, by omega, HC7, HV9, HO7, HNE5, HB7, hz9⟩
          case measure => simp [intOf]; omega
    · obtain rfl : a = s.size := by omega
      have d1 : decide ((s.size : Int) < (s.size : Int)) = false := by simp
      have hn : n = ts.length := unhide Hn
      subst hn
      go_wp2
      go_ret2
      exact ⟨ts, aL, cL, rfl, unhide HV, unhide HO, unhide HB⟩
end Go.Proofs.YtfeljhikeddodadGreatDoor
namespace Go.Proofs.YtfeljhikeddodadGreatDoor
open Go.RowKit Mm

/-- Tokens as a row that came in. -/
def tks (ts : List (Nat × Nat × Nat)) : Tks := ⟨fun i => (ts.getD i (0, 0, 0)).1, fun i => ((ts.getD i (0, 0, 0)).2.1 : Int), fun i => ((ts.getD i (0, 0, 0)).2.2 : Int)⟩
theorem getD_left {α : Type} (ts us : List α) (d : α) (i : Nat) (h : i < ts.length) : (ts ++ us).getD i d = ts.getD i d := by
  simp [List.getD, List.getElem?_append_left h]
theorem getD_last {α : Type} (ts : List α) (u d : α) : (ts ++ [u]).getD ts.length d = u := by
  simp [List.getD]
theorem tks_out (ts us : List (Nat × Nat × Nat)) (i : Nat) (h : i ≤ ts.length) : (tks (ts ++ us)).out i = (tks ts).out i := by
  induction i with
  | zero => rfl
  | succ i ih =>
    have e := getD_left ts us (0, 0, 0) i (by omega)
    have g : (tks (ts ++ us)).out (i + 1) = if (tks (ts ++ us)).l i = 0 then (tks (ts ++ us)).out i ++ [UInt8.ofNat ((tks (ts ++ us)).b i)] else cpy ((tks (ts ++ us)).out i) ((tks (ts ++ us)).d i).toNat ((tks (ts ++ us)).l i).toNat := rfl
    have g2 : (tks ts).out (i + 1) = if (tks ts).l i = 0 then (tks ts).out i ++ [UInt8.ofNat ((tks ts).b i)] else cpy ((tks ts).out i) ((tks ts).d i).toNat ((tks ts).l i).toNat := rfl
    have el : (tks (ts ++ us)).l i = (tks ts).l i := by show ((_ : Nat) : Int) = ((_ : Nat) : Int); rw [e]
    have ed : (tks (ts ++ us)).d i = (tks ts).d i := by show ((_ : Nat) : Int) = ((_ : Nat) : Int); rw [e]
    have eb : (tks (ts ++ us)).b i = (tks ts).b i := by show Prod.fst _ = Prod.fst _; rw [e]
    rw [g, g2, el, ed, eb, ih (by omega)]
theorem byt_list (s : ByteArray) (i : Nat) (h : i < s.size) : s.data.toList[i]? = some (UInt8.ofNat (byt s i)) := by
  have hz : s.data.toList.length = s.size := Array.length_toList
  rw [byt_at s i h, List.getElem?_eq_getElem (by omega)]
  congr 1
  rw [UInt8.ofNat_toNat]
  rfl
theorem take_next (s : ByteArray) (i : Nat) (h : i < s.size) : s.data.toList.take (i + 1) = s.data.toList.take i ++ [UInt8.ofNat (byt s i)] := by
  rw [List.take_add_one, byt_list s i h]
  rfl
theorem cpy_take (s : ByteArray) (a b : Nat) (hb : 1 ≤ b) (hba : b ≤ a) : ∀ l, a + l ≤ s.size → (∀ i, i < l → byt s (a - b + i) = byt s (a + i)) → cpy (s.data.toList.take a) b l = s.data.toList.take (a + l) := by
  intro l
  induction l with
  | zero => intro _ _; rfl
  | succ l ih =>
    intro h1 h2
    have hz : s.data.toList.length = s.size := Array.length_toList
    rw [cpy, ih (by omega) (fun i hi => h2 i (by omega)), List.length_take, hz, Nat.min_eq_left (by omega), ← Nat.add_assoc, take_next s (a + l) (by omega), ← h2 l (by omega)]
    congr 2
    rw [List.getD_eq_getElem?_getD, List.getElem?_take, if_pos (by omega), show a + l - b = a - b + l by omega, byt_list s (a - b + l) (by omega)]
    rfl
theorem Cov.means {s : ByteArray} {win a : Nat} {ts : List (Nat × Nat × Nat)} (hw : win ≤ 32768) (h : Cov s win a ts) : a ≤ s.size ∧ (tks ts).out ts.length = s.data.toList.take a ∧ ∀ i, i < ts.length → (tks ts).good i ∧ (tks ts).d i ≤ (win : Int) ∧ (tks ts).b i < 256 := by
  induction h with
  | nil => exact ⟨Nat.zero_le _, rfl, fun i hi => absurd hi (by simp)⟩
  | @snoc a l b ts h ha hl ih =>
    obtain ⟨i1, i2, i3⟩ := ih
    have hz := hl.size ha
    have hsz : s.data.toList.length = s.size := Array.length_toList
    have e0 := getD_last ts (tk s a l b) (0, 0, 0)
    have ho : (tks (ts ++ [tk s a l b])).out ts.length = s.data.toList.take a := by rw [tks_out _ _ _ (Nat.le_refl _), i2]
    have g : (tks (ts ++ [tk s a l b])).out (ts.length + 1) = if (tks (ts ++ [tk s a l b])).l ts.length = 0 then (tks (ts ++ [tk s a l b])).out ts.length ++ [UInt8.ofNat ((tks (ts ++ [tk s a l b])).b ts.length)] else cpy ((tks (ts ++ [tk s a l b])).out ts.length) ((tks (ts ++ [tk s a l b])).d ts.length).toNat ((tks (ts ++ [tk s a l b])).l ts.length).toNat := rfl
    have el : (tks (ts ++ [tk s a l b])).l ts.length = (((tk s a l b).2.1 : Nat) : Int) := by show ((_ : Nat) : Int) = _; rw [e0]
    have ed : (tks (ts ++ [tk s a l b])).d ts.length = (((tk s a l b).2.2 : Nat) : Int) := by show ((_ : Nat) : Int) = _; rw [e0]
    have eb : (tks (ts ++ [tk s a l b])).b ts.length = (tk s a l b).1 := by show Prod.fst _ = _; rw [e0]
    refine ⟨hz.1, ?_, fun i hi => ?_⟩
    · rw [List.length_append, List.length_singleton, g, ho, el, ed, eb]
      unfold tk
      rcases hl.good with ⟨q1, q2⟩ | ⟨q1, q2, q3, q4, q5, q6⟩
      · subst q1
        simp only [if_true]
        rw [show a + max 1 0 = a + 1 by omega, take_next s a ha]
        rfl
      · have z1 : ¬ l = 0 := by omega
        have z2 : ¬ (l : Int) = 0 := by omega
        rw [if_neg z1, if_neg z2]
        show cpy _ ((b : Int)).toNat ((l : Int)).toNat = _
        rw [Int.toNat_natCast, Int.toNat_natCast, cpy_take s a b q3 q5 l (by omega) q6, show a + max 1 l = a + l by omega]
    · rw [List.length_append, List.length_singleton] at hi
      by_cases hlt : i < ts.length
      · have e := getD_left ts [tk s a l b] (0, 0, 0) i hlt
        have el' : (tks (ts ++ [tk s a l b])).l i = (tks ts).l i := by show ((_ : Nat) : Int) = ((_ : Nat) : Int); rw [e]
        have ed' : (tks (ts ++ [tk s a l b])).d i = (tks ts).d i := by show ((_ : Nat) : Int) = ((_ : Nat) : Int); rw [e]
        have eb' : (tks (ts ++ [tk s a l b])).b i = (tks ts).b i := by show Prod.fst _ = Prod.fst _; rw [e]
        have := i3 i hlt
        unfold Tks.good Tks.shaped at this ⊢
        rw [el', ed', eb', tks_out _ _ _ (by omega)]
        exact this
      · obtain rfl : i = ts.length := by omega
        unfold Tks.good Tks.shaped
        rw [el, ed, eb, ho, List.length_take, hsz, Nat.min_eq_left (by omega)]
        have hy := byt_lt s a
        unfold tk
        rcases hl.good with ⟨q1, q2⟩ | ⟨q1, q2, q3, q4, q5, q6⟩
        · subst q1
          simp
          exact hy
        · have z1 : ¬ l = 0 := by omega
          have z2 : ¬ (l : Int) = 0 := by omega
          rw [if_neg z1, if_neg z2]
          refine ⟨⟨⟨rfl, ⟨?_, ?_⟩, ?_, ?_⟩, ?_⟩, ?_, ?_⟩
          · show (3 : Int) ≤ (l : Int); omega
          · show (l : Int) ≤ 258; omega
          · show (1 : Int) ≤ (b : Int); omega
          · show (b : Int) ≤ 32768; omega
          · show (b : Int) ≤ (a : Int); omega
          · show (b : Int) ≤ (win : Int); omega
          · show 0 < 256; omega
end Go.Proofs.YtfeljhikeddodadGreatDoor
namespace Go.Proofs.YtfeljhikeddodadGreatDoor
open Go.RowKit Mm

theorem tkVals_at (ts : List (Nat × Nat × Nat)) (i : Nat) (h : i < ts.length) : (tkVals ts)[i * 3]? = some (.int .u8 ((ts.getD i (0, 0, 0)).1 : Int)) ∧ (tkVals ts)[i * 3 + 1]? = some (.int .i64 ((ts.getD i (0, 0, 0)).2.1 : Int)) ∧ (tkVals ts)[i * 3 + 2]? = some (.int .i64 ((ts.getD i (0, 0, 0)).2.2 : Int)) := by
  induction ts generalizing i with
  | nil => exact absurd h (by simp)
  | cons t ts ih =>
    cases i with
    | zero => exact ⟨rfl, rfl, rfl⟩
    | succ i =>
      have := ih i (by rw [List.length_cons] at h; omega)
      rw [Nat.succ_mul]
      exact this
theorem row_tokens {w : World} {base n cL : Nat} {aL : Option Addr} {ts : List (Nat × Nat × Nat)} (h : w.ownsRow base 51 3 (.slice aL n cL) ts.length (tkVals ts)) (hl : ts.length ≤ 20000) (hb : ∀ i, i < ts.length → (tks ts).b i < 256 ∧ (tks ts).l i ≤ 32768 ∧ (tks ts).d i ≤ 32768) : IsTokens w aL ts.length (tks ts) := by
  by_cases h0 : ts.length = 0
  · exact .inl h0
  rcases h.2 with ⟨_, q⟩ | ⟨g, cap, cur, hv, hg, hh, r⟩
  · exact absurd q h0
  · injection hv with e1 e2 e3
    subst e1
    have hc := h.cells (g := g) rfl
    refine .inr ⟨g, 0, rfl, by unfold maxLen; omega, fun i hi => ?_⟩
    have hadd : ∀ j, (⟨g, 0, none⟩ : Addr).add j = ⟨g, 0 + j, none⟩ := fun j => by unfold Addr.add; split <;> simp_all
    obtain ⟨k0, k1, k2⟩ := tkVals_at ts i hi
    have c0 := hc _ _ k0
    have c1 := hc _ _ k1
    have c2 := hc _ _ k2
    rw [hadd] at c0 c1 c2
    obtain ⟨b0, b1, b2⟩ := hb i hi
    have n1 : (0 : Int) ≤ (tks ts).l i := Int.natCast_nonneg _
    have n2 : (0 : Int) ≤ (tks ts).d i := Int.natCast_nonneg _
    exact ⟨c0, c1, c2, b0, by omega, by omega⟩
end Go.Proofs.YtfeljhikeddodadGreatDoor
namespace Go.Proofs.YtfeljhikeddodadGreatDoor
open Go.RowKit Ps Nf Pm Cn

set_option maxHeartbeats 4000000 in
set_option maxRecDepth 100000 in
theorem deflate_any (s : ByteArray) (v1 v2 : Value) (w : World) (hs : s.size ≤ 20000) (hB : Bl w) (hn : 12 ≤ w.heap.size)
    (h1 : w.cell? ⟨0, 0, none⟩ = some v1) (h2 : w.cell? ⟨2, 0, none⟩ = some v2) :
    Calls Tryz.prog 18 #[.string s] w fun e w' => ∃ x, e = .returned (.tuple #[.string x, .nilIface]) ∧ Pk s.data.toList x ∧ x.size ≤ (textP (storP s.data.toList (fu s.size))).size ∧ Below w.heap.size w w' := by
  have HX := hide (tokens_in s 32768 w hs (by omega) (by omega))
  have l1 := World.block_lt_of_cell? _ _ h1
  have l2 := World.block_lt_of_cell? _ _ h2
  simp only at l1 l2
  have HB := hide hB
  have H1 := hide h1
  have H2 := hide h2
  clear hB h1 h2
  go_enter Tryz.func18, Tryz.ntmps18
  go_wp2_with fail
  refine (unhide HX).mono ?_
  rintro e w1 ⟨ts, aL, cL, rfl, hcov, ho1, hb1⟩
  obtain ⟨-, hout, hgood⟩ := Cov.means (by omega) hcov
  have hall : (tks ts).out ts.length = s.data.toList := by
    rw [hout, List.take_of_length_le]
    simp
  have hfew : ts.length ≤ 20000 := Nat.le_trans (Cov.few hcov) hs
  have hg : ∀ i, i < ts.length → (tks ts).good i := fun i hi => (hgood i hi).1
  have hb8 : ∀ i, i < ts.length → (tks ts).b i < 256 := fun i hi => (hgood i hi).2.2
  have hsh : ∀ i, i < ts.length → (tks ts).shaped i := fun i hi => (hg i hi).1
  have hIT : IsTokens w1 aL ts.length (tks ts) := row_tokens ho1 hfew (fun i hi => ⟨hb8 i hi, by
    have := hsh i hi
    unfold Tks.shaped at this
    split at this <;> omega, (hgood i hi).2.1⟩)
  obtain ⟨tx, htx⟩ : ∃ tx, tx = textP (storP s.data.toList (fu s.size)) := ⟨_, rfl⟩
  have hsl : s.data.toList.length = s.size := by simp
  have hfu := fu_ok s.size (by omega)
  have hP0 : Pk s.data.toList tx := by
    have := pk_sto s.data.toList (by omega)
    rwa [hsl, ← htx] at this
  have hs1 := hb1.size
  have ba := (Below.refl w1.heap.size w1).alloc (Nat.le_refl _) (.cells #[.func (.func 55) #[] #[], .func (.func 24) #[] #[], .func (.func 42) #[] #[]] 92)
  have hbw := hb1.trans (ba.mono hs1)
  have hz : (w1.alloc (.cells #[.func (.func 55) #[] #[], .func (.func 24) #[] #[], .func (.func 42) #[] #[]] 92)).heap.size = w1.heap.size + 1 := by simp
  have HX := hide (shortest_any w1.heap.size s aL ts.length cL (w1.alloc (.cells #[.func (.func 55) #[] #[], .func (.func 24) #[] #[], .func (.func 42) #[] #[]] 92)) (Pk s.data.toList) tx hP0 (by simp) (by simp) (by simp)
    (fun w' hb => by
      rw [htx]
      exact stored_any s aL ts.length cL (fu s.size) w' (by omega) hfu.1 hfu.2.1 hfu.2.2)
    (fun w' hb => by
      have hb' := hbw.trans (hb.mono (by omega))
      refine (fixed_any s aL ts.length cL (tks ts) v1 v2 w' ((hIT.below ba).below hb) ((unhide HB).below hb' hn) (Nat.le_trans hn hb'.size) ((hb'.cell (p := ⟨0, 0, none⟩) l1).trans (unhide H1)) ((hb'.cell (p := ⟨2, 0, none⟩) l2).trans (unhide H2)) hsh (by omega)).mono ?_
      rintro e w'' ⟨rfl, hbb⟩
      refine ⟨_, rfl, ?_, hbb⟩
      rw [← hall]
      exact pk_fix hg hb8 (by omega))
    (fun w' hb => by
      have hb' := hbw.trans (hb.mono (by omega))
      refine (dynamic_any s aL ts.length cL (tks ts) v1 v2 w' ((hIT.below ba).below hb) ((unhide HB).below hb' hn) (Nat.le_trans hn hb'.size) ((hb'.cell (p := ⟨0, 0, none⟩) l1).trans (unhide H1)) ((hb'.cell (p := ⟨2, 0, none⟩) l2).trans (unhide H2)) hsh (by omega)).mono ?_
      rintro e w'' ⟨ns, nd, nc, l0, l1, l2, ss, rfl, hdo, hbb⟩
      refine ⟨_, rfl, ?_, hbb⟩
      rw [← hall]
      exact pk_dyn hdo hg hb8 (by omega)))
  have HBW := hide hbw
  have HT := hide htx
  clear ho1 hcov hout hgood hall hg hb8 hsh hIT htx hP0 ba hbw hb1 hfu hsl
  go_wp2_with fail
  refine (unhide HX).mono ?_
  rintro e w2 ⟨x, rfl, hpk, hxs, hb2⟩
  have HR := hide (And.intro hpk hxs)
  have HB2 := hide ((unhide HBW).trans (hb2.mono (by omega)))
  clear HX hpk hxs hb2
  go_wp2
  go_ret2
  exact ⟨x, rfl, (unhide HR).1, by rw [← unhide HT]; exact (unhide HR).2, unhide HB2⟩
end Go.Proofs.YtfeljhikeddodadGreatDoor
namespace Go.Proofs.YtfeljhikeddodadGreatDoor
open Go.RowKit

theorem take_snoc (s : ByteArray) (k : Nat) (h : k < s.size) : s.data.toList.take (k + 1) = s.data.toList.take k ++ [s[k]] := by
  rw [List.take_succ_eq_append_getElem (by simpa using h)]; rfl
end Go.Proofs.YtfeljhikeddodadGreatDoor
namespace Go.Proofs.YtfeljhikeddodadGreatDoor.Ad

def one (p : Nat × Nat) (x : UInt8) : Nat × Nat := ((p.1 + x.toNat) % 65521, (p.2 + (p.1 + x.toNat) % 65521) % 65521)
def run (p : Nat × Nat) (l : List UInt8) : Nat × Nat := l.foldl one p
def join (p : Nat × Nat) : Nat := p.2 * 65536 + p.1
def part (n : Nat) : Nat × Nat := (n % 65536 % 65521, n / 65536 % 65521)
/-- ADLER of a text behind a number. -/
def more (n : Nat) (l : List UInt8) : Nat := join (run (part n) l)
theorem run_snoc (p : Nat × Nat) (l : List UInt8) (x : UInt8) : run p (l ++ [x]) = one (run p l) x := by simp [run]
theorem run_lt (p : Nat × Nat) (l : List UInt8) (h1 : p.1 < 65521) (h2 : p.2 < 65521) : (run p l).1 < 65521 ∧ (run p l).2 < 65521 := by
  induction l generalizing p with
  | nil => exact ⟨h1, h2⟩
  | cons x l ih => exact ih (one p x) (Nat.mod_lt _ (by omega)) (Nat.mod_lt _ (by omega))
theorem part_lt (n : Nat) : (part n).1 < 65521 ∧ (part n).2 < 65521 := ⟨Nat.mod_lt _ (by omega), Nat.mod_lt _ (by omega)⟩
theorem join_lt (p : Nat × Nat) (h1 : p.1 < 65521) (h2 : p.2 < 65521) : join p < 4294967296 := by
  unfold join; omega
theorem more_lt (n : Nat) (l : List UInt8) : more n l < 4294967296 := by
  have h := run_lt (part n) l (part_lt n).1 (part_lt n).2
  exact join_lt _ h.1 h.2
theorem part_one : part 1 = (1, 0) := by decide
end Go.Proofs.YtfeljhikeddodadGreatDoor.Ad
namespace Go.Proofs.YtfeljhikeddodadGreatDoor
open Go.RowKit

theorem and_low16 (n : Nat) (h : n < 4294967296) : bits .and .u32 (n : Int) 65535 = ((n % 65536 : Nat) : Int) := by
  have := u32_and_nat n 65535 h (by omega)
  rw [show n &&& 65535 = n % 65536 from Nat.and_two_pow_sub_one_eq_mod n 16] at this
  exact this
theorem halves_any (n : Nat) (w : World) (h : n < 4294967296) :
    Calls Tryz.prog 135 #[.int .u32 (n : Int)] w fun e w' => e = .returned (.tuple #[.int .u64 ((Ad.part n).1 : Nat), .int .u64 ((Ad.part n).2 : Nat)]) ∧ w' = w := by
  have ha := and_low16 n h
  go_enter Tryz.func135, Tryz.ntmps135
  go_wp2
  go_ret2
  exact ⟨rfl, rfl⟩
theorem or_join (r : Nat × Nat) (h1 : r.1 < 65521) (h2 : r.2 < 65521) : bits .or .u64 ((r.2 : Int) * 65536) (r.1 : Int) % 4294967296 = (Ad.join r : Nat) := by
  have := u64_or_nat (r.2 * 65536) r.1 (by omega) (by omega)
  rw [nat_join 16 (r.2 * 65536) r.1 (by omega) (by omega)] at this
  rw [show ((r.2 : Int) * 65536) = ((r.2 * 65536 : Nat) : Int) from by omega, this]
  unfold Ad.join
  omega
set_option maxHeartbeats 400000 in
set_option maxRecDepth 100000 in
theorem moreAdler_any (n : Nat) (s : ByteArray) (w : World) (h : n < 4294967296) (hs : s.size ≤ maxLen) :
    Calls Tryz.prog 93 #[.int .u32 (n : Int), .string s] w fun e w' => e = .returned (.int .u32 (Ad.more n s.data.toList : Nat)) ∧ w' = w := by
  unfold maxLen at hs
  unfold Ad.more
  obtain ⟨hp1, hp2⟩ := Ad.part_lt n
  go_enter Tryz.func93, Tryz.ntmps93
  go_wp2_with (go_at_call 135; refine (halves_any n _ h).mono ?_; rintro e w' ⟨rfl, rfl⟩)
  go_loop [5, 6, 15] (fun a b i => ∃ k : Nat, k ≤ s.size ∧ i = .int .i64 k ∧ a = .int .u64 ((Ad.run (Ad.part n) (s.data.toList.take k)).1 : Nat) ∧ b = .int .u64 ((Ad.run (Ad.part n) (s.data.toList.take k)).2 : Nat)) (fun _ _ i => s.size - (intOf i).toNat)
  case atStart => exact ⟨0, by omega, rfl, rfl, rfl⟩
  case round =>
    obtain ⟨k, hk, rfl, rfl, rfl⟩ := hrel
    obtain ⟨hr1, hr2⟩ := Ad.run_lt (Ad.part n) (s.data.toList.take k) hp1 hp2
    by_cases hlt : k < s.size
    · have hsn := hide (Ad.run_snoc (Ad.part n) (s.data.toList.take k) s[k])
      have hts := hide (take_snoc s k hlt)
      have hb := s[k].toNat_lt
      have hd : decide ((k : Int) < (s.size : Int)) = true := by simp; omega
      generalize Ad.run (Ad.part n) (s.data.toList.take k) = r at *
      go_wp2
      go_round
      case rel => exact ⟨k + 1, by omega, by go_num, by rw [unhide hts, unhide hsn]; simp only [Ad.one]; go_num, by rw [unhide hts, unhide hsn]; simp only [Ad.one]; go_num⟩
      case measure => simp [intOf]; omega
    · have : k = s.size := by omega
      subst this
      have hd : decide ((s.size : Int) < (s.size : Int)) = false := by simp
      have he := hide (show s.data.toList.take s.size = s.data.toList from List.take_of_length_le (by simp))
      go_wp2
      go_ret
      exact ⟨ret_int (by rw [or_join _ hr1 hr2, unhide he]), rfl⟩
theorem adler_any (s : ByteArray) (w : World) (hs : s.size ≤ maxLen) :
    Calls Tryz.prog 57 #[.string s] w fun e w' => e = .returned (.int .u32 (Ad.more 1 s.data.toList : Nat)) ∧ w' = w := by
  go_enter Tryz.func57, Tryz.ntmps57
  go_wp2_with (go_at_call 93; refine (moreAdler_any 1 s _ (by omega) hs).mono ?_; rintro e w' ⟨rfl, rfl⟩)
  go_ret
  exact ⟨rfl, rfl⟩
theorem join_u32 (r : Nat × Nat) : (r.2 : Int) * 65536 + (r.1 : Int) = (Ad.join r : Nat) := by
  unfold Ad.join; omega
set_option maxHeartbeats 400000 in
set_option maxRecDepth 100000 in
theorem refAdler_any (s : ByteArray) (w : World) (hs : s.size ≤ maxLen) :
    Calls Tryz.prog 59 #[.string s] w fun e w' => e = .returned (.int .u32 (Ad.more 1 s.data.toList : Nat)) ∧ w' = w := by
  unfold maxLen at hs
  unfold Ad.more
  rw [Ad.part_one]
  go_enter Tryz.func59, Tryz.ntmps59
  go_wp2
  go_loop [3, 4, 5] (fun a b i => ∃ k : Nat, k ≤ s.size ∧ i = .int .i64 k ∧ a = .int .i64 ((Ad.run (1, 0) (s.data.toList.take k)).1 : Nat) ∧ b = .int .i64 ((Ad.run (1, 0) (s.data.toList.take k)).2 : Nat)) (fun _ _ i => s.size - (intOf i).toNat)
  case atStart => exact ⟨0, by omega, rfl, rfl, rfl⟩
  case round =>
    obtain ⟨k, hk, rfl, rfl, rfl⟩ := hrel
    obtain ⟨hr1, hr2⟩ := Ad.run_lt (1, 0) (s.data.toList.take k) (by decide) (by decide)
    by_cases hlt : k < s.size
    · have hsn := hide (Ad.run_snoc (1, 0) (s.data.toList.take k) s[k])
      have hts := hide (take_snoc s k hlt)
      have hb := s[k].toNat_lt
      have hd : decide ((k : Int) < (s.size : Int)) = true := by simp; omega
      generalize Ad.run (1, 0) (s.data.toList.take k) = r at *
      go_wp2
      go_round
      case rel => exact ⟨k + 1, by omega, by go_num, by rw [unhide hts, unhide hsn]; simp only [Ad.one]; go_num, by rw [unhide hts, unhide hsn]; simp only [Ad.one]; go_num⟩
      case measure => simp [intOf]; omega
    · have : k = s.size := by omega
      subst this
      have hd : decide ((s.size : Int) < (s.size : Int)) = false := by simp
      have he := hide (show s.data.toList.take s.size = s.data.toList from List.take_of_length_le (by simp))
      go_wp2
      go_ret
      refine ⟨ret_int ?_, rfl⟩
      rw [unhide he]; exact join_u32 _
end Go.Proofs.YtfeljhikeddodadGreatDoor
