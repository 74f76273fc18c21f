/- Texts of bits that grow by pieces; the place of a number in a row. Walks of the document's own bits, got: bits of a text as noughts and ones, and their number. Walk of the number of bits that stand as noughts and ones. -/
import Derived.Test.YtbbcfghlhgaofadGreatDoorMg17
import Derived.Test.YtbbcfghlhgaofadGreatDoorMg5
import Derived.Test.YtbbcfghlhgaofadGreatDoorHC
import Derived.Lib.AppendStr
import Derived.Deep.RegionHeld
namespace Go.Proofs.YtbbcfghlhgaofadGreatDoor
open Go.RowKit Pm Cn Nf
open Ps (Pc len val Fit pl plU_is)

theorem str_cells (d n : Nat) : Lib.strCells (bt d n) = byteVals (Bt.bl d n) := by
  unfold Lib.strCells byteVals
  rw [bt_list]
theorem bits_more {l : List Pc} (hf : Fit l) (p : Pc) : byteVals (Bt.bl (len l) (val l)) ++ byteVals (Bt.bl p.2 p.1) = byteVals (Bt.bl (len (l ++ [p])) (val (l ++ [p]))) := by
  rw [← byteVals_append, Bt.bl_append _ _ _ _ (Ps.val_lt hf), Ps.len_append, Ps.val_append]
  simp [len, val]
theorem len_more (l : List Pc) (p : Pc) : len l + p.2 = len (l ++ [p]) := by rw [Ps.len_append]; simp [len]

theorem app_text (w : World) (base : Nat) (v : Value) (l : List Pc) (p : Pc) (ty : TypeId) (hown : w.ownsRow base 5 1 v (len l) (byteVals (Bt.bl (len l) (val l)))) (hf : Fit l) (hl : len l + p.2 ≤ 4000000) (hb : base ≤ w.heap.size) :
    ∃ v' w', (Builtin.append_ #[54, 9] ty #[v, .string (bt p.2 p.1)]).run Tryz.prog w = .ok v' w' ∧ w'.ownsRow base 5 1 v' (len (l ++ [p])) (byteVals (Bt.bl (len (l ++ [p])) (val (l ++ [p])))) ∧ w.grownBy w' v.ownBlock := by
  obtain ⟨i, hi, hz0, hz1, hz2⟩ := info_parts info_u8
  obtain ⟨v', w', h1, h2, h3, _⟩ := Lib.run_append_own_string (P := Tryz.prog) w base 54 9 ty 5 i Tryz.underlying54 Tryz.underlying9 hi hz0 hz1 hz2 v (len l) _ hown (bt p.2 p.1) (by rw [bt_size]; unfold maxLen; omega) (by rw [bt_size]; omega) hb
  refine ⟨v', w', h1, ?_, h3⟩
  rw [str_cells, bits_more hf, bt_size, len_more] at h2
  exact h2

theorem three_bits : Bt.bl 3 3 = [49, 49, 48] := by decide
/-- The text 110 as a literal makes it: its row is marked, and has no room. -/
theorem app_lit (w : World) (base g : Nat) (p : Pc) (ty : TypeId) (hg : w.heap[g]? = some (.cells #[.int .u8 49, .int .u8 49, .int .u8 48] 5 (3, 4))) (hp : 0 < p.2) (hl : p.2 ≤ 100) (hb : base ≤ w.heap.size) :
    ∃ v' w', (Builtin.append_ #[54, 9] ty #[.slice (some ⟨g, 0, none⟩) 3 3, .string (bt p.2 p.1)]).run Tryz.prog w = .ok v' w' ∧ w'.ownsRow base 5 1 v' (len ([((1 : Nat), 1), ((1 : Nat), 2)] ++ [p])) (byteVals (Bt.bl (len ([((1 : Nat), 1), ((1 : Nat), 2)] ++ [p])) (val ([((1 : Nat), 1), ((1 : Nat), 2)] ++ [p])))) ∧ ∀ row, w.grownBy w' row := by
  obtain ⟨i, hi, hz0, hz1, hz2⟩ := info_parts info_u8
  have hr := Lib.run_append_grow_string (P := Tryz.prog) w 54 9 ty 5 i (.int .u8 0) Tryz.underlying54 Tryz.underlying9 hi hz0 ⟨g, 0, none⟩ 3 3 [.int .u8 49, .int .u8 49, .int .u8 48] (by rw [hz1]; rfl) (fun j v hj => by
    rw [addr_add, Nat.zero_add, cell_of_row w g j _ _ _ hg]; simpa using hj) (bt p.2 p.1) (by rw [bt_size]; omega) (by rw [bt_size]; omega) (by rw [hz2, bt_size]; exact growslice_fits (by omega) (by omega))
  rw [bt_size] at hr
  have hge := grownCap_ge w (3 + p.2) 3 5
  have hcm : grownCap w (3 + p.2) 3 5 ≤ maxLen := grownCap_le_maxLen w (3 + p.2) 3 5 (by unfold maxLen; omega)
  refine ⟨_, _, hr, ?_, fun row => ⟨rfl, rfl, rfl, by simp, fun k hk _ => heap_alloc_old w.drew _ hk⟩⟩
  have hn : len ([((1 : Nat), 1), ((1 : Nat), 2)] ++ [p]) = 3 + p.2 := by rw [Ps.len_append]; simp [len]
  have hx : [Value.int .u8 49, .int .u8 49, .int .u8 48] ++ Lib.strCells (bt p.2 p.1) = byteVals (Bt.bl (len ([((1 : Nat), 1), ((1 : Nat), 2)] ++ [p])) (val ([((1 : Nat), 1), ((1 : Nat), 2)] ++ [p]))) := by
    have h3 : [Value.int .u8 49, .int .u8 49, .int .u8 48] = byteVals (Bt.bl (len [((1 : Nat), 1), ((1 : Nat), 2)]) (val [((1 : Nat), 1), ((1 : Nat), 2)])) := by
      show _ = byteVals (Bt.bl 3 3)
      rw [three_bits]
      rfl
    rw [h3, str_cells, bits_more (Fit.cons (by decide) (Fit.cons (by decide) Fit.nil))]
  rw [← hx, hn]
  have hsl : (Lib.strCells (bt p.2 p.1)).length = p.2 := by rw [Lib.strCells_length, bt_size]
  refine ⟨by rw [List.length_append, hsl]; simp, .inr ⟨w.heap.size, _, _, rfl, hb, heap_alloc_new w.drew _, hge, hcm, ?_, ?_⟩⟩
  · have hz : (Value.int IntKind.u8 0).cells.size = 1 := rfl
    simp only [Array.size_append, List.size_toArray, size_zeroCells, hz, hsl, List.length_cons, List.length_nil]
    omega
  · rw [Nat.mul_one, Array.toList_append, Array.toList_append]
    rw [show 3 + p.2 = ([Value.int .u8 49, .int .u8 49, .int .u8 48] ++ Lib.strCells (bt p.2 p.1)).length by simp [hsl]; omega]
    exact List.take_left

theorem wpList_appP (w : World) {ops : Array Oper} {rest : List Oper} {o : Oper} {a : Act} {Q : Exit → Act → World → Prop} (hgd : o.guard = none) (s x : Operand)
    (ho : o.op = .call { callee := .builtin .append, args := #[s, x], argTypes := #[54, 9] }) (base : Nat) (v : Value) (l : List Pc) (p : Pc) (hs : a.eval s = v) (hx : a.eval x = .string (bt p.2 p.1))
    (hown : w.ownsRow base 5 1 v (len l) (byteVals (Bt.bl (len l) (val l)))) (hf : Fit l) (hl : len l + p.2 ≤ 4000000) (hb : base ≤ w.heap.size)
    (h : ∀ v' w', w'.ownsRow base 5 1 v' (len (l ++ [p])) (byteVals (Bt.bl (len (l ++ [p])) (val (l ++ [p])))) → w.grownBy w' v.ownBlock → wpList Tryz.prog ops Q rest (a.put o.dst v') w') : wpList Tryz.prog ops Q (o :: rest) a w := by
  obtain ⟨v', w', h1, h2, h3⟩ := app_text w base v l p o.type hown hf hl hb
  refine wpList_plain hgd fun _ hK => ?_
  unfold Oper.wp execOp
  simp only [ho, resolve, invoke, builtin, Sem.run_bind, Sem.run_pure, Result.andThen_ok, List.map_toArray, List.map_cons, List.map_nil, hs, hx, h1]
  exact hK _ _ (h v' w' h2 h3)

theorem step_appP {w : World} {ops : Array Oper} {o : Oper} {a : Act} {K : Act → World → Prop} {Q : Exit → Act → World → Prop} {E : Prop} (hgd : o.guard = none) (s x : Operand)
    (ho : o.op = .call { callee := .builtin .append, args := #[s, x], argTypes := #[54, 9] }) (base : Nat) (v : Value) (l : List Pc) (p : Pc) (hs : a.eval s = v) (hx : a.eval x = .string (bt p.2 p.1))
    (hown : w.ownsRow base 5 1 v (len l) (byteVals (Bt.bl (len l) (val l)))) (hf : Fit l) (hl : len l + p.2 ≤ 4000000) (hb : base ≤ w.heap.size)
    (h : ∀ v' w', w'.ownsRow base 5 1 v' (len (l ++ [p])) (byteVals (Bt.bl (len (l ++ [p])) (val (l ++ [p])))) → w.grownBy w' v.ownBlock → K (a.put o.dst v') w') : if Region.wanted o (yielded ops a.tmps) = true then Oper.wp Tryz.prog o a w K Q else E := by
  have hw : Region.wanted o (yielded ops a.tmps) = true := by simp [Region.wanted, hgd]
  rw [if_pos hw]
  obtain ⟨v', w', h1, h2, h3⟩ := app_text w base v l p o.type hown hf hl hb
  unfold Oper.wp execOp
  simp only [ho, resolve, invoke, builtin, Sem.run_bind, Sem.run_pure, Result.andThen_ok, List.map_toArray, List.map_cons, List.map_nil, hs, hx, h1]
  exact h v' w' h2 h3

/-- What is held may be told more closely from here on. -/
theorem wpAnyH_strong {P : Program} {ops : Array Oper} {Q : Exit → Act → World → Prop} {md : Region.Mode} {S1 S2 : World → Prop} (hS : ∀ w, S2 w → S1 w) : ∀ (fuel : Nat) (listed : Array Bool) (a : Act) (w : World), wpAnyH P md ops Q S2 fuel listed a w → wpAnyH P md ops Q S1 fuel listed a w
  | 0, _, _, _, h => h
  | fuel + 1, _, _, _, h => ⟨h.1, fun i hi => wpOp_mono (fun _ _ h' => ⟨hS _ h'.1, wpAnyH_strong hS fuel _ _ _ h'.2⟩) (h.2 i hi)⟩

/-- A row that one owns is no block of another type. -/
theorem own_ne {w : World} {base e n x : Nat} {v : Value} {xs : List Value} {c : Array Value} {t : TypeId} {fr : Nat × Nat} (h : w.ownsRow base e 1 v n xs) (hx : w.heap[x]? = some (.cells c t fr)) (ht : t ≠ e) : v.ownBlock ≠ some x := fun q => by
  rcases h.2 with ⟨rfl, _⟩ | ⟨g, cap, cur, rfl, _, hg, _⟩
  · simp [Value.ownBlock] at q
  · have : g = x := by simpa [Value.ownBlock] using q
    subst this
    rw [hx] at hg
    injection hg with hg
    injection hg with _ hg _
    exact ht hg

set_option maxHeartbeats 1000000 in
theorem placeIn_any (row : List Nat) (N g cap n : Nat) (w : World) (hN : N = row.length) (hrow : ∀ i, i < N → w.cell? ⟨g, i, none⟩ = some (.int .i64 (row.getD i 0 : Nat))) (h1 : 0 < N) (h2 : N ≤ 100) (hup : ∀ i, i < N → ∀ j, j < N → i ≤ j → row.getD i 0 ≤ row.getD j 0) (h0 : row.getD 0 0 ≤ n) :
    Calls Tryz.prog 29 #[.slice (some ⟨g, 0, none⟩) N cap, .int .i64 (n : Int)] w fun e w' => e = .returned (.int .i64 (pl row n : Nat)) ∧ w' = w := by
  have HX : Hid (∀ k, k < N → row.getD k 0 ≤ n → (k + 1 < N → n < row.getD (k + 1) 0) → k = pl row n) := fun k hk ha hb => by
    refine (plU_is (k := row.length - 1) ha (by omega) (fun i hi hi2 => ?_)).symm
    exact Nat.lt_of_lt_of_le (hb (by omega)) (hup (k + 1) (by omega) i (by omega) (by omega))
  have HR := hide hrow
  have H0 := hide h0
  clear hrow hup h0 hN
  go_enter Tryz.func29, Tryz.ntmps29
  go_wp2
  go_loop [5] (fun v => ∃ k : Nat, k < N ∧ v = .int .i64 (k : Int) ∧ Hid (row.getD k 0 ≤ n)) (fun v => N - (intOf v).toNat)
  case atStart => exact ⟨0, h1, rfl, H0⟩
  case round =>
    obtain ⟨k, hk, rfl, HA⟩ := hrel
    obtain ⟨m, hm⟩ : ∃ m, m = k + 1 := ⟨_, rfl⟩
    have zm : (k : Int) + 1 = (m : Int) := by omega
    have hml : m ≤ 100 := by omega
    by_cases hlt : m < N
    · have g1 : decide ((m : Int) < (N : Int)) = true := by simp; omega
      have g1n : decide (m < N) = true := by simp; omega
      have hmi : (m : Int) < (N : Int) := by omega
      have c10 := unhide HR m hlt
      obtain ⟨y, hy⟩ : ∃ y, y = row.getD m 0 := ⟨_, rfl⟩
      rw [← hy] at c10
      by_cases hle : y ≤ n
      · have g2 : decide ((y : Int) ≤ (n : Int)) = true := by simp; omega
        have g2n : decide (y ≤ n) = true := by simp; omega
        have HA2 : Hid (row.getD m 0 ≤ n) := by show _ ≤ _; rw [← hy]; exact hle
        have hmk : k < m := by omega
        clear hm hy hle
        go_wp2
        go_round
        case rel => exact ⟨m, hlt, rfl, HA2⟩
        case measure => simp [intOf]; omega
      · have g2 : decide ((y : Int) ≤ (n : Int)) = false := by simp; omega
        have g2n : decide (y ≤ n) = false := by simp; omega
        have HE := hide (unhide HX k hk (unhide HA) (fun _ => by rw [← hm, ← hy]; omega))
        clear hm hy hle
        go_wp2
        go_ret
        exact ⟨ret_int (by rw [← unhide HE]), rfl⟩
    · have g1 : decide ((m : Int) < (N : Int)) = false := by simp; omega
      have g1n : decide (m < N) = false := by simp; omega
      have HE := hide (unhide HX k hk (unhide HA) (fun h => by omega))
      clear hm
      go_wp2
      go_ret
      exact ⟨ret_int (by rw [← unhide HE]), rfl⟩
end Go.Proofs.YtbbcfghlhgaofadGreatDoor
namespace Go.Proofs.YtbbcfghlhgaofadGreatDoor
open Go.RowKit

theorem bit_val (V q k : Nat) (y : Nat) (hy : y = V / 2 ^ (8 * q + k) % 2) : byteVals (Bt.bl (8 * q + k) V) ++ [Value.int .u8 ((48 + y : Nat) : Int)] = byteVals (Bt.bl (8 * q + (k + 1)) V) := by
  rw [show 8 * q + (k + 1) = 8 * q + k + 1 from by omega, Bt.bl_succ, byteVals_append]
  congr 1
  have h := Bt.bit_lt V (8 * q + k)
  simp only [byteVals, List.map_cons, List.map_nil, UInt8.toNat_ofNat']
  have : (48 + Bt.bit V (8 * q + k)) % 2 ^ 8 = 48 + Bt.bit V (8 * q + k) := by omega
  rw [this, hy]
  rfl

theorem make_room (C : Nat) (hC : C ≤ 1000000) (w : World) : (Instr.makeSlice 54 (.int .i64 0) (.int .i64 (C : Int))).run Tryz.prog w = .ok (.slice (some ⟨w.heap.size, 0, none⟩) 0 C) (w.alloc (.cells (madeCells #[.int .u8 0] C) 5)) := by
  obtain ⟨i0, hi, hz0, hz1, hz2⟩ := info_parts info_u8
  have hmk := run_make (P := Tryz.prog) w 54 5 i0 (.int .u8 0) Tryz.underlying54 hi hz0 .i64 .i64 0 (C : Int) (by omega) (by omega) (by rw [hz2]; omega) (by omega)
  rw [hz1, Int.toNat_natCast, Nat.mul_one] at hmk
  exact hmk

set_option maxHeartbeats 1000000 in
set_option maxRecDepth 100000 in
theorem bits_any (s : ByteArray) (w : World) (hs : s.size ≤ 100000) :
    Calls Tryz.prog 43 #[.string s] w fun e w' => e = .returned (.string (bt (8 * s.size) (tv s))) ∧ Below w.heap.size w w' := by
  obtain ⟨i0, hi, hz0, hz1, hz2⟩ := info_parts info_u8
  have Hi := hide hi
  have Hz0 := hide hz0
  have Hz1 := hide hz1
  have Hz2 := hide hz2
  clear hi hz0 hz1 hz2
  obtain ⟨C, hC⟩ : ∃ C, C = 8 * s.size := ⟨_, rfl⟩
  have hmk := make_room C (by omega)
  have hCi : 8 * (s.size : Int) = (C : Int) := by omega
  have hown0 : (w.alloc (.cells (madeCells #[.int .u8 0] C) 5)).ownsRow w.heap.size 5 1 (.slice (some ⟨w.heap.size, 0, none⟩) 0 C) (8 * 0) (byteVals (Bt.bl (8 * 0) (tv s))) :=
    World.ownsRow_made w (madeCells #[.int .u8 0] C) C (Nat.le_refl _) (by unfold maxLen; omega) (by rw [size_madeCells, Nat.mul_one])
  have Hown0 := hide hown0
  have hb0 : Below w.heap.size w (w.alloc (.cells (madeCells #[.int .u8 0] C) 5)) := (Below.refl _ _).alloc (Nat.le_refl _) _
  rw [← hC]
  have HC := hide hC
  have hCb : (C : Int) ≤ 1000000 := by omega
  clear hown0 hC
  go_enter Tryz.func43, Tryz.ntmps43
  go_wp2
  clear hmk
  generalize w.alloc (.cells (madeCells #[.int .u8 0] C) 5) = w0 at *
  go_loopw [3, 4] (fun o i wr => ∃ (q : Nat) (v : Value), q ≤ s.size ∧ i = .int .i64 q ∧ o = v ∧ wr.ownsRow w.heap.size 5 1 v (8 * q) (byteVals (Bt.bl (8 * q) (tv s))) ∧ Below w.heap.size w wr) (fun _ i _ => s.size - (intOf i).toNat)
  case atStart => exact ⟨0, _, by omega, rfl, rfl, unhide Hown0, hb0⟩
  case round =>
    obtain ⟨q, v, hq, rfl, rfl, hown, hb⟩ := hrel
    by_cases hlt : q < s.size
    · have hdq : decide ((q : Int) < (s.size : Int)) = true := by simp; omega
      have Hbit := hide (fun k hk => one_bit s q k hlt hk)
      have hx := s[q].toNat_lt
      have Hown := hide hown
      clear hown
      generalize hxx : s[q].toNat = x at *
      go_wp2
      go_loopw [3, 5, 6] (fun o n i wr => ∃ (k : Nat) (u : Value), k ≤ 8 ∧ i = .int .i64 k ∧ n = .int .i64 ((x / 2 ^ k : Nat) : Int) ∧ o = u ∧ wr.ownsRow w.heap.size 5 1 u (8 * q + k) (byteVals (Bt.bl (8 * q + k) (tv s))) ∧ Below w.heap.size w wr) (fun _ _ i _ => 8 - (intOf i).toNat)
      case atStart => exact ⟨0, _, by omega, rfl, by simp, rfl, unhide Hown, hb⟩
      case round =>
        obtain ⟨k, u, hk, rfl, rfl, rfl, hown, hb'⟩ := hrel
        by_cases hkt : k < 8
        · have hdk : decide ((k : Int) < 8) = true := by simp; omega
          have hb1 := unhide Hbit k hkt
          have htl : x / 2 ^ k < 256 := Nat.lt_of_le_of_lt (Nat.div_le_self _ _) hx
          have Hnext := hide (show x / 2 ^ (k + 1) = x / 2 ^ k / 2 by rw [Nat.pow_succ, Nat.div_div_eq_div_mul])
          have Hval := hide (bit_val (tv s) q k (x / 2 ^ k % 2) hb1)
          generalize x / 2 ^ k = t at *
          obtain ⟨y, hy⟩ : ∃ y, y = 48 + t % 2 := ⟨_, rfl⟩
          have ha : (48 : Int) + (t : Int) % 2 = (y : Int) := by omega
          have hyl : y < 256 := by omega
          have hym : (y : Int) % 256 = (y : Int) := by omega
          rw [← hy] at Hval
          have Hown2 := hide (hown.alloc (.cells #[.int .u8 (y : Int)] 5))
          have Hown := hide hown
          clear hy hb1 hown
          go_wp2_with (at_builtin; refine wpList_append_lies _ rfl (.tmp 25) (.tmp 30) 54 rfl w.heap.size 5 i0 (.int .u8 0) 1 1 Tryz.underlying54 (unhide Hi) (unhide Hz0) (unhide Hz1) (unhide Hz2) rfl (by omega) _ (8 * q + k) _ rfl (unhide Hown2) ⟨_, 0, none⟩ 1 1 [.int .u8 (y : Int)] rfl rfl (by intro j u hj; match j, hj with | 0, hj => simp at hj; subst hj; simp [Addr.add]) (by intro u hu; simp at hu; subst hu; rfl) (by omega) (by unfold maxLen; omega) (by omega) (by have := hb'.size; simp; omega) _ rfl ?_)
          intro g cap w1 hown1 hgrow hat hlt1
          rw [unhide Hval] at hown1
          have hsz1 : (wr.alloc (.cells #[.int .u8 (y : Int)] 5)).heap.size = wr.heap.size + 1 := by simp
          have hb2 : Below w.heap.size w w1 := (hb'.alloc hb'.size _).grown hgrow (by have := hb'.size; rw [hsz1]; omega) (fun k e => ((unhide Hown).lt k e).1)
          have Hown1 := hide hown1
          clear hown1 hgrow hat hlt1 Hown2 Hown
          go_wp2
          go_roundw
          case rel => exact ⟨k + 1, _, by omega, by go_num, by rw [unhide Hnext]; go_num, rfl, unhide Hown1, hb2⟩
          case measure => simp [intOf]; omega
        · have : k = 8 := by omega
          subst this
          have hdk : decide (((8 : Nat) : Int) < 8) = false := by decide
          have Hown8 := hide hown
          clear hown
          go_wp2
          go_roundw
          case rel => exact ⟨q + 1, _, by omega, by go_num, rfl, unhide Hown8, hb'⟩
          case measure => simp [intOf]; omega
    · have : q = s.size := by omega
      subst this
      have hdq : decide ((s.size : Int) < (s.size : Int)) = false := by simp
      have ht := own_text _ _ _ _ _ hown
      rw [← unhide HC] at ht
      have ht' : (convert 54 9 _).run Tryz.prog wr = .ok (.string (bt C (tv s))) wr := ht
      clear hown ht
      go_wp2
      go_ret
      exact ⟨rfl, hb⟩
end Go.Proofs.YtbbcfghlhgaofadGreatDoor
namespace Go.Proofs.YtbbcfghlhgaofadGreatDoor
open Go.RowKit

theorem bt_cut (c N a d : Nat) (h : a + d ≤ c) : (bt c N).extract a (a + d) = bt d (N / 2 ^ a) := by
  apply text_ext
  rw [bt_list, ← Bt.drop_take c N a d h, ← bt_list, ByteArray.data_extract, Array.toList_extract]
  simp [List.extract]

theorem low_step (N d j x b : Nat) (hj : j < d) (hd : d ≤ 32) (hb : b = Bt.bit N j) (hx : x = N % 2 ^ d / 2 ^ (j + 1)) : x * 2 + b = N % 2 ^ d / 2 ^ j ∧ x < 2147483648 ∧ b < 2 := by
  have h1 := Bt.from_above N d j hj
  have h2 : N % 2 ^ d / 2 ^ j < 4294967296 := Nat.lt_of_le_of_lt (Nat.div_le_self _ _) (Nat.lt_of_lt_of_le (Nat.mod_lt _ (Nat.two_pow_pos d)) (Nat.pow_le_pow_right (n := 2) (j := 32) (by omega) hd))
  have h3 := Bt.bit_lt N j
  rw [← hb, ← hx] at h1
  omega

set_option maxHeartbeats 400000 in
theorem lowOf_any (d N : Nat) (w : World) (hd : d ≤ 32) :
    Calls Tryz.prog 81 #[.string (bt d N)] w fun e w' => e = .returned (.int .u32 (N % 2 ^ d : Nat)) ∧ w' = w := by
  have hsz := bt_size d N
  have hszi : ((bt d N).size : Int) = (d : Int) := by omega
  go_enter Tryz.func81, Tryz.ntmps81
  go_wp2
  go_loop [3, 4] (fun m i => ∃ k : Nat, k ≤ d ∧ i = .int .i64 ((k : Int) - 1) ∧ m = .int .u32 (N % 2 ^ d / 2 ^ k : Nat)) (fun _ i => (intOf i + 1).toNat)
  case atStart => exact ⟨d, by omega, rfl, by rw [Nat.div_eq_of_lt (Nat.mod_lt _ (Nat.two_pow_pos d))]; rfl⟩
  case round =>
    obtain ⟨k, hk, rfl, rfl⟩ := hrel
    by_cases h0 : k = 0
    · subst h0
      have hd0 : decide ((0 : Int) ≤ ((0 : Nat) : Int) - 1) = false := by decide
      go_wp2
      go_ret
      exact ⟨ret_int (by simp), rfl⟩
    · obtain ⟨j, rfl⟩ : ∃ j, k = j + 1 := ⟨k - 1, by omega⟩
      have hji : ((j + 1 : Nat) : Int) - 1 = (j : Int) := by omega
      rw [hji]
      have hd0 : decide ((0 : Int) ≤ (j : Int)) = true := by simp
      have hjs : j < (bt d N).size := by omega
      have hbit := bt_bits d N j hjs
      obtain ⟨x, hx⟩ : ∃ x, x = N % 2 ^ d / 2 ^ (j + 1) := ⟨_, rfl⟩
      obtain ⟨b, hb⟩ : ∃ b, b = Bt.bit N j := ⟨_, rfl⟩
      obtain ⟨hs1, hs2, hs3⟩ := low_step N d j x b (by omega) hd hb hx
      rw [← hx]
      obtain ⟨y, hy⟩ : ∃ y, y = 48 + b := ⟨_, rfl⟩
      rw [← hb, ← hy] at hbit
      have hy48 : ((y : Int) - 48) = (b : Int) := by omega
      have hyb : y < 50 := by omega
      have Hs := hide hs1
      clear hx hb hs1 hy
      go_wp2
      go_round
      case rel => exact ⟨j, by omega, by go_num, by rw [← unhide Hs]; go_num⟩
      case measure => simp [intOf]
end Go.Proofs.YtbbcfghlhgaofadGreatDoor
