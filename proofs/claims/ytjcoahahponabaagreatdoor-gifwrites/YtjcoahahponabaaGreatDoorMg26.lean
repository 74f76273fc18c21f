/- Rows of listed words. Walks of the document's own bits, put: as texts of noughts and ones. Walk: the document's packing of numbers. -/
import Derived.Test.YtjcoahahponabaaGreatDoorMg17
import Derived.Test.YtjcoahahponabaaGreatDoorMg7
import Derived.Test.YtjcoahahponabaaGreatDoorMg5
import Derived.Deep.OwnRows
import Derived.Test.YtjcoahahponabaaGreatDoorMg25
import Derived.Deep.RegionHeld
namespace Go.Proofs.YtjcoahahponabaaGreatDoor
open Go.RowKit

/-! ### Listed words -/
/-- Words and their numbers, from K on. -/
def lstV (K : Nat) : List (List UInt8) → List Value
  | [] => []
  | t :: T => .string ⟨t.toArray⟩ :: .int .i64 (K : Int) :: lstV (K + 1) T
theorem lstV_length (T : List (List UInt8)) : ∀ K, (lstV K T).length = T.length * 2 := by
  induction T with
  | nil => intro K; rfl
  | cons t T ih => intro K; simp [lstV, ih, Nat.add_mul]
theorem lstV_append (T : List (List UInt8)) (x : List UInt8) : ∀ K, lstV K (T ++ [x]) = lstV K T ++ [.string ⟨x.toArray⟩, .int .i64 ((K + T.length : Nat) : Int)] := by
  induction T with
  | nil => intro K; rfl
  | cons t T ih =>
    intro K
    simp only [List.cons_append, lstV, ih (K + 1), List.length_cons]
    rw [show K + 1 + T.length = K + (T.length + 1) by omega]
theorem lstV_at (T : List (List UInt8)) : ∀ (K j : Nat), j < T.length → (lstV K T)[j * 2]? = some (.string ⟨(T.getD j []).toArray⟩) ∧ (lstV K T)[j * 2 + 1]? = some (.int .i64 ((K + j : Nat) : Int)) := by
  induction T with
  | nil => intro K j h; simp at h
  | cons t T ih =>
    intro K j h
    cases j with
    | zero => exact ⟨rfl, rfl⟩
    | succ j =>
      obtain ⟨h1, h2⟩ := ih (K + 1) j (by simpa using h)
      rw [show (j + 1) * 2 = j * 2 + 1 + 1 by omega]
      refine ⟨?_, ?_⟩
      · simpa [lstV] using h1
      · rw [show K + (j + 1) = K + 1 + j by omega]
        simpa [lstV] using h2

theorem info_ls : (Tryz.prog.info? 149).map (fun i => (i.zero, i.size, i.bytes)) = some (some (.agg #[.string ⟨#[]⟩, .int .i64 0]), 2, 24) := by kernel_rfl
theorem app_ls (w : World) (base q K : Nat) (v : Value) (T : List (List UInt8)) (x : List UInt8) (t : TypeId) (hown : w.ownsRow base 149 2 v T.length (lstV K T)) (h0 : w.cell? ⟨q, 0, none⟩ = some (.string ⟨x.toArray⟩)) (h1 : w.cell? ⟨q, 1, none⟩ = some (.int .i64 ((K + T.length : Nat) : Int))) (hl : T.length ≤ 1000000) (hb : base ≤ w.heap.size) :
    ∃ v' w', (Builtin.append_ #[147, 147] t #[v, .slice (some ⟨q, 0, none⟩) 1 1]).run Tryz.prog w = .ok v' w' ∧ w'.ownsRow base 149 2 v' (T ++ [x]).length (lstV K (T ++ [x])) ∧ w.grownBy w' v.ownBlock ∧ (v'.ownBlock = v.ownBlock ∨ v'.ownBlock = some w.heap.size) := by
  obtain ⟨i0, hi, hz0, hz1, hz2⟩ := info_parts info_ls
  obtain ⟨v', w', a1, a2, a3, _, a5⟩ := run_append_own_at (P := Tryz.prog) w base 147 t 149 i0 (.agg #[.string ⟨#[]⟩, .int .i64 0]) 2 24 Tryz.underlying147 hi hz0 hz1 hz2 rfl (by omega) v T.length (lstV K T) hown ⟨q, 0, none⟩ 1 1 [.string ⟨x.toArray⟩, .int .i64 ((K + T.length : Nat) : Int)] rfl (fun j u hj => by
    rw [addr_add, Nat.zero_add]
    match j, hj with
    | 0, hj => rw [h0]; simpa using hj
    | 1, hj => rw [h1]; simpa using hj
    | j + 2, hj => simp at hj) (fun u hu => by
    simp only [List.mem_cons, List.not_mem_nil, or_false] at hu
    rcases hu with rfl | rfl <;> rfl) (by unfold maxLen; omega) (by omega) hb
  refine ⟨v', w', a1, ?_, a3, a5⟩
  rw [lstV_append, List.length_append]
  exact a2
theorem wpList_appLs (w : World) {ops : Array Oper} {rest : List Oper} {o : Oper} {a : Act} {Q : Exit → Act → World → Prop} (hgd : o.guard = none) (s x : Operand)
    (ho : o.op = .call { callee := .builtin .append, args := #[s, x], argTypes := #[147, 147] }) (base q K : Nat) (v : Value) (T : List (List UInt8)) (y : List UInt8) (hs : a.eval s = v) (hx : a.eval x = .slice (some ⟨q, 0, none⟩) 1 1)
    (hown : w.ownsRow base 149 2 v T.length (lstV K T)) (h0 : w.cell? ⟨q, 0, none⟩ = some (.string ⟨y.toArray⟩)) (h1 : w.cell? ⟨q, 1, none⟩ = some (.int .i64 ((K + T.length : Nat) : Int))) (hl : T.length ≤ 1000000) (hb : base ≤ w.heap.size)
    (h : ∀ v' w', w'.ownsRow base 149 2 v' (T ++ [y]).length (lstV K (T ++ [y])) → w.grownBy w' v.ownBlock → (v'.ownBlock = v.ownBlock ∨ v'.ownBlock = some w.heap.size) → wpList Tryz.prog ops Q rest (a.put o.dst v') w') : wpList Tryz.prog ops Q (o :: rest) a w := by
  obtain ⟨v', w', a1, a2, a3, a5⟩ := app_ls w base q K v T y o.type hown h0 h1 hl hb
  refine wpList_plain hgd fun _ hK => ?_
  unfold Oper.wp execOp
  simp only [ho, resolve, invoke, builtin, Sem.run_bind, Sem.run_pure, Result.andThen_ok, List.map_toArray, List.map_cons, List.map_nil, hs, hx, a1]
  exact hK _ _ (h v' w' a2 a3 a5)
end Go.Proofs.YtjcoahahponabaaGreatDoor
namespace Go.Proofs.YtjcoahahponabaaGreatDoor
open Go.RowKit

set_option maxHeartbeats 400000 in
theorem low_any (n d : Nat) (w : World) (hn : n < 4294967296) (hd : d ≤ 32) :
    Calls Tryz.prog 96 #[.int .u32 (n : Int), .int .i64 (d : Int)] w fun e w' => e = .returned (.string (bt d n)) ∧ Below w.heap.size w w' := by
  go_enter Tryz.func96, Tryz.ntmps96
  go_wp2
  go_loopw [0, 5, 6] (fun m o i wr => ∃ k : Nat, k ≤ d ∧ i = .int .i64 k ∧ m = .int .u32 ((n / 2 ^ k : Nat) : Int) ∧ o = .string (bt k n) ∧ Below w.heap.size w wr) (fun _ _ i _ => d - (intOf i).toNat)
  case atStart => exact ⟨0, by omega, rfl, by simp, rfl, Below.refl _ _⟩
  case round =>
    obtain ⟨k, hk, rfl, rfl, rfl, hb⟩ := hrel
    by_cases hlt : k < d
    · have hdk : decide ((k : Int) < (d : Int)) = true := by simp; omega
      have ht := shr_lt n k hn
      have Hbit := hide (show Bt.bit n k = n / 2 ^ k % 2 from rfl)
      have Hnext := hide (show n / 2 ^ (k + 1) = n / 2 ^ k / 2 by rw [Nat.pow_succ, Nat.div_div_eq_div_mul])
      have Hs := hide (bt_succ k n)
      have hsz := bt_size k n
      generalize n / 2 ^ k = t at *
      obtain ⟨y, hy⟩ : ∃ y, y = 48 + t % 2 := ⟨_, rfl⟩
      have ha : (48 : Int) + (t : Int) % 2 = (y : Int) := by omega
      have hyl : y < 256 := by omega
      have Hy := hide hy
      clear hy
      generalize bt k n = s at *
      go_wp2_with fail
      refine (byte_any y _ hyl).mono ?_; rintro e w2 ⟨rfl, hb2⟩
      go_wp2
      go_roundw
      case rel => exact ⟨k + 1, by omega, by go_num, by rw [unhide Hnext]; go_num, by rw [← unhide Hs, unhide Hbit, unhide Hy], hb.trans (hb2.mono hb.size)⟩
      case measure => simp [intOf]; omega
    · have : k = d := by omega
      subst this
      have hdk : decide ((k : Int) < (k : Int)) = false := by simp
      go_wp2
      go_ret
      exact ⟨rfl, hb⟩

theorem packed_bit (m i N : Nat) (hb : Bt.bit N i = 1) : Bt.yl m (N % 2 ^ (i + 1)) = (Bt.yl m (N % 2 ^ i)).set (i / 8) (UInt8.ofNat (N % 2 ^ i / 256 ^ (i / 8) + 2 ^ (i % 8))) := by
  rw [Bt.mod_succ, Bt.yl_bit m i (N % 2 ^ i) _ (Nat.mod_lt _ (Nat.two_pow_pos i)) (by omega), hb, Nat.mul_one]
theorem packed_not (m i N : Nat) (hb : Bt.bit N i = 0) : Bt.yl m (N % 2 ^ (i + 1)) = Bt.yl m (N % 2 ^ i) := by
  rw [Bt.mod_succ, hb, Nat.mul_zero, Nat.add_zero]

theorem yl_noughts (m : Nat) : byteVals (Bt.yl m 0) = List.replicate m (.int .u8 0) := by
  apply List.ext_getElem?
  intro j
  rw [byteVals_at]
  by_cases h : j < m
  · rw [Bt.yl_at _ _ _ h, List.getElem?_replicate, if_pos h, Nat.zero_div]; rfl
  · rw [List.getElem?_eq_none (by rw [Bt.yl_length]; omega), List.getElem?_eq_none (by simp; omega)]; rfl

/-- What is stored where a bit is 1. -/
theorem packed_in (x r : Nat) : ((x : Int) + 2 ^ r) % 256 = ((UInt8.ofNat (x + 2 ^ r)).toNat : Int) := by
  rw [show ((2 : Int) ^ r) = ((2 ^ r : Nat) : Int) from by simp]
  generalize 2 ^ r = p at *
  rw [UInt8.toNat_ofNat']
  omega

set_option maxHeartbeats 400000 in
theorem packed_any (c N : Nat) (w : World) (hN : N < 2 ^ c) (hc : c ≤ 4000000) :
    Calls Tryz.prog 97 #[.string (bt c N)] w fun e w' => e = .returned (.string ⟨(Bt.yl ((c + 7) / 8) N).toArray⟩) ∧ Below w.heap.size w w' := by
  have hsz := bt_size c N
  have hbits : ∀ k (hk : k < (bt c N).size), (bt c N)[k].toNat = 48 + Bt.bit N k := fun k hk => by
    have h1 : (bt c N).data.toList[k]? = some (UInt8.ofNat (48 + Bt.bit N k)) := by rw [bt_list, Bt.bl_at _ _ _ (by omega)]
    have h2 : (bt c N).data.toList[k]? = some (bt c N)[k] := by
      rw [List.getElem?_eq_getElem (by simpa using hk)]; rfl
    rw [h2] at h1
    have := Bt.bit_lt N k
    rw [Option.some.inj h1, UInt8.toNat_ofNat']
    omega
  obtain ⟨m, hm⟩ : ∃ m, m = (c + 7) / 8 := ⟨_, rfl⟩
  rw [← hm]
  have hmk := run_make_row' (P := Tryz.prog) 107 5 (.int .u8 0) 1 Tryz.underlying107 info_u8 rfl .i64 .i64 m (by omega) (by omega)
  have hm8 : ((c : Int) + 7) / 8 = (m : Int) := by omega
  have Hm := hide hm
  have Hbits := hide hbits
  have Hsz := hide hsz
  have hmb : m ≤ 600000 := by omega
  have hszi : ((bt c N).size : Int) = (c : Int) := by omega
  have hown0 : (w.alloc (.cells (madeCells #[.int .u8 0] m) 5)).ownsRow w.heap.size 5 1 (.slice (some ⟨w.heap.size, 0, none⟩) m m) m (byteVals (Bt.yl m (N % 2 ^ 0))) := by
    rw [Nat.pow_zero, Nat.mod_one, yl_noughts]
    have := World.ownsRow_lit (base := w.heap.size) (e := 5) (size := 1) w (madeCells #[.int .u8 0] m) m (Nat.le_refl _) (by unfold maxLen; omega) (by rw [size_madeCells, Nat.mul_one])
    rw [toList_madeCells_one] at this
    exact this
  have Hown0 := hide hown0
  have hb0 : Below w.heap.size w (w.alloc (.cells (madeCells #[.int .u8 0] m) 5)) := (Below.refl _ _).alloc (Nat.le_refl _) _
  clear hm hbits hsz hown0
  go_enter Tryz.func97, Tryz.ntmps97
  go_wp2
  clear hmk
  generalize w.alloc (.cells (madeCells #[.int .u8 0] m) 5) = w0 at *
  go_loopw [4] (fun i wr => ∃ k : Nat, k ≤ c ∧ i = .int .i64 k ∧ wr.ownsRow w.heap.size 5 1 (.slice (some ⟨w.heap.size, 0, none⟩) m m) m (byteVals (Bt.yl m (N % 2 ^ k))) ∧ Below w.heap.size w wr) (fun i _ => c - (intOf i).toNat)
  case atStart => exact ⟨0, by omega, rfl, unhide Hown0, hb0⟩
  case round =>
    obtain ⟨k, hk, rfl, hown, hb⟩ := hrel
    by_cases hlt : k < c
    · have hdk : decide ((k : Int) < (c : Int)) = true := by simp; omega
      have hks : k < (bt c N).size := by have := unhide Hsz; omega
      have hbk := unhide Hbits k hks
      obtain ⟨q, hq⟩ : ∃ q, q = k / 8 := ⟨_, rfl⟩
      have hq1 : (k : Int) / 8 = (q : Int) := by omega
      obtain ⟨r, hr⟩ : ∃ r, r = k % 8 := ⟨_, rfl⟩
      have hr1 : (k : Int) % 8 = (r : Int) := by omega
      have hqm : (q : Int) < (m : Int) := by have := unhide Hm; omega
      have hqm' : q < m := by omega
      have hcell := hown.cellAt q (by omega)
      have hfrz := hown.frozenAt q
      rw [byteVals_at, Bt.yl_at _ _ _ (by omega)] at hcell
      by_cases hbit : Bt.bit N k = 1
      · have hp := packed_bit m k N hbit
        rw [← hq, ← hr] at hp
        rw [hbit] at hbk
        have hrl : r < 8 := by omega
        have hst := (hown.stored q (.int .u8 ((UInt8.ofNat (N % 2 ^ k / 256 ^ q + 2 ^ r)).toNat : Int))).1
        rw [byteVals_set, ← hp] at hst
        have Hst := hide hst
        have hkb : (k : Int) < 4000000 := by omega
        have hy : (((bt c N)[k].toNat : Int) == 49) = true := by rw [hbk]; rfl
        have Hin := hide (packed_in (N % 2 ^ k / 256 ^ q) r)
        generalize N % 2 ^ k / 256 ^ q = x at *
        clear hst hown hp hbk hbit hq hr
        go_wp2
        go_region
        go_wp2
        go_roundw
        case rel => exact ⟨k + 1, by omega, by go_num, by rw [unhide Hin]; exact (unhide Hst), (hb.setCell (Nat.le_refl _) _).drew⟩
        case measure => simp [intOf]; omega
      · have hbit0 : Bt.bit N k = 0 := by have := Bt.bit_lt N k; omega
        have hp := packed_not m k N hbit0
        rw [hbit0] at hbk
        rw [← hp] at hown
        have Hown := hide hown
        clear hown hcell hfrz hp hbit
        have hy : (((bt c N)[k].toNat : Int) == 49) = false := by rw [hbk]; rfl
        clear hbk
        go_wp2
        go_roundw
        case rel => exact ⟨k + 1, by omega, by go_num, unhide Hown, hb⟩
        case measure => simp [intOf]; omega
    · have : k = c := by omega
      subst this
      have hdk : decide ((k : Int) < (k : Int)) = false := by simp
      rw [Nat.mod_eq_of_lt hN] at hown
      have ht := own_text wr _ _ _ _ hown
      clear hown
      go_wp2
      go_ret
      exact ⟨rfl, hb⟩
end Go.Proofs.YtjcoahahponabaaGreatDoor
namespace Go.Proofs.YtjcoahahponabaaGreatDoor
open Go.RowKit Lz
open Ps (Pc len val Fit)

theorem shl_wrapK (W : Nat) (h : W ≤ 12) : wrap64 ((2 : Int) ^ W) = ((2 ^ W : Nat) : Int) := by
  have h1 : 2 ^ W ≤ 2 ^ 12 := Nat.pow_le_pow_right (by omega) h
  rw [show ((2 : Int) ^ W) = ((2 ^ W : Nat) : Int) from by simp]
  generalize 2 ^ W = p at *
  unfold wrap64
  omega
theorem shl_u32K (W : Nat) (h : W ≤ 12) : (2 : Int) ^ W % 4294967296 = ((2 ^ W : Nat) : Int) := by
  have h1 : 2 ^ W ≤ 2 ^ 12 := Nat.pow_le_pow_right (by omega) h
  rw [show ((2 : Int) ^ W) = ((2 ^ W : Nat) : Int) from by simp]
  generalize 2 ^ W = p at *
  omega
theorem eq_pow {a S Y : Nat} (hS : wrap64 ((2 : Int) ^ S) = (Y : Int)) (h : a = Y) : ((a : Int) == wrap64 ((2 : Int) ^ S)) = true := by rw [hS, h]; simp
theorem ne_pow {a S Y : Nat} (hS : wrap64 ((2 : Int) ^ S) = (Y : Int)) (h : ¬ a = Y) : ((a : Int) == wrap64 ((2 : Int) ^ S)) = false := by
  rw [hS, beq_eq_false_iff_ne]
  intro q
  exact h (Int.ofNat_inj.1 q)
theorem eq_powA {X i S Y : Nat} (hS : wrap64 ((2 : Int) ^ S) = (Y : Int)) (h : X + 2 + i = Y) : ((X : Int) + 2 + (i : Int) == wrap64 ((2 : Int) ^ S)) = true := eq_pow (a := X + 2 + i) hS h
theorem ne_powA {X i S Y : Nat} (hS : wrap64 ((2 : Int) ^ S) = (Y : Int)) (h : ¬ X + 2 + i = Y) : ((X : Int) + 2 + (i : Int) == wrap64 ((2 : Int) ^ S)) = false := ne_pow (a := X + 2 + i) hS h
theorem eq_natA {X i Y : Nat} (h : X + 2 + i = Y) : ((X : Int) + 2 + (i : Int) == (Y : Int)) = true := by rw [← h]; simp
theorem ne_natA {X i Y : Nat} (h : ¬ X + 2 + i = Y) : ((X : Int) + 2 + (i : Int) == (Y : Int)) = false := by
  rw [beq_eq_false_iff_ne]
  intro q
  exact h (by omega)
theorem pow12 (S : Nat) (h : S ≤ 12) : 2 ^ S ≤ 4096 := Nat.pow_le_pow_right (n := 2) (j := 12) (by omega) h

/-- The document's packing in memory. -/
structure DM (w : World) (B W : Nat) (vB vL : Value) (T : List (List UInt8)) (ls : List Pc) : Prop where
  bits : OwnM w B vB (Bt.bl (len ls) (val ls))
  list : w.ownsRow B 149 2 vL T.length (lstV (2 ^ W + 2) T)
  apart : ∀ k, vB.ownBlock = some k → vL.ownBlock ≠ some k

theorem list_keep {w w' : World} {B n : Nat} {vL : Value} {xs : List Value} (h : w.ownsRow B 149 2 vL n xs) (hb : ∀ k, vL.ownBlock = some k → w'.heap[k]? = w.heap[k]?) : w'.ownsRow B 149 2 vL n xs := by
  refine ⟨h.1, ?_⟩
  rcases h.2 with q | ⟨g, cap, cur, rfl, hg, hh, r⟩
  · exact .inl q
  · exact .inr ⟨g, cap, cur, rfl, hg, by rw [hb g rfl]; exact hh, r⟩
theorem DM.below {w w' : World} {B W : Nat} {vB vL : Value} {T : List (List UInt8)} {ls : List Pc} (h : DM w B W vB vL T ls) (hb : Below w.heap.size w w') : DM w' B W vB vL T ls :=
  ⟨h.bits.below hb, list_keep h.list (fun k e => hb.block k (h.list.lt k e).2), h.apart⟩
/-- But for a block that is none of the two. -/
theorem DM.but {w w' : World} {B W p : Nat} {vB vL : Value} {T : List (List UInt8)} {ls : List Pc} (h : DM w B W vB vL T ls) (hb : But (· = p) w w') (h1 : vB.ownBlock ≠ some p) (h2 : vL.ownBlock ≠ some p) : DM w' B W vB vL T ls :=
  ⟨h.bits.keep (fun k e => hb.block k (h.bits.lt k e).2 (fun q => h1 (by rw [e, q]))) hb.size, list_keep h.list (fun k e => hb.block k (h.list.lt k e).2 (fun q => h2 (by rw [e, q]))), h.apart⟩
theorem OwnM.mono {w : World} {base base' : Nat} {v : Value} {l : List UInt8} (h : OwnM w base v l) (hb : base' ≤ base) : OwnM w base' v l := by
  obtain ⟨g, cap, e, hg, r⟩ := h.ex
  exact ⟨⟨g, cap, e, by omega, r⟩⟩
theorem DM.pushB {w w' : World} {B W : Nat} {vB vL vB' : Value} {T : List (List UInt8)} {ls : List Pc} {q : Pc} (h : DM w B W vB vL T ls) (ho : OwnM w' B vB' (Bt.bl (len (ls ++ [q])) (val (ls ++ [q])))) (hg : w.grownBy w' vB.ownBlock) (hat : vB'.ownBlock = vB.ownBlock ∨ vB'.ownBlock = some w.heap.size) (hB : B ≤ w.heap.size) : DM w' B W vB' vL T (ls ++ [q]) ∧ Below B w w' := by
  refine ⟨⟨ho, list_keep h.list (fun k e => hg.block k (h.list.lt k e).2 (fun q => h.apart k q.symm e)), fun k e1 e2 => ?_⟩, ⟨hg.os, hg.tape, hg.output, hg.size, fun k hk => hg.block k (by omega) (fun e => by have := (h.bits.lt k e.symm).1; omega)⟩⟩
  rcases hat with e | e
  · exact h.apart k (e ▸ e1) e2
  · rw [e1] at e
    injection e with e
    have := (h.list.lt k e2).2
    omega
theorem DM.pushL {w w0 w' : World} {B W : Nat} {vB vL vL' : Value} {T : List (List UInt8)} {x : List UInt8} {ls : List Pc} (h : DM w B W vB vL T ls) (h0 : Below w.heap.size w w0) (ho : w'.ownsRow B 149 2 vL' (T ++ [x]).length (lstV (2 ^ W + 2) (T ++ [x]))) (hg : w0.grownBy w' vL.ownBlock) (hat : vL'.ownBlock = vL.ownBlock ∨ vL'.ownBlock = some w0.heap.size) (hB : B ≤ w.heap.size) : DM w' B W vB vL' (T ++ [x]) ls ∧ Below B w w' := by
  have hs0 := h0.size
  refine ⟨⟨h.bits.keep (fun k e => ?_) (Nat.le_trans hs0 hg.size), ho, fun k e1 e2 => ?_⟩, ⟨hg.os.trans h0.os, hg.tape.trans h0.tape, hg.output.trans h0.output, Nat.le_trans hs0 hg.size, fun k hk => ?_⟩⟩
  · have hl := (h.bits.lt k e).2
    rw [hg.block k (by omega) (fun q => h.apart k e q.symm), h0.block k hl]
  · rcases hat with e | e
    · exact h.apart k e1 (e ▸ e2)
    · rw [e2] at e
      injection e with e
      have := (h.bits.lt k e1).2
      omega
  · rw [hg.block k (by omega) (fun e => by have := (h.list.lt k e.symm).1; omega), h0.block k (by omega)]
theorem DM.none_ {w : World} {B W : Nat} {vB vL : Value} {T : List (List UInt8)} {ls : List Pc} (h : DM w B W vB vL T ls) : DM w B W vB (.slice none 0 0) [] ls :=
  ⟨h.bits, World.ownsRow_nil w B _ 2, fun k _ e => by simp [Value.ownBlock] at e⟩
theorem DM.word {w : World} {B W n cL : Nat} {vB : Value} {aL : Option Addr} {T : List (List UInt8)} {ls : List Pc} (h : DM w B W vB (.slice aL n cL) T ls) (hn : n = T.length) (i : Nat) (hi : i < n) : ∃ g, aL = some ⟨g, 0, none⟩ ∧ w.cell? ⟨g, i * 2, none⟩ = some (.string ⟨(T.getD i []).toArray⟩) ∧ w.cell? ⟨g, i * 2 + 1, none⟩ = some (.int .i64 ((2 ^ W + 2 + i : Nat) : Int)) := by
  subst hn
  obtain ⟨h1, h2⟩ := lstV_at T (2 ^ W + 2) i hi
  rcases h.list.2 with ⟨e, e2⟩ | ⟨g, cap, cur, e, _⟩
  · omega
  · injection e with e1 e2 e3
    subst e1 e3
    exact ⟨g, rfl, (h.list.cellAt (i * 2) (by omega)).trans h1, (h.list.cellAt (i * 2 + 1) (by omega)).trans h2⟩

theorem bl_more {l : List Pc} (hf : Fit l) (q : Pc) : Bt.bl (len l) (val l) ++ Bt.bl q.2 q.1 = Bt.bl (len (l ++ [q])) (val (l ++ [q])) := by
  rw [Bt.bl_append _ _ _ _ (Ps.val_lt hf), Ps.len_append, Ps.val_append]
  simp [len, val]

theorem own_shapeL {w : World} {base size n : Nat} {e : TypeId} {v : Value} {xs : List Value} (h : w.ownsRow base e size v n xs) : ∃ a c, v = .slice a n c := by
  rcases h.2 with ⟨rfl, rfl⟩ | ⟨g, c, cur, rfl, _⟩
  · exact ⟨none, 0, rfl⟩
  · exact ⟨_, c, rfl⟩
theorem size_of (y : ByteArray) {l : List UInt8} (h : y.data.toList = l) : y.size = l.length := by
  rw [← h]; simp
theorem mid_text (s : ByteArray) (k n : Nat) : (s.extract k (k + n)).data.toList = (s.data.toList.drop k).take n := by
  simp [List.take_drop]
theorem two_newA (w : World) (v0 v1 : Value) (t : TypeId) : (w.alloc (.cells #[v0, v1] t)).drew.cell? ⟨w.heap.size, 0, none⟩ = some v0 := by
  show (w.alloc (.cells #[v0, v1] t)).cell? _ = _
  simp
theorem two_newB (w : World) (v0 v1 : Value) (t : TypeId) : (w.alloc (.cells #[v0, v1] t)).drew.cell? ⟨w.heap.size, 1, none⟩ = some v1 := by
  show (w.alloc (.cells #[v0, v1] t)).cell? _ = _
  simp
theorem two_newF (w : World) (v0 v1 : Value) (t : TypeId) (j : Nat) : (w.alloc (.cells #[v0, v1] t)).drew.frozen? ⟨w.heap.size, j, none⟩ = false := by
  show (w.alloc (.cells #[v0, v1] t)).frozen? _ = _
  simp
theorem one_text (s : ByteArray) (k : Nat) (h : k < s.size) : (s.extract k (k + 1)).data.toList = [s[k]] := by
  have h' : k < s.data.toList.length := by simpa using h
  simp only [ByteArray.data_extract, Array.toList_extract, List.extract_eq_take_drop]
  rw [List.drop_eq_getElem_cons h', Nat.add_sub_cancel_left]
  simp
  rfl
theorem drop_one (s : ByteArray) (k : Nat) (h : k < s.size) : s.data.toList.drop k = s[k] :: s.data.toList.drop (k + 1) := by
  have h' : k < s.data.toList.length := by simpa using h
  rw [List.drop_eq_getElem_cons h']
  simp
  rfl
end Go.Proofs.YtjcoahahponabaaGreatDoor
