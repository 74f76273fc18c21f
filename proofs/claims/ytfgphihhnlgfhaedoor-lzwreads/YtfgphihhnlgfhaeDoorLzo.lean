/- Walk of the document's reading of codes. -/
import Derived.Test.YtfgphihhnlgfhaeDoorLzy
import Derived.Test.YtfgphihhnlgfhaeDoorLz1
import Derived.Test.YtfgphihhnlgfhaeDoorBG2
import Derived.Lib.AppendStr
import Derived.Deep.DeepCutAuto
import Derived.Deep.CutBlock
namespace Go.Proofs.YtfgphihhnlgfhaeDoor
open Go.RowKit Lz

def wdVals (l : List (List UInt8)) : List Value := l.map fun x => .string ⟨x.toArray⟩
theorem wdVals_append (a b : List (List UInt8)) : wdVals (a ++ b) = wdVals a ++ wdVals b := by simp [wdVals]
theorem wdVals_at (l : List (List UInt8)) (j : Nat) (h : j < l.length) : (wdVals l)[j]? = some (.string ⟨(l.getD j []).toArray⟩) := by
  simp [wdVals, List.getElem?_eq_getElem h]
theorem str_cells2 (s : ByteArray) : Lib.strCells s = byteVals s.data.toList := by simp [Lib.strCells, byteVals]

theorem info_str : (Tryd.prog.info? 9).map (fun i => (i.zero, i.size, i.bytes)) = some (some (.string ⟨#[]⟩), 1, 16) := by kernel_rfl
theorem app_wd (w : World) (base q : Nat) (v : Value) (l : List (List UInt8)) (x : List UInt8) (t : TypeId) (hown : w.ownsRow base 9 1 v l.length (wdVals l)) (hq : w.cell? ⟨q, 0, none⟩ = some (.string ⟨x.toArray⟩)) (hl : l.length ≤ 1000000) (hb : base ≤ w.heap.size) :
    ∃ v' w', (Builtin.append_ #[78, 78] t #[v, .slice (some ⟨q, 0, none⟩) 1 1]).run Tryd.prog w = .ok v' w' ∧ w'.ownsRow base 9 1 v' (l ++ [x]).length (wdVals (l ++ [x])) ∧ w.grownBy w' v.ownBlock ∧ (v'.ownBlock = v.ownBlock ∨ v'.ownBlock = some w.heap.size) := by
  obtain ⟨i0, hi, hz0, hz1, hz2⟩ := info_parts info_str
  obtain ⟨v', w', h1, h2, h3, h4, h5⟩ := run_append_own_at (P := Tryd.prog) w base 78 t 9 i0 (.string ⟨#[]⟩) 1 16 Tryd.underlying78 hi hz0 hz1 hz2 rfl (by omega) v l.length (wdVals l) hown ⟨q, 0, none⟩ 1 1 [.string ⟨x.toArray⟩] rfl (fun j u hj => by
    match j, hj with
    | 0, hj => rw [addr_add, Nat.zero_add, hq]; simpa using hj) (fun u hu => by rw [List.mem_singleton] at hu; subst hu; rfl) (by unfold maxLen; omega) (by omega) hb
  refine ⟨v', w', h1, ?_, h3, h5⟩
  rw [wdVals_append, List.length_append]
  exact h2
theorem wpList_appW (w : World) {ops : Array Oper} {rest : List Oper} {o : Oper} {a : Act} {Q : Exit → Act → World → Prop} (hgd : o.guard = none) (s x : Operand)
    (ho : o.op = .call { callee := .builtin .append, args := #[s, x], argTypes := #[78, 78] }) (base q : Nat) (v : Value) (l : List (List UInt8)) (y : List UInt8) (hs : a.eval s = v) (hx : a.eval x = .slice (some ⟨q, 0, none⟩) 1 1)
    (hown : w.ownsRow base 9 1 v l.length (wdVals l)) (hq : w.cell? ⟨q, 0, none⟩ = some (.string ⟨y.toArray⟩)) (hl : l.length ≤ 1000000) (hb : base ≤ w.heap.size)
    (h : ∀ v' w', w'.ownsRow base 9 1 v' (l ++ [y]).length (wdVals (l ++ [y])) → w.grownBy w' v.ownBlock → wpList Tryd.prog ops Q rest (a.put o.dst v') w') : wpList Tryd.prog ops Q (o :: rest) a w := by
  obtain ⟨v', w', h1, h2, h3, _⟩ := app_wd w base q v l y o.type hown hq hl hb
  refine wpList_plain hgd fun _ hK => ?_
  unfold Oper.wp execOp
  simp only [ho, resolve, invoke, builtin, Sem.run_bind, Sem.run_pure, Result.andThen_ok, List.map_toArray, List.map_cons, List.map_nil, hs, hx, h1]
  exact hK _ _ (h v' w' h2 h3)
theorem app_str (w : World) (base : Nat) (v : Value) (l : List UInt8) (x : ByteArray) (ty : TypeId) (hown : w.ownsRow base 5 1 v l.length (byteVals l)) (hl : l.length + x.size ≤ 4000000) (hb : base ≤ w.heap.size) :
    ∃ v' w', (Builtin.append_ #[40, 9] ty #[v, .string x]).run Tryd.prog w = .ok v' w' ∧ w'.ownsRow base 5 1 v' (l ++ x.data.toList).length (byteVals (l ++ x.data.toList)) ∧ w.grownBy w' v.ownBlock := by
  obtain ⟨i, hi, hz0, hz1, hz2⟩ := info_parts info_u8
  obtain ⟨v', w', h1, h2, h3, _⟩ := Lib.run_append_own_string (P := Tryd.prog) w base 40 9 ty 5 i Tryd.underlying40 Tryd.underlying9 hi hz0 hz1 hz2 v l.length _ hown x (by unfold maxLen; omega) (by omega) hb
  refine ⟨v', w', h1, ?_, h3⟩
  rw [str_cells2] at h2
  rw [byteVals_append, List.length_append, size_list]
  exact h2
theorem wpList_appY (w : World) {ops : Array Oper} {rest : List Oper} {o : Oper} {a : Act} {Q : Exit → Act → World → Prop} (hgd : o.guard = none) (s x : Operand)
    (ho : o.op = .call { callee := .builtin .append, args := #[s, x], argTypes := #[40, 9] }) (base : Nat) (v : Value) (l : List UInt8) (y : ByteArray) (hs : a.eval s = v) (hx : a.eval x = .string y)
    (hown : w.ownsRow base 5 1 v l.length (byteVals l)) (hl : l.length + y.size ≤ 4000000) (hb : base ≤ w.heap.size)
    (h : ∀ v' w', w'.ownsRow base 5 1 v' (l ++ y.data.toList).length (byteVals (l ++ y.data.toList)) → w.grownBy w' v.ownBlock → wpList Tryd.prog ops Q rest (a.put o.dst v') w') : wpList Tryd.prog ops Q (o :: rest) a w := by
  obtain ⟨v', w', h1, h2, h3⟩ := app_str w base v l y o.type hown hl hb
  refine wpList_plain hgd fun _ hK => ?_
  unfold Oper.wp execOp
  simp only [ho, resolve, invoke, builtin, Sem.run_bind, Sem.run_pure, Result.andThen_ok, List.map_toArray, List.map_cons, List.map_nil, hs, hx, h1]
  exact hK _ _ (h v' w' h2 h3)

/-- The document's reading in memory. -/
structure DU (w : World) (B : Nat) (vW : Value) (words : List (List UInt8)) (vO : Value) (out : List UInt8) : Prop where
  oW : w.ownsRow B 9 1 vW words.length (wdVals words)
  oO : w.ownsRow B 5 1 vO out.length (byteVals out)
theorem DU.below {w w' : World} {B : Nat} {vW vO : Value} {words : List (List UInt8)} {out : List UInt8} (h : DU w B vW words vO out) (hb : Below w.heap.size w w') : DU w' B vW words vO out :=
  ⟨own_move h.oW (fun g q => hb.block g (h.oW.lt g q).2), own_move h.oO (fun g q => hb.block g (h.oO.lt g q).2)⟩
theorem DU.pushW {w w0 w1 : World} {B : Nat} {vW vO v' : Value} {words : List (List UInt8)} {out : List UInt8} {y : List UInt8} (h : DU w B vW words vO out) (h0 : Below w.heap.size w w0) (hown : w1.ownsRow B 9 1 v' (words ++ [y]).length (wdVals (words ++ [y]))) (hg : w0.grownBy w1 vW.ownBlock) (hB : B ≤ w.heap.size) : DU w1 B v' (words ++ [y]) vO out ∧ Below B w w1 := by
  have hz := h0.size
  refine ⟨⟨hown, own_move h.oO (fun g q => ?_)⟩, ⟨hg.os.trans h0.os, hg.tape.trans h0.tape, hg.output.trans h0.output, Nat.le_trans hz hg.size, fun i hi => ?_⟩⟩
  · rw [hg.block g (by have := (h.oO.lt g q).2; omega) (fun e => own_apart h.oO h.oW (by decide) g q e.symm), h0.block g (h.oO.lt g q).2]
  · rw [hg.block i (by omega) (fun e => by have := (h.oW.lt i e.symm).1; omega), h0.block i (by omega)]
theorem DU.pushO {w w1 : World} {B : Nat} {vW vO v' : Value} {words : List (List UInt8)} {out out' : List UInt8} (h : DU w B vW words vO out) (hown : w1.ownsRow B 5 1 v' out'.length (byteVals out')) (hg : w.grownBy w1 vO.ownBlock) (hB : B ≤ w.heap.size) : DU w1 B vW words v' out' ∧ Below B w w1 := by
  refine ⟨⟨own_move h.oW (fun g q => ?_), hown⟩, ⟨hg.os, hg.tape, hg.output, hg.size, fun i hi => ?_⟩⟩
  · exact hg.block g (h.oW.lt g q).2 (fun e => own_apart h.oW h.oO (by decide) g q e.symm)
  · exact hg.block i (by omega) (fun e => by have := (h.oO.lt i e.symm).1; omega)

theorem bytes_back (yb : ByteArray) : (⟨yb.data.toList.toArray⟩ : ByteArray) = yb := by cases yb; simp
theorem wordOf_le {W n M : Nat} {st : St} {x : List UInt8} (hw : ∀ y ∈ st.words, y.length ≤ M + 1) (ha : st.ahead.length ≤ M) (h : wordOf W st n = some x) : x.length ≤ M + 1 := by
  unfold wordOf at h
  split at h
  · injection h with h; subst h; simp
  · split at h
    · next q =>
      injection h with h
      subst h
      refine hw _ ?_
      rw [List.getD_eq_getElem?_getD, List.getElem?_eq_getElem q]
      exact List.getElem_mem q
    · split at h
      · injection h with h
        subst h
        rw [List.length_append, List.length_take]
        omega
      · cases h
theorem words'_le {W M : Nat} {st : St} {x : List UInt8} (hw : ∀ y ∈ st.words, y.length ≤ M + 1) (ha : st.ahead.length ≤ M) : ∀ y ∈ words' W st x, y.length ≤ M + 1 := by
  intro y hy
  unfold words' at hy
  split at hy
  · rcases List.mem_append.1 hy with q | q
    · exact hw y q
    · simp only [List.mem_singleton] at q
      subst q
      rw [List.length_append, List.length_take]
      omega
  · exact hw y hy
def unD : Res → Value
  | .text => .tuple #[.string ⟨#[]⟩, .int .i64 0, .int .i64 1]
  | .bound => .tuple #[.string ⟨#[]⟩, .int .i64 0, .int .i64 2]
  | .ok out k => .tuple #[.string ⟨out.toArray⟩, .int .i64 (((k + 7) / 8 : Nat) : Int), .int .i64 0]

theorem shl_wrap (W : Nat) (h : W ≤ 12) : wrap64 ((2 : Int) ^ W) = ((2 ^ W : Nat) : Int) := by
  have := shl_one W h
  rw [Int.one_mul, IntWalk.i64_left] at this
  exact this
theorem is_blank (u : ByteArray) (h : u.size = 0) : (u.toList == []) = true ∧ u.toList.isEmpty = true ∧ (u.toList == (⟨#[]⟩ : ByteArray).toList) = true ∧ u.toList = [] := by
  have hq : u.toList = [] := by
    rw [ByteArray.toList_eq]
    apply List.eq_nil_of_length_eq_zero
    rw [size_list]; exact h
  refine ⟨by simp [hq], by simp [hq], ?_, hq⟩
  rw [ByteArray.toList_eq ⟨#[]⟩, hq]; rfl
theorem bytes_size (l : List UInt8) : (⟨l.toArray⟩ : ByteArray).size = l.length := by show l.toArray.size = _; simp
set_option maxHeartbeats 8000000 in
set_option maxRecDepth 100000 in
theorem unlzw_in (s : ByteArray) (W most : Nat) (w : World) (hs : s.size ≤ 2000) (hW2 : 2 ≤ W) (hW : W ≤ 8) (hm : most ≤ 300000) :
    Calls Tryd.prog 14 #[.string s, .int .i64 (W : Int), .int .i64 (most : Int)] w fun e w' => e = .returned (unD (dec (tv s) (8 * s.size) W most (8 * s.size + 1) (Lz.start W))) ∧ Below w.heap.size w w' := by
  obtain ⟨G, hG⟩ : ∃ G, G = dec (tv s) (8 * s.size) W most (8 * s.size + 1) (Lz.start W) := ⟨_, rfl⟩
  rw [← hG]
  have HG := hide hG
  have HBI := hide (bits_any s w (by omega))
  have HBY : Hid (∀ (m : Nat) (w : World), m < 256 → Calls Tryd.prog 32 #[.int .i64 (m : Int)] w fun e w' => e = .returned (.string ⟨#[UInt8.ofNat m]⟩) ∧ Below w.heap.size w w') := fun m w h => byte_any m w h
  have hsz := bt_size (8 * s.size) (tv s)
  obtain ⟨nb, hnb⟩ : ∃ nb, nb = 8 * s.size := ⟨_, rfl⟩
  rw [← hnb] at HG HBI hsz
  have hnl : nb ≤ 16000 := by omega
  have hszi : ((bt nb (tv s)).size : Int) = (nb : Int) := by omega
  obtain ⟨hp4, hp256⟩ := pow_bits W hW2 hW
  obtain ⟨X, hX⟩ : ∃ X, X = 2 ^ W := ⟨_, rfl⟩
  have HSW : Hid (wrap64 ((2 : Int) ^ W) = (X : Int)) := by show _ = _; rw [hX]; exact shl_wrap W (by omega)
  have hW64 : decide ((W : Int) < 64) = true := by simp; omega
  have HX := hide hX
  rw [← hX] at hp4 hp256
  have d0 : decide ((W : Int) < 2) = false := by simp; omega
  have d1 : decide ((W : Int) > 8) = false := by simp; omega
  have d1' : decide ((8 : Int) < (W : Int)) = false := d1
  have d2 : decide ((most : Int) < 0) = false := by simp
  have d3 : decide ((most : Int) > 300000) = false := by simp; omega
  have d3' : decide ((300000 : Int) < (most : Int)) = false := d3
  have d4 : decide ((s.size : Int) > 300000) = false := by simp; omega
  have d4' : decide ((300000 : Int) < (s.size : Int)) = false := d4
  clear hG hnb hX
  go_enter Tryd.func14, Tryd.ntmps14
  go_wp2_with fail
  refine (unhide HBI).mono ?_; rintro e w1 ⟨rfl, hb1⟩
  have HB1 := hide hb1
  have hz1 : w.heap.size ≤ w1.heap.size := hb1.size
  clear HBI hb1
  go_wp2
  rw [unhide HSW]
  go_loopw [11, 12, 13, 14, 15] (fun vW sv av vO kv wr => ∃ (st : St) (aW aO : Option Addr) (cW cO : Nat) (ab : ByteArray) (f : Nat), vW = .slice aW st.words.length cW ∧ sv = .int .i64 (st.S : Int) ∧ av = .string ab ∧ vO = .slice aO st.out.length cO ∧ kv = .int .i64 (st.k : Int) ∧ Hid (ab.data.toList = st.ahead) ∧ Hid (DU wr w.heap.size (.slice aW st.words.length cW) st.words (.slice aO st.out.length cO) st.out) ∧ Hid (Lz.Good W st) ∧ Hid (st.out.length ≤ most) ∧ Hid (st.ahead.length ≤ most) ∧ Hid (∀ y ∈ st.words, y.length ≤ 300000 + 1) ∧ Hid (G = dec (tv s) nb W most f st) ∧ Hid (nb < st.k + f) ∧ st.k ≤ nb ∧ Hid (Below w.heap.size w wr) ∧ w.heap.size ≤ wr.heap.size) (fun _ _ _ _ kv _ => nb + 1 - (intOf kv).toNat)
  case atStart => exact ⟨Lz.start W, none, none, 0, 0, ⟨#[]⟩, nb + 1, rfl, by first | rfl | go_num, rfl, rfl, rfl, rfl, ⟨World.ownsRow_nil _ _ _ _, World.ownsRow_nil _ _ _ _⟩, good_start W hW 0 [], Nat.zero_le _, Nat.zero_le _, (fun y hy => by cases hy), HG, by show nb < 0 + (nb + 1); omega, Nat.zero_le _, HB1, hz1⟩
  case round =>
    clear HG HB1 hz1
    obtain ⟨st, aW, aO, cW, cO, ab, f, rfl, rfl, rfl, rfl, rfl, HAB, HD, HGD, HO, HAL, HWD, HGr, HF, hk, HB, hwz⟩ := hrel
    have hs1 := (unhide HGD).s1
    have hs12 := (unhide HGD).s12
    have hfull : X + 2 + st.words.length ≤ 4096 := by rw [unhide HX]; exact (unhide HGD).full
    have hol := unhide HO
    have hal := unhide HAL
    have has : ab.size = st.ahead.length := by rw [← unhide HAB, size_list]
    obtain ⟨f', hf'⟩ : ∃ f', f = f' + 1 := ⟨f - 1, by have := unhide HF; omega⟩
    subst hf'
    obtain ⟨L, hL⟩ : ∃ L, L = st.words.length := ⟨_, rfl⟩
    obtain ⟨m, hmm⟩ : ∃ m, m = st.out.length := ⟨_, rfl⟩
    obtain ⟨S, hS⟩ : ∃ S, S = st.S := ⟨_, rfl⟩
    obtain ⟨k, hkk⟩ : ∃ k, k = st.k := ⟨_, rfl⟩
    rw [← hL] at HD hfull ⊢
    rw [← hmm] at HD hol ⊢
    rw [← hS] at hs1 hs12 ⊢
    rw [← hkk] at hk HF ⊢
    have HL := hide hL
    have HMM := hide hmm
    have HSS := hide hS
    have HKK := hide hkk
    clear hL hmm hS hkk
    by_cases hfit : k + S ≤ nb
    rotate_left
    · have HJ : Hid (G = .text) := dec_stop (unhide HGr) (Lz.step_short (by rw [← unhide HKK, ← unhide HSS]; omega))
      have e1 : decide ((nb : Int) < (k : Int) + (S : Int)) = true := by simp; omega
      have e1' : decide ((k : Int) + (S : Int) > (nb : Int)) = true := e1
      clear HGr has hol hal
      go_wp2
      go_ret3
      exact ⟨by rw [unhide HJ]; rfl, unhide HB⟩
    have e1 : decide ((nb : Int) < (k : Int) + (S : Int)) = false := by simp; omega
    have e1' : decide ((k : Int) + (S : Int) > (nb : Int)) = false := e1
    have hcut := bt_cut nb (tv s) k S hfit
    obtain ⟨n, hn⟩ : ∃ n, n = tv s / 2 ^ k % 2 ^ S := ⟨_, rfl⟩
    have hnl4 : n < 4096 := by
      rw [hn]
      exact Nat.lt_of_lt_of_le (Nat.mod_lt _ (Nat.two_pow_pos _)) (Nat.pow_le_pow_right (n := 2) (j := 12) (by omega) hs12)
    have HLO : Hid (Calls Tryd.prog 31 #[.string (bt S (tv s / 2 ^ k))] wr fun e w' => e = .returned (.int .u32 (n : Int)) ∧ w' = wr) := by
      have := lowOf_any S (tv s / 2 ^ k) wr (by omega)
      rw [← hn] at this
      exact this
    have HN : Hid (n = tv s / 2 ^ st.k % 2 ^ st.S) := by show _ = _; rw [← unhide HKK, ← unhide HSS]; exact hn
    have HFIT : Hid (st.k + st.S ≤ nb) := by show _ ≤ _; rw [← unhide HKK, ← unhide HSS]; exact hfit
    obtain ⟨kd, hkd⟩ : ∃ kd, kd = k + S := ⟨_, rfl⟩
    have zk : (k : Int) + (S : Int) = (kd : Int) := by omega
    have hkl : kd ≤ nb := by omega
    have hkk : (k : Int) ≤ (kd : Int) := by omega
    have hki : (kd : Int) ≤ (nb : Int) := by omega
    rw [← hkd] at hcut
    have HKD : Hid (st.k + st.S = kd) := by show _ = _; rw [← unhide HKK, ← unhide HSS]; exact hkd.symm
    have hklt : k < kd := by omega
    obtain ⟨Y, hY⟩ : ∃ Y, Y = 2 ^ S := ⟨_, rfl⟩
    have HYW : Hid (wrap64 ((2 : Int) ^ S) = (Y : Int)) := by show _ = _; rw [hY]; exact shl_wrap S (by omega)
    have hS64 : decide ((S : Int) < 64) = true := by simp; omega
    have HY := hide hY
    clear hn hfit hkd hY
    go_wp2_with fail
    refine (unhide HLO).mono ?_; rintro e w2 ⟨rfl, rfl⟩
    clear HLO hcut
    by_cases hend : n = X + 1
    · have HJ : Hid (G = .ok st.out kd) := by show _ = _; rw [← unhide HKD]; exact dec_stop (unhide HGr) (Lz.step_end (unhide HFIT) (unhide HN) (by rw [← unhide HX]; exact hend))
      have gE : ((n : Int) == (X : Int) + 1) = true := by simp; omega
      have ht := own_text w2 _ _ _ _ (unhide HD).oO
      obtain ⟨u, hu⟩ : ∃ u, u = (kd + 7) / 8 := ⟨_, rfl⟩
      have zu : ((kd : Int) + 7) / 8 = (u : Int) := by omega
      have HU := hide hu
      generalize hTX : (⟨st.out.toArray⟩ : ByteArray) = TX at *
      clear HGr hend hu
      go_wp2
      go_ret3
      refine ⟨?_, unhide HB⟩
      rw [unhide HJ, unD, ← unhide HU, hTX, ← zu]
      rfl
    have gE : ((n : Int) == (X : Int) + 1) = false := by
      rw [beq_eq_false_iff_ne]; intro q; exact hend (by omega)
    by_cases hclr : n = X
    · have HJ : Hid (G = dec (tv s) nb W most f' ⟨kd, W + 1, [], [], st.out⟩) := by show _ = _; rw [← unhide HKD]; exact dec_go (unhide HGr) (Lz.step_clear (unhide HFIT) (unhide HN) (by rw [← unhide HX]; exact hclr))
      have gC : ((n : Int) == (X : Int)) = true := by simp; omega
      have HD2 : Hid (DU w2 w.heap.size (.slice none 0 0) [] (.slice aO m cO) st.out) := ⟨World.ownsRow_nil _ _ _ _, (unhide HD).oO⟩
      clear HGr hend hclr
      go_wp2
      go_roundw
      case rel =>
        refine ⟨⟨kd, W + 1, [], [], st.out⟩, none, aO, 0, cO, ⟨#[]⟩, f', rfl, by first | rfl | go_num, rfl, by rw [← unhide HMM], rfl, rfl, by show DU _ _ _ _ (.slice aO st.out.length cO) _; rw [← unhide HMM]; exact unhide HD2, good_start W hW _ _, HO, Nat.zero_le _, (fun y hy => by cases hy), HJ, by have := unhide HF; show nb < kd + f'; omega, hkl, HB, hwz⟩
      case measure => simp [intOf]; omega
    have gC : ((n : Int) == (X : Int)) = false := by
      rw [beq_eq_false_iff_ne]; intro q; exact hclr (by omega)
    have H1 : Hid (n ≠ 2 ^ W + 1) := by rw [← unhide HX]; exact hend
    have H2 : Hid (n ≠ 2 ^ W) := by rw [← unhide HX]; exact hclr
    clear hend hclr
    go_upto_block 2 with fail
    go_cut [17] (fun v17 wz => ∃ (x : List UInt8) (xb : ByteArray), v17 = .string xb ∧ Hid (wordOf W st n = some x) ∧ Hid (xb.data.toList = x) ∧ Hid (DU wz w.heap.size (.slice aW L cW) st.words (.slice aO m cO) st.out) ∧ Hid (Below w.heap.size w wz) ∧ w.heap.size ≤ wz.heap.size)
    case first =>
      by_cases hlow : n < X
      · have glow : decide ((n : Int) < (X : Int)) = true := by simp; omega
        obtain ⟨x, hx⟩ : ∃ x, x = [UInt8.ofNat n] := ⟨_, rfl⟩
        have HWO : Hid (wordOf W st n = some x) := by rw [hx]; exact wordOf_low (by rw [← unhide HX]; exact hlow)
        obtain ⟨xb, hxb⟩ : ∃ xb, xb = (⟨#[UInt8.ofNat n]⟩ : ByteArray) := ⟨_, rfl⟩
        have HXB : Hid (xb.data.toList = x) := by show _ = _; rw [hxb, hx]
        have HBN := hide (unhide HBY n w2 (by omega))
        rw [← hxb] at HBN
        clear hx hxb HBY HGr
        go_wp2_with fail
        refine (unhide HBN).mono ?_; rintro e wv ⟨rfl, hbv⟩
        have HDv := hide ((unhide HD).below hbv)
        have HBv := hide ((unhide HB).trans (hbv.mono hwz))
        have hwv : w.heap.size ≤ wv.heap.size := Nat.le_trans hwz hbv.size
        clear HBN hbv HD HB
        go_wp2
        go_meet
        case rel => exact ⟨x, xb, rfl, HWO, HXB, HDv, HBv, hwv⟩
      have glow : decide ((n : Int) < (X : Int)) = false := by simp; omega
      obtain ⟨j, hj⟩ : ∃ j, j = n - (X + 2) := ⟨_, rfl⟩
      have hn1 := unhide H1
      have hn2 := unhide H2
      rw [← unhide HX] at hn1 hn2
      have zj : (n : Int) - (X : Int) - 2 = (j : Int) := by omega
      have hnj : n = X + 2 + j := by omega
      have HNJ := hide hnj
      clear hn1 hn2
      by_cases hjl : j < L
      · have gj : decide ((j : Int) < (L : Int)) = true := by simp; omega
        have gjn : decide (j < L) = true := by simp; omega
        have hji : (j : Int) < (L : Int) := by omega
        obtain ⟨x, hx⟩ : ∃ x, x = st.words.getD j [] := ⟨_, rfl⟩
        have HWO : Hid (wordOf W st n = some x) := by show _ = _; rw [wordOf, if_neg (by rw [← unhide HX]; exact hlow), if_pos (by rw [← unhide HX, ← unhide HL]; omega), ← unhide HX, ← hj, hx]
        obtain ⟨xb, hxb⟩ : ∃ xb, xb = (⟨x.toArray⟩ : ByteArray) := ⟨_, rfl⟩
        have HXB : Hid (xb.data.toList = x) := by show _ = _; rw [hxb]
        obtain ⟨aw2, cw2, ew2, hgw⟩ := shape2 (unhide HD).oW
        obtain ⟨gW, hgW, _⟩ := hgw (by rw [← unhide HL]; omega)
        injection ew2 with ew2 _ _
        rw [← ew2] at hgW
        subst hgW
        have hcj : w2.cell? ⟨gW, j, none⟩ = some (.string xb) := by
          have := (unhide HD).oW
          rw [unhide HL] at this
          rw [this.cellAt j (by rw [← unhide HL]; omega), wdVals_at _ _ (by rw [← unhide HL]; exact hjl), ← hx, hxb]
        clear hx hxb hj hnj ew2 hgw HGr HBY
        go_wp2
        go_meet
        case rel => exact ⟨x, xb, rfl, HWO, HXB, HD, HB, hwz⟩
      have gj : decide ((j : Int) < (L : Int)) = false := by simp; omega
      have gjn : decide (j < L) = false := by simp; omega
      by_cases hje : j = L
      rotate_left
      · have ge : ((j : Int) == (L : Int)) = false := by rw [beq_eq_false_iff_ne]; intro q; exact hje (by omega)
        have HJ : Hid (G = .text) := dec_stop (unhide HGr) (Lz.step_none (unhide HFIT) (unhide HN) (unhide H1) (unhide H2) (by rw [wordOf, if_neg (by rw [← unhide HX]; exact hlow), if_neg (by rw [← unhide HX, ← unhide HL]; omega), if_neg (fun q => by have := q.1; rw [← unhide HX, ← unhide HL] at this; omega)]))
        clear HGr hnj hj hje
        go_wp2
        go_ret3
        exact ⟨by rw [unhide HJ]; rfl, unhide HB⟩
      have ge : ((j : Int) == (L : Int)) = true := by simp; omega
      by_cases hA : 0 < ab.size
      rotate_left
      · obtain ⟨qa1, qa2, qa3, qa4⟩ := is_blank ab (by omega)
        have hah : st.ahead = [] := List.eq_nil_of_length_eq_zero (by omega)
        have HJ : Hid (G = .text) := dec_stop (unhide HGr) (Lz.step_none (unhide HFIT) (unhide HN) (unhide H1) (unhide H2) (by rw [wordOf, if_neg (by rw [← unhide HX]; exact hlow), if_neg (by rw [← unhide HX, ← unhide HL]; omega), if_neg (fun q => by have := q.2; simp [more, hah] at this)]))
        clear HGr hnj hj hje hah hA
        go_wp2
        go_ret3
        exact ⟨by rw [unhide HJ]; rfl, unhide HB⟩
      have hah0 : st.ahead ≠ [] := by
        intro q
        have h2 : ab.size = 0 := by rw [has, q]; rfl
        omega
      obtain ⟨qa1, qa2, qa3⟩ := not_blank ab hA
      by_cases hroom : X + 2 + L < 4096
      rotate_left
      · have gl : decide ((L : Int) + (X : Int) + 2 < 4096) = false := by simp; omega
        have HJ : Hid (G = .text) := dec_stop (unhide HGr) (Lz.step_none (unhide HFIT) (unhide HN) (unhide H1) (unhide H2) (by rw [wordOf, if_neg (by rw [← unhide HX]; exact hlow), if_neg (by rw [← unhide HX, ← unhide HL]; omega), if_neg (fun q => by have := q.2; simp [more] at this; have := this.2; rw [← unhide HX, ← unhide HL] at this; omega)]))
        clear HGr hnj hj hje hah0 hA hroom
        go_wp2
        go_ret3
        exact ⟨by rw [unhide HJ]; rfl, unhide HB⟩
      have gl : decide ((L : Int) + (X : Int) + 2 < 4096) = true := by simp; omega
      obtain ⟨x, hx⟩ : ∃ x, x = st.ahead ++ st.ahead.take 1 := ⟨_, rfl⟩
      have HWO : Hid (wordOf W st n = some x) := by show _ = _; rw [wordOf, if_neg (by rw [← unhide HX]; exact hlow), if_neg (by rw [← unhide HX, ← unhide HL]; omega), if_pos ⟨by rw [← unhide HX, ← unhide HL]; omega, by unfold more; rw [← unhide HX, ← unhide HL, decide_eq_true hah0, decide_eq_true hroom]; rfl⟩, hx]
      obtain ⟨xb, hxb⟩ : ∃ xb, xb = ab ++ ab.extract 0 1 := ⟨_, rfl⟩
      have HXB : Hid (xb.data.toList = x) := by show _ = _; rw [hxb, ByteArray.data_append, Array.toList_append, front, unhide HAB, hx]
      have hcat1 : ab ++ ab.extract 0 1 = xb := hxb.symm
      have h1a : 1 ≤ ab.size := by omega
      have h1ai : (1 : Int) ≤ (ab.size : Int) := by omega
      have o1 : ¬ (9223372036854775807 < ab.size + 1) := by omega
      have o3 : ¬ (9223372036854775807 < ab.size + min 1 ab.size) := by omega
      clear hx hxb hj hnj hje hah0 HGr hroom hA
      go_wp2
      go_meet
      case rel => exact ⟨x, xb, by first | rfl | rw [hcat1], HWO, HXB, HD, HB, hwz⟩
    case rest =>
      clear HD HB hwz HBY
      obtain ⟨x, xb, rfl, HWO, HXB, HD, HB, hwz⟩ := hcut
      have HXS : Hid (xb.size = x.length) := by show _ = _; rw [← unhide HXB, size_list]
      have hx0 : 0 < xb.size := by rw [unhide HXS]; exact List.length_pos_iff.2 (wordOf_ne (unhide HGD) (unhide HWO))
      have hxbl : xb.size ≤ 300001 := by rw [unhide HXS]; exact wordOf_le (unhide HWD) (by omega) (unhide HWO)
      have HWD7 := hide (words'_le (W := W) (x := x) (unhide HWD) (show st.ahead.length ≤ 300000 by omega))
      have hmore : more W st = (decide (0 < ab.size) && decide (X + 2 + L < 4096)) := by
        unfold more
        rw [← unhide HX, ← unhide HL]
        congr 1
        by_cases q : 0 < ab.size
        · rw [decide_eq_true q, decide_eq_true]
          intro e
          have h2 : ab.size = 0 := by rw [has, e]; rfl
          omega
        · rw [decide_eq_false q, decide_eq_false]
          intro e; exact e (List.eq_nil_of_length_eq_zero (by omega))
      obtain ⟨mo, hmo⟩ : ∃ mo, mo = more W st := ⟨_, rfl⟩
      rw [← hmo] at hmore
      have HMO := hide hmo
      clear hmo
      go_upto_region 28 with fail
      go_cut [128] (fun v wz => v = .bool mo ∧ wz = wc)
      case first =>
        by_cases hA : 0 < ab.size
        rotate_left
        · obtain ⟨qa1, qa2, qa3, qa4⟩ := is_blank ab (by omega)
          have e2 : mo = false := by rw [hmore, decide_eq_false hA]; rfl
          have E2 := hide e2
          clear HGr hmore hA e2
          go_wp2
          go_meet
          case rel => exact ⟨by rw [unhide E2], rfl⟩
        obtain ⟨qa1, qa2, qa3⟩ := not_blank ab hA
        by_cases hroom : X + 2 + L < 4096
        · have gl : decide ((L : Int) + (X : Int) + 2 < 4096) = true := by simp; omega
          have e2 : mo = true := by rw [hmore, decide_eq_true hA, decide_eq_true hroom]; rfl
          have E2 := hide e2
          clear HGr hmore hA e2 hroom
          go_wp2
          go_meet
          case rel => exact ⟨by rw [unhide E2], rfl⟩
        · have gl : decide ((L : Int) + (X : Int) + 2 < 4096) = false := by simp; omega
          have e2 : mo = false := by rw [hmore, decide_eq_false hroom, Bool.and_false]
          have E2 := hide e2
          clear HGr hmore hA e2 hroom
          go_wp2
          go_meet
          case rel => exact ⟨by rw [unhide E2], rfl⟩
      case rest =>
        obtain ⟨rfl, rfl⟩ := hcut
        obtain ⟨L2, hL2⟩ : ∃ L2, L2 = (words' W st x).length := ⟨_, rfl⟩
        have HL2 := hide hL2
        have hL2l : X + 2 + L2 ≤ 4096 := by rw [hL2, unhide HX]; exact words'_length W st x (unhide HGD)
        clear hL2
        go_upto_if 128 with fail
        go_cut [11] (fun v wz => ∃ a3 c3, v = .slice a3 L2 c3 ∧ Hid (DU wz w.heap.size (.slice a3 L2 c3) (words' W st x) (.slice aO m cO) st.out) ∧ Hid (Below w.heap.size w wz) ∧ w.heap.size ≤ wz.heap.size)
        case first =>
          cases mo with
          | false =>
            have hww : words' W st x = st.words := by rw [words', if_neg (by rw [← unhide HMO]; simp)]
            have hll : L2 = L := by rw [unhide HL2, hww, ← unhide HL]
            have HD2 : Hid (DU wc w.heap.size (.slice aW L2 cW) (words' W st x) (.slice aO m cO) st.out) := by show DU _ _ _ _ _ _; rw [hww, hll]; exact unhide HD
            have HLL := hide hll
            clear HGr hmore hww hll
            go_wp2
            go_meet
            case rel => exact ⟨aW, cW, by rw [unhide HLL], HD2, HB, hwz⟩
          | true =>
            obtain ⟨yb, hyb⟩ : ∃ yb, yb = ab ++ xb.extract 0 1 := ⟨_, rfl⟩
            have hcat2 : ab ++ xb.extract 0 1 = yb := hyb.symm
            have hyl : yb.data.toList = st.ahead ++ x.take 1 := by rw [hyb, ByteArray.data_append, Array.toList_append, front, unhide HAB, unhide HXB]
            have hww : words' W st x = st.words ++ [yb.data.toList] := by rw [hyl, words', if_pos (by rw [← unhide HMO])]
            have hll : L2 = L + 1 := by rw [unhide HL2, hww, List.length_append, ← unhide HL]; rfl
            have HWW := hide hww
            have HLL := hide hll
            have h1x : 1 ≤ xb.size := by omega
            have h1xi : (1 : Int) ≤ (xb.size : Int) := by omega
            have o1 : ¬ (9223372036854775807 < ab.size + 1) := by omega
            have o2 : ¬ (9223372036854775807 < ab.size + min 1 xb.size) := by omega
            clear HGr hmore hyb hyl hww hll
            go_wp2_with (at_builtin; refine wpList_appW _ rfl (.tmp 129) (.tmp 134) rfl w.heap.size wc.heap.size (.slice aW L cW) st.words yb.data.toList rfl rfl ((unhide HD).oW.alloc _) (by rw [bytes_back]; exact one_new0 wc _ _) (by rw [← unhide HL]; omega) (by simp; omega) ?_)
            intro v3 w3 hown3 hgr3
            obtain ⟨a3, c3, e3, _⟩ := shape2 hown3
            rw [← unhide HL] at e3
            have hfin3 := (unhide HD).pushW (y := yb.data.toList) ((Below.refl wc.heap.size wc).alloc (Nat.le_refl _) _) (by rw [List.length_append]; exact hown3) hgr3 hwz
            have HD3 : Hid (DU w3 w.heap.size (.slice a3 L2 c3) (words' W st x) (.slice aO m cO) st.out) := by
              have := hfin3.1
              rw [e3] at this
              show DU _ _ _ _ _ _
              rw [unhide HWW, unhide HLL]
              exact this
            have HB3 := hide ((unhide HB).trans hfin3.2)
            have hz3 : w.heap.size ≤ w3.heap.size := Nat.le_trans hwz hfin3.2.size
            have E3 : Hid (v3 = .slice a3 L2 c3) := by show _ = _; rw [e3, unhide HLL]
            clear hown3 hgr3 hfin3 e3
            go_wp2
            go_meet
            case rel => exact ⟨a3, c3, unhide E3, HD3, HB3, hz3⟩
        case rest =>
          clear HD HB hwz hmore
          obtain ⟨a3, c3, rfl, HD, HB, hwz⟩ := hcut
          obtain ⟨inc, hinc⟩ : ∃ b, b = (decide (X + 2 + L2 = Y) && decide (S < 12)) := ⟨_, rfl⟩
          obtain ⟨S2, hS2⟩ : ∃ S2, S2 = size' st.S (2 ^ W + 2 + (words' W st x).length) := ⟨_, rfl⟩
          have hS2i : S2 = if inc = true then S + 1 else S := by
            rw [hS2, ← unhide HL2, ← unhide HX, ← unhide HSS, hinc, size', ← unhide HY]
            by_cases q : X + 2 + L2 = Y ∧ S < 12
            · rw [if_pos q, if_pos (by simp [q.1, q.2])]
            · rw [if_neg q, if_neg (by simpa using q)]
          have HS2 := hide hS2
          clear hS2
          go_upto_region 30 with fail
          go_cut [147] (fun v wz => v = .bool inc ∧ Hid (wz = wc))
          case first =>
            by_cases hY' : X + 2 + L2 = Y
            · have gI : ((L2 : Int) + (X : Int) + 2 == wrap64 ((2 : Int) ^ S)) = true := by rw [unhide HYW]; simp; omega
              by_cases hS12 : S < 12
              · have gS : decide ((S : Int) < 12) = true := by simp; omega
                have E2 : Hid (inc = true) := by show _ = _; rw [hinc, decide_eq_true hY', decide_eq_true hS12]; rfl
                clear HGr hS2i hinc hY'
                go_wp2
                go_meet
                case rel => exact ⟨by rw [unhide E2], rfl⟩
              · have gS : decide ((S : Int) < 12) = false := by simp; omega
                have E2 : Hid (inc = false) := by show _ = _; rw [hinc, decide_eq_false hS12, Bool.and_false]
                clear HGr hS2i hinc hY'
                go_wp2
                go_meet
                case rel => exact ⟨by rw [unhide E2], rfl⟩
            · have gI : ((L2 : Int) + (X : Int) + 2 == wrap64 ((2 : Int) ^ S)) = false := by rw [unhide HYW, beq_eq_false_iff_ne]; intro q; exact hY' (by omega)
              have E2 : Hid (inc = false) := by show _ = _; rw [hinc, decide_eq_false hY']; rfl
              clear HGr hS2i hinc hY'
              go_wp2
              go_meet
              case rel => exact ⟨by rw [unhide E2], rfl⟩
          case rest =>
            obtain ⟨rfl, hwe⟩ := hcut
            have HD5 := HD
            have HB5 := HB
            rw [← unhide hwe] at HD5 HB5 hwz
            clear HD HB hwe hinc
            go_upto_if 147 with fail
            go_cut [12] (fun v wz => v = .int .i64 (S2 : Int) ∧ Hid (wz = wc))
            case first =>
              cases inc with
              | true =>
                rw [if_pos rfl] at hS2i
                have E2 : Hid ((S : Int) + 1 = (S2 : Int)) := by show _ = _; omega
                clear HGr hS2i
                go_wp2
                go_meet
                case rel => exact ⟨by rw [← unhide E2], rfl⟩
              | false =>
                rw [if_neg (by simp)] at hS2i
                have E2 : Hid ((S : Int) = (S2 : Int)) := by show _ = _; omega
                clear HGr hS2i
                go_wp2
                go_meet
                case rel => exact ⟨by rw [← unhide E2], rfl⟩
            case rest =>
              obtain ⟨rfl, hwe⟩ := hcut
              have HD6 := HD5
              have HB6 := HB5
              rw [← unhide hwe] at HD6 HB6 hwz
              clear HD5 HB5 hwe hS2i
              by_cases hbd : most < m + xb.size
              · have gB : decide ((most : Int) < (m : Int) + (xb.size : Int)) = true := by simp; omega
                have gB' : decide ((m : Int) + (xb.size : Int) > (most : Int)) = true := gB
                have gBn : decide (most < m + xb.size) = true := by simp; omega
                have HJ : Hid (G = .bound) := dec_stop (unhide HGr) (Lz.step_bound (unhide HFIT) (unhide HN) (unhide H1) (unhide H2) (unhide HWO) (by rw [← unhide HXS, ← unhide HMM]; exact hbd))
                clear hbd HGr
                go_wp2
                go_ret3
                exact ⟨by rw [unhide HJ]; rfl, unhide HB6⟩
              · have gB : decide ((most : Int) < (m : Int) + (xb.size : Int)) = false := by simp; omega
                have gB' : decide ((m : Int) + (xb.size : Int) > (most : Int)) = false := gB
                have gBn : decide (most < m + xb.size) = false := by simp; omega
                have hbx : st.out.length + x.length ≤ most := by rw [← unhide HXS, ← unhide HMM]; omega
                have HJ := hide (dec_go (unhide HGr) (Lz.step_word (unhide HFIT) (unhide HN) (unhide H1) (unhide H2) (unhide HWO) hbx))
                have HG7 := hide ((unhide HGD).next (unhide HWO) kd (st.out ++ x))
                rw [← unhide HS2, unhide HKD] at HJ
                rw [← unhide HS2] at HG7
                have HO7 : Hid ((st.out ++ x).length ≤ most) := by show _ ≤ _; rw [List.length_append]; exact hbx
                have HA7 : Hid (x.length ≤ most) := by show _ ≤ _; omega
                have hsm : m + xb.size ≤ 300000 := by omega
                clear hbd hbx HGr
                go_wp2_with (at_builtin; refine wpList_appY _ rfl (.tmp 158) (.tmp 159) rfl w.heap.size (.slice aO m cO) st.out xb rfl rfl (unhide HD6).oO (by rw [← unhide HMM]; omega) hwz ?_)
                intro v4 w4 hown4 hgr4
                obtain ⟨a4, c4, e4, _⟩ := shape2 hown4
                have e5 : v4 = .slice a4 (m + xb.size) c4 := by rw [e4, unhide HMM]
                subst e5
                clear e4
                have hfin4 := (unhide HD6).pushO (out' := st.out ++ x) (by rw [← unhide HXB]; first | exact hown4 | (rw [List.length_append]; exact hown4) | (rw [List.length_append, size_list]; exact hown4)) hgr4 hwz
                have HD4 := hide hfin4.1
                have HB4 := hide ((unhide HB6).trans hfin4.2)
                have hz4 : w.heap.size ≤ w4.heap.size := Nat.le_trans hwz hfin4.2.size
                clear hown4 hgr4 hfin4 HD6 HB6
                have hml : (st.out ++ x).length = m + xb.size := by rw [List.length_append, unhide HXS, ← unhide HMM]
                have HML := hide hml
                clear hml
                go_wp2
                go_roundw
                case rel =>
                  refine ⟨⟨kd, S2, words' W st x, x, st.out ++ x⟩, a3, a4, c3, c4, xb, f', ?_, rfl, rfl, ?_, rfl, HXB, ?_, HG7, HO7, HA7, HWD7, HJ, by have := unhide HF; show nb < kd + f'; omega, hkl, HB4, hz4⟩
                  · show _ = Value.slice _ (words' W st x).length _; rw [← unhide HL2]
                  · show _ = Value.slice _ (st.out ++ x).length _; rw [unhide HML]
                  · show DU _ _ (.slice _ (words' W st x).length _) _ (.slice _ (st.out ++ x).length _) _; rw [← unhide HL2, unhide HML]; exact unhide HD4
                case measure => simp [intOf]; omega
end Go.Proofs.YtfgphihhnlgfhaeDoor
