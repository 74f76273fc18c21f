/- Walk of the document's fixed block of tokens. -/
import Derived.Test.YtbbcfghlhgaofadGreatDoorMg19
import Derived.Test.YtbbcfghlhgaofadGreatDoorMg22
import Derived.Test.YtbbcfghlhgaofadGreatDoorMx4
import Derived.Lib.SlBytesConst
namespace Go.Proofs.YtbbcfghlhgaofadGreatDoor
open Go.RowKit Pm Cn Nf
open Ps (Pc len val Fit pl preP tokP Tok)

/-- The text of bits under way, and the words of the fixed code. -/
structure Fo (w0 : World) (B gF : Nat) (wr : World) (v : Value) (l : List Pc) : Prop where
  own : wr.ownsRow B 5 1 v (len l) (byteVals (Bt.bl (len l) (val l)))
  size : B ≤ wr.heap.size
  below : Below w0.heap.size w0 wr
  codes : ∀ i, i < 288 → wr.cell? ⟨gF, i, none⟩ = some (.string (word fixL 288 i))
  lt : gF < B
  ge : w0.heap.size ≤ B
  fit : Fit l
theorem Fo.still {w0 wr w' : World} {B gF : Nat} {v : Value} {l : List Pc} (h : Fo w0 B gF wr v l) (hb : Below wr.heap.size wr w') : Fo w0 B gF w' v l := by
  have hs := hb.size
  have h1 := h.size
  have h2 := h.lt
  have h3 := h.ge
  exact ⟨own_still h.own hb, by omega, h.below.trans (hb.mono (by omega)), fun i hi => (hb.cell (p := ⟨gF, i, none⟩) (by show gF < _; omega)).trans (h.codes i hi), h2, h3, h.fit⟩
theorem Fo.push {w0 wr w' : World} {B gF : Nat} {v v' : Value} {l : List Pc} {p : Pc} (h : Fo w0 B gF wr v l) (ho : w'.ownsRow B 5 1 v' (len (l ++ [p])) (byteVals (Bt.bl (len (l ++ [p])) (val (l ++ [p]))))) (hg : wr.grownBy w' v.ownBlock) (hp : p.1 < 2 ^ p.2) : Fo w0 B gF w' v' (l ++ [p]) := by
  have hs := hg.size
  have h1 := h.size
  have h2 := h.lt
  have h3 := h.ge
  refine ⟨ho, by omega, h.below.grown hg (by omega) (fun k e => by have := h.own.lt k e; omega), fun i hi => ?_, h2, h3, Fit.append h.fit (Fit.cons hp Fit.nil)⟩
  exact (World.cell?_of_block (a := ⟨gF, i, none⟩) (hg.block gF (by omega) (fun e => by have := h.own.lt gF e.symm; omega))).trans (h.codes i hi)

/-- The same; or the text is the literal that it begins with. -/
structure FoI (w0 : World) (B gF : Nat) (wr : World) (v : Value) (l : List Pc) : Prop where
  own : wr.ownsRow B 5 1 v (len l) (byteVals (Bt.bl (len l) (val l))) ∨ ∃ g, B ≤ g ∧ v = .slice (some ⟨g, 0, none⟩) 3 3 ∧ wr.heap[g]? = some (.cells #[.int .u8 49, .int .u8 49, .int .u8 48] 5 (3, 4)) ∧ l = [((1 : Nat), 1), ((1 : Nat), 2)]
  size : B ≤ wr.heap.size
  below : Below w0.heap.size w0 wr
  codes : ∀ i, i < 288 → wr.cell? ⟨gF, i, none⟩ = some (.string (word fixL 288 i))
  lt : gF < B
  ge : w0.heap.size ≤ B
  fit : Fit l
theorem Fo.loose {w0 wr : World} {B gF : Nat} {v : Value} {l : List Pc} (h : Fo w0 B gF wr v l) : FoI w0 B gF wr v l := ⟨.inl h.own, h.size, h.below, h.codes, h.lt, h.ge, h.fit⟩
theorem some_lt {w : World} {g : Nat} {o : Obj} (h : w.heap[g]? = some o) : g < w.heap.size := by
  rcases Nat.lt_or_ge g w.heap.size with h' | h'
  · exact h'
  · simp [Array.getElem?_eq_none h'] at h
theorem FoI.still {w0 wr w' : World} {B gF : Nat} {v : Value} {l : List Pc} (h : FoI w0 B gF wr v l) (hb : Below wr.heap.size wr w') : FoI w0 B gF w' v l := by
  have hs := hb.size
  have h1 := h.size
  have h2 := h.lt
  have h3 := h.ge
  refine ⟨?_, by omega, h.below.trans (hb.mono (by omega)), fun i hi => (hb.cell (p := ⟨gF, i, none⟩) (by show gF < _; omega)).trans (h.codes i hi), h2, h3, h.fit⟩
  rcases h.own with ho | ⟨g, hg, hv, hh, hl⟩
  · exact .inl (own_still ho hb)
  · exact .inr ⟨g, hg, hv, (hb.block g (some_lt hh)).trans hh, hl⟩
theorem FoI.shape {w0 wr : World} {B gF : Nat} {v : Value} {l : List Pc} (h : FoI w0 B gF wr v l) : ∃ a c, v = .slice a (len l) c := by
  rcases h.own with ho | ⟨g, hg, hv, hh, hl⟩
  · exact shape_of ho
  · exact ⟨_, 3, by rw [hv, hl]; rfl⟩
theorem FoI.ge_own {w0 wr : World} {B gF : Nat} {v : Value} {l : List Pc} (h : FoI w0 B gF wr v l) (k : Nat) (e : v.ownBlock = some k) : B ≤ k := by
  rcases h.own with ho | ⟨g, hg, hv, hh, hl⟩
  · exact (ho.lt k e).1
  · subst hv
    have : g = k := by simpa [Value.ownBlock] using e
    omega
theorem FoI.ne {w0 wr : World} {B gF x : Nat} {v : Value} {l : List Pc} {c : Array Value} {t : TypeId} {fr : Nat × Nat} (h : FoI w0 B gF wr v l) (hx : wr.heap[x]? = some (.cells c t fr)) (ht : t ≠ 5) : v.ownBlock ≠ some x := by
  rcases h.own with ho | ⟨g, hg, hv, hh, hl⟩
  · exact own_ne ho hx ht
  · subst hv
    intro e
    have : g = x := by simpa [Value.ownBlock] using e
    subst this
    rw [hx] at hh
    injection hh with hh
    injection hh with _ hh _
    exact ht hh
theorem FoI.push {w0 wr w' : World} {B gF : Nat} {v v' : Value} {l : List Pc} {p : Pc} (h : FoI w0 B gF wr v l) (ho : w'.ownsRow B 5 1 v' (len (l ++ [p])) (byteVals (Bt.bl (len (l ++ [p])) (val (l ++ [p]))))) (hg : wr.grownBy w' v.ownBlock) (hp : p.1 < 2 ^ p.2) : Fo w0 B gF w' v' (l ++ [p]) := by
  have hs := hg.size
  have h1 := h.size
  have h2 := h.lt
  have h3 := h.ge
  refine ⟨ho, by omega, h.below.grown hg (by omega) (fun k e => by have := h.ge_own k e; omega), fun i hi => ?_, h2, h3, Fit.append h.fit (Fit.cons hp Fit.nil)⟩
  exact (World.cell?_of_block (a := ⟨gF, i, none⟩) (hg.block gF (by omega) (fun e => by have := h.ge_own gF e.symm; omega))).trans (h.codes i hi)
theorem wpList_appL (w0 w : World) {ops : Array Oper} {rest : List Oper} {o : Oper} {a : Act} {Q : Exit → Act → World → Prop} (hgd : o.guard = none) (s x : Operand)
    (ho : o.op = .call { callee := .builtin .append, args := #[s, x], argTypes := #[54, 9] }) (B gF : Nat) (v : Value) (l : List Pc) (p : Pc) (hs : a.eval s = v) (hx : a.eval x = .string (bt p.2 p.1))
    (hF : FoI w0 B gF w v l) (hp : 0 < p.2) (hp2 : p.2 ≤ 100) (hpf : p.1 < 2 ^ p.2) (hl : len l + p.2 ≤ 4000000)
    (h : ∀ v' w', Fo w0 B gF w' v' (l ++ [p]) → w.grownBy w' v.ownBlock → wpList Tryz.prog ops Q rest (a.put o.dst v') w') : wpList Tryz.prog ops Q (o :: rest) a w := by
  obtain ⟨v', w', h1, h2, h3⟩ : ∃ v' w', (Builtin.append_ #[54, 9] o.type #[v, .string (bt p.2 p.1)]).run Tryz.prog w = .ok v' w' ∧ w'.ownsRow B 5 1 v' (len (l ++ [p])) (byteVals (Bt.bl (len (l ++ [p])) (val (l ++ [p])))) ∧ w.grownBy w' v.ownBlock := by
    rcases hF.own with hown | ⟨g, hg, hv, hh, hll⟩
    · exact app_text w B v l p o.type hown hF.fit hl hF.size
    · obtain ⟨v', w', q1, q2, q3⟩ := app_lit w B g p o.type hh hp hp2 hF.size
      subst hv hll
      exact ⟨v', w', q1, q2, q3 _⟩
  refine wpList_plain hgd fun _ hK => ?_
  unfold Oper.wp execOp
  simp only [ho, resolve, invoke, builtin, Sem.run_bind, Sem.run_pure, Result.andThen_ok, List.map_toArray, List.map_cons, List.map_nil, hs, hx, h1]
  exact hK _ _ (h v' w' (hF.push h2 h3 hpf) h3)

theorem word_text (i : Nat) : word fixL 288 i = bt (Ps.word fixL 288 i).2 (Ps.word fixL 288 i).1 := rfl

set_option maxHeartbeats 40000000 in
set_option maxRecDepth 100000 in
theorem fixedOf_any (ao : Option Addr) (n cap : Nat) (t : Tks) (w : World) (hT : IsTokens w ao n t) (hsh : ∀ i, i < n → t.shaped i) (hc : 48 * n + 300 ≤ 4000000) :
    Calls Tryz.prog 12 #[.slice ao n cap] w fun e w' => e = .returned (.string (textP (fixP t n))) ∧ Below w.heap.size w w' := by
  have hb8 : ∀ i, i < n → t.b i < 256 := fun i hi => by
    rcases hT with h | ⟨b, off, _, _, h⟩
    · omega
    · exact (h i hi).2.2.2.1
  have HTK : Hid (∀ w', Below w.heap.size w w' → IsTokens w' ao n t) := fun w' hb => hT.below hb
  have HSH := hide hsh
  have HTok : Hid (∀ i, i < n → Tok (t.b i) (t.l i).toNat (t.d i).toNat) := fun i hi => Tks.tok (hsh i hi) (hb8 i hi)
  have HPL : Hid (∀ j, j ≤ n → len ((preP (Ps.word fixL 288) (Ps.word fixD 32) t.b (fun i => (t.l i).toNat) (fun i => (t.d i).toNat)) j) ≤ 48 * n) := fun j hj => Nat.le_trans (preP_len fix_cod.le fixD_cod.le (fun i hi => unhide HTok i (by omega)) (fun i hi => fix_uses (unhide HTok i (by omega)))) (by omega)
  have HPS : Hid (∀ j, [((1 : Nat), 1), ((1 : Nat), 2)] ++ (preP (Ps.word fixL 288) (Ps.word fixD 32) t.b (fun i => (t.l i).toNat) (fun i => (t.d i).toNat)) (j + 1) = ([((1 : Nat), 1), ((1 : Nat), 2)] ++ (preP (Ps.word fixL 288) (Ps.word fixD 32) t.b (fun i => (t.l i).toNat) (fun i => (t.d i).toNat)) j) ++ tokP (Ps.word fixL 288) (Ps.word fixD 32) (t.b j) (t.l j).toNat (t.d j).toNat) := fun j => by
    show [((1 : Nat), 1), ((1 : Nat), 2)] ++ ((preP (Ps.word fixL 288) (Ps.word fixD 32) t.b (fun i => (t.l i).toNat) (fun i => (t.d i).toNat)) j ++ _) = _
    rw [List.append_assoc]
  have HP0 : Hid ((preP (Ps.word fixL 288) (Ps.word fixD 32) t.b (fun i => (t.l i).toNat) (fun i => (t.d i).toNat)) 0 = []) := rfl
  have HFN : Hid (([((1 : Nat), 1), ((1 : Nat), 2)] ++ (preP (Ps.word fixL 288) (Ps.word fixD 32) t.b (fun i => (t.l i).toNat) (fun i => (t.d i).toNat)) n) ++ [Ps.word fixL 288 256] = fixP t n) := by show _ = _; unfold fixP; rw [List.append_assoc]
  obtain ⟨F, hF⟩ : ∃ F, F = (preP (Ps.word fixL 288) (Ps.word fixD 32) t.b (fun i => (t.l i).toNat) (fun i => (t.d i).toNat)) := ⟨_, rfl⟩
  rw [← hF] at HPL HPS HP0 HFN
  have HB8 := hide hb8
  clear hF hT hsh hb8
  have entlens : ∀ args w, (callFunc 30 args).run Tryz.prog w = .ok (.enter 30 args) w := enters_of Tryz.func30 (by kernel_rfl) rfl
  have entdists : ∀ args w, (callFunc 31 args).run Tryz.prog w = .ok (.enter 31 args) w := enters_of Tryz.func31 (by kernel_rfl) rfl
  have entP : ∀ args w, (callFunc 29 args).run Tryz.prog w = .ok (.enter 29 args) w := enters_of Tryz.func29 (by kernel_rfl) rfl
  have entlenBits : ∀ args w, (callFunc 33 args).run Tryz.prog w = .ok (.enter 33 args) w := enters_of Tryz.func33 (by kernel_rfl) rfl
  have entdistBits : ∀ args w, (callFunc 35 args).run Tryz.prog w = .ok (.enter 35 args) w := enters_of Tryz.func35 (by kernel_rfl) rfl
  have entL : ∀ args w, (callFunc 32 args).run Tryz.prog w = .ok (.enter 32 args) w := enters_of Tryz.func32 (by kernel_rfl) rfl
  go_enter Tryz.func12, Tryz.ntmps12
  go_wp2_with fail
  refine (rfixed_any w).mono ?_; rintro e w1 ⟨gl, rfl, hA1, _, hb1⟩
  have HCO := hide (codesOf_any (some ⟨gl, 0, none⟩) 288 288 (zl fixL) w1 (hA1.ints (by omega) (fun i _ => (fixL_le i).1)) (by omega) (fun i _ => by rw [nat_zl]; exact ⟨rfl, (fixL_le i).1⟩) (by rw [nat_zl, all_fixL]; omega))
  rw [nat_zl] at HCO
  clear hA1
  go_wp2_with fail
  refine (unhide HCO).mono ?_; rintro e w2 ⟨gF, rfl, hown2, hb2⟩
  have hbw2 : Below w.heap.size w w2 := hb1.trans (hb2.mono hb1.size)
  have hcod : ∀ i, i < 288 → w2.cell? ⟨gF, i, none⟩ = some (.string (word fixL 288 i)) := fun i hi => by rw [hown2.cellAt i (by omega), strVals_at _ _ _ hi]
  have hgF := World.block_lt_of_cell? _ _ (hcod 0 (by omega))
  simp only at hgF
  have hb3 : Below w2.heap.size w2 (w2.alloc (.cells #[.int .u8 49, .int .u8 49, .int .u8 48] 5 (3, 4))) := (Below.refl _ _).alloc (Nat.le_refl _) _
  have HF0 : Hid (FoI w w2.heap.size gF (w2.alloc (.cells #[.int .u8 49, .int .u8 49, .int .u8 48] 5 (3, 4))) (.slice (some ⟨w2.heap.size, 0, none⟩) 3 3) ([((1 : Nat), 1), ((1 : Nat), 2)] ++ F 0)) := by
    refine ⟨.inr ⟨w2.heap.size, Nat.le_refl _, rfl, heap_alloc_last w2 _, by rw [unhide HP0]; rfl⟩, hb3.size, hbw2.trans (hb3.mono hbw2.size), fun i hi => (hb3.cell (p := ⟨gF, i, none⟩) hgF).trans (hcod i hi), hgF, hbw2.size, ?_⟩
    rw [unhide HP0]; exact Fit.cons (by decide) (Fit.cons (by decide) Fit.nil)
  clear HCO hown2 hb1 hb2 hcod hbw2 hb3
  have hcv := Lib.run_convert_bytes_const (P := Tryz.prog) w2 54 5 #[.int .u8 49, .int .u8 49, .int .u8 48] 3 3 Tryz.underlying54 Tryz.underlying5
  go_wp2
  clear hcv
  obtain ⟨B, hB⟩ : ∃ B, B = w2.heap.size := ⟨_, rfl⟩
  rw [← hB] at HF0 ⊢
  clear hB hgF
  generalize w2.alloc (.cells #[.int .u8 49, .int .u8 49, .int .u8 48] 5 (3, 4)) = w3 at *
  go_loopw [4, 5] (fun v i wr => ∃ j : Nat, j ≤ n ∧ i = .int .i64 j ∧ Hid (FoI w B gF wr v ([((1 : Nat), 1), ((1 : Nat), 2)] ++ F j))) (fun _ i _ => n - (intOf i).toNat)
  case atStart => exact ⟨0, by omega, rfl, HF0⟩
  case round =>
    clear HF0
    obtain ⟨j, hj, rfl, HFr⟩ := hrel
    obtain ⟨av, cv, rfl⟩ := (unhide HFr).shape
    have hlF := unhide HPL j hj
    obtain ⟨l0, hl0⟩ : ∃ l0, l0 = [((1 : Nat), 1), ((1 : Nat), 2)] ++ F j := ⟨_, rfl⟩
    have hla : len l0 + 250 ≤ 4000000 := by rw [hl0, Ps.len_append]; show 3 + _ + _ ≤ _; omega
    have HL0 := hide hl0
    rw [← hl0] at HFr ⊢
    clear hl0 hlF
    by_cases hlt2 : j < n
    rotate_left
    · have : j = n := by omega
      subst this
      have g1 : decide ((j : Int) < (j : Int)) = false := by simp
      have cE := (unhide HFr).codes 256 (by omega)
      rw [word_text] at cE
      have h256 : (Ps.word fixL 288 256).2 ≤ 15 := (fixL_le 256).1
      have H256 := hide h256
      have HPO : Hid (0 < (Ps.word fixL 288 256).2) := (fixL_le 256).2
      have HWF : Hid ((Ps.word fixL 288 256).1 < 2 ^ (Ps.word fixL 288 256).2) := Ps.word_fit _ _ _
      have HEQ : Hid (l0 ++ [Ps.word fixL 288 256] = fixP t j) := by show _ = _; rw [unhide HL0]; exact unhide HFN
      generalize Ps.word fixL 288 256 = pE at *
      go_wp2_with (at_builtin; refine wpList_appL w _ rfl (.tmp 79) (.tmp 82) rfl B gF (.slice av (len l0) cv) l0 pE rfl rfl (unhide HFr) (unhide HPO) (by have := unhide H256; omega) (unhide HWF) (by have := unhide H256; omega) ?_)
      intro v2 w2 hF2 hgr2
      have HB2 := hide hF2.below
      have ht2 := own_text w2 _ _ _ _ hF2.own
      have HPK := hide (packed_any (len (l0 ++ [pE])) (val (l0 ++ [pE])) w2 (Ps.val_lt hF2.fit) (by rw [Ps.len_append]; have := unhide H256; show _ + (_ + 0) ≤ _; omega))
      obtain ⟨a2, c2, rfl⟩ := shape_of hF2.own
      rw [unhide HEQ] at HPK ht2 ⊢
      have ht3 : (⟨(Bt.bl (len (fixP t j)) (val (fixP t j))).toArray⟩ : ByteArray) = bt (len (fixP t j)) (val (fixP t j)) := rfl
      rw [ht3] at ht2
      clear hgr2 hF2 ht3 HEQ
      go_wp2_with fail
      refine (unhide HPK).mono ?_; rintro e w4 ⟨rfl, hb4⟩
      have HB4 := hide ((unhide HB2).trans (hb4.mono (unhide HB2).size))
      clear HPK hb4
      go_wp2
      go_ret
      exact ⟨rfl, unhide HB4⟩
    have g1 : decide ((j : Int) < (n : Int)) = true := by simp; omega
    have g2 : (j : Int) < (n : Int) := by omega
    rcases unhide HTK wr (unhide HFr).below with h | ⟨tb, off, rfl, hnl, hcells⟩
    · omega
    obtain ⟨t0, t1, t2, t3, t4, t5⟩ := hcells j hlt2
    clear hcells
    have hsj := unhide HSH j hlt2
    have HNX := hide (unhide HPS j)
    by_cases hl0 : t.l j = 0
    · have g3 : (t.l j == 0) = true := by rw [hl0]; rfl
      have HTP : Hid ([((1 : Nat), 1), ((1 : Nat), 2)] ++ F (j + 1) = l0 ++ [Ps.word fixL 288 (t.b j)]) := by show _ = _; rw [unhide HNX, ← unhide HL0]; unfold tokP; rw [if_pos (by rw [hl0]; rfl)]
      have hba : Below wr.heap.size wr (wr.alloc (.cells #[.int .u8 (t.b j : Nat), .int .i64 (t.l j), .int .i64 (t.d j)] 51)) := (Below.refl _ _).alloc (Nat.le_refl _) _
      have HFa := hide ((unhide HFr).still hba)
      have cE := (unhide HFa).codes (t.b j) (by omega)
      rw [word_text] at cE
      have hbi : (t.b j : Int) < 288 := by omega
      have h15 : (Ps.word fixL 288 (t.b j)).2 ≤ 15 := (fixL_le (t.b j)).1
      have H15 := hide h15
      have HPO : Hid (0 < (Ps.word fixL 288 (t.b j)).2) := (fixL_le (t.b j)).2
      have HWF : Hid ((Ps.word fixL 288 (t.b j)).1 < 2 ^ (Ps.word fixL 288 (t.b j)).2) := Ps.word_fit _ _ _
      obtain ⟨pE, hpE⟩ : ∃ q, q = Ps.word fixL 288 (t.b j) := ⟨_, rfl⟩
      rw [← hpE] at cE H15 HPO HWF HTP
      clear hl0 hsj HFr hba h15 hpE
      go_wp2_with (at_builtin; refine wpList_appL w _ rfl (.tmp 26) (.tmp 31) rfl B gF (.slice av (len l0) cv) l0 pE rfl rfl (unhide HFa) (unhide HPO) (by have := unhide H15; omega) (unhide HWF) (by have := unhide H15; omega) ?_)
      intro v2 w2 hF2 hgr2
      have HF2 := hide hF2.loose
      rw [← unhide HTP] at HF2
      clear hgr2 hF2 HFa cE
      go_wp2
      go_roundw
      case rel => exact ⟨j + 1, by omega, by go_num, HF2⟩
      case measure => simp [intOf]; omega
    · have g3 : (t.l j == 0) = false := by simpa using hl0
      have hs2 : t.b j = 0 ∧ (3 ≤ t.l j ∧ t.l j ≤ 258) ∧ 1 ≤ t.d j ∧ t.d j ≤ 32768 := by unfold Tks.shaped at hsj; rw [if_neg hl0] at hsj; exact hsj
      obtain ⟨L, hL⟩ := Int.eq_ofNat_of_zero_le (show (0 : Int) ≤ t.l j by omega)
      obtain ⟨D, hD⟩ := Int.eq_ofNat_of_zero_le (show (0 : Int) ≤ t.d j by omega)
      rw [hL] at t1 g3 hs2
      rw [hD] at t2 hs2
      have hLn : (t.l j).toNat = L := by omega
      have hDn : (t.d j).toNat = D := by omega
      obtain ⟨c, hc'⟩ : ∃ c, c = pl lens L := ⟨_, rfl⟩
      obtain ⟨d, hd⟩ : ∃ d, d = pl dists D := ⟨_, rfl⟩
      obtain ⟨p1, p2, p3⟩ := Ps.pl_lens (n := L) (by omega)
      obtain ⟨q1, q2, q3⟩ := Ps.pl_dists (n := D) (by omega)
      rw [← hc'] at p1 p2 p3
      rw [← hd] at q1 q2 q3
      have hlb := lenBits_le c p1
      have hdb := distBits_le d q1
      obtain ⟨lc, hlc⟩ : ∃ lc, lc = lens.getD c 0 := ⟨_, rfl⟩
      obtain ⟨lb, hlbe⟩ : ∃ lb, lb = lenBits c := ⟨_, rfl⟩
      obtain ⟨dc, hdc⟩ : ∃ dc, dc = dists.getD d 0 := ⟨_, rfl⟩
      obtain ⟨db, hdbe⟩ : ∃ db, db = distBits d := ⟨_, rfl⟩
      obtain ⟨r1, hr1⟩ : ∃ r, r = L - lc := ⟨_, rfl⟩
      obtain ⟨r2, hr2⟩ : ∃ r, r = D - dc := ⟨_, rfl⟩
      obtain ⟨sy, hsy⟩ : ∃ sy, sy = 257 + c := ⟨_, rfl⟩
      have zsy : (257 : Int) + (c : Int) = (sy : Int) := by omega
      have hfive : Ps.word fixD 32 d = (Bt.rev d 5, 5) := by unfold Ps.word; rw [code_fixD d (by omega)]; rfl
      have HTP : Hid ([((1 : Nat), 1), ((1 : Nat), 2)] ++ F (j + 1) = l0 ++ [Ps.word fixL 288 sy, (r1, lb), (Bt.rev d 5, 5), (r2, db)]) := by show _ = _; rw [unhide HNX, ← unhide HL0]; unfold tokP; rw [if_neg (by omega), hLn, hDn, ← hc', ← hd, hfive, ← hsy, ← hlc, ← hlbe, ← hdc, ← hdbe, ← hr1, ← hr2]
      have zr1 : (L : Int) - (lc : Int) = (r1 : Int) := by omega
      have zr2 : (D : Int) - (dc : Int) = (r2 : Int) := by omega
      rw [← hlc, ← hlbe, ← hr1] at p3
      rw [← hdc, ← hdbe, ← hr2] at q3
      rw [← hlbe] at hlb
      rw [← hdbe] at hdb
      have Hr1 := hide p3
      have Hr2 := hide q3
      have Hlc := hide hlc
      have Hlb := hide hlbe
      have Hdc := hide hdc
      have Hdb := hide hdbe
      have Hc' := hide hc'
      have Hd' := hide hd
      have hsyl : (sy : Int) < 288 := by omega
      have hcl : (c : Int) < 29 := by omega
      have hdl : (d : Int) < 30 := by omega
      have hLl : 3 ≤ L ∧ L ≤ 258 := by omega
      have hDl : 1 ≤ D ∧ D ≤ 32768 := by omega
      have hr1l : r1 ≤ 258 := by omega
      have hr2l : r2 ≤ 32768 := by omega
      have hr1w : IntKind.i64.wrap (r1 : Int) = (r1 : Int) := by rw [IntKind.wrap_i64]; omega
      have hr2w : IntKind.i64.wrap (r2 : Int) = (r2 : Int) := by rw [IntKind.wrap_i64]; omega
      have hr1u : IntKind.u32.wrap (r1 : Int) = (r1 : Int) := by rw [IntKind.wrap_u32]; omega
      have hr2u : IntKind.u32.wrap (r2 : Int) = (r2 : Int) := by rw [IntKind.wrap_u32]; omega
      have hdu : (d : Int) % 4294967296 = (d : Int) := by omega
      have hba : Below wr.heap.size wr (wr.alloc (.cells #[.int .u8 (t.b j : Nat), .int .i64 (L : Int), .int .i64 (D : Int)] 51)) := (Below.refl _ _).alloc (Nat.le_refl _) _
      have HFa := hide ((unhide HFr).still hba)
      have HXa : Hid ((wr.alloc (.cells #[.int .u8 (t.b j : Nat), .int .i64 (L : Int), .int .i64 (D : Int)] 51)).heap[wr.heap.size]? = some (.cells #[.int .u8 (t.b j : Nat), .int .i64 (L : Int), .int .i64 (D : Int)] 51 (0, 0))) := heap_alloc_last wr _
      clear hl0 hsj HFr hba hL hD hLn hDn hs2 p2 p3 q2 q3 hr1 hr2 hsy hlc hlbe hdc hdbe hc' hd hfive
      go_wp2
      generalize wr.alloc (.cells #[.int .u8 (t.b j : Nat), .int .i64 (L : Int), .int .i64 (D : Int)] 51) = wa at *
      generalize wr.heap.size = x at *
      clear t0 t1 t2
      -- the place of L
      have HT1 := hide (rlens_any wa.drew)
      have c1 : wa.drew.cell? ⟨x, 1, none⟩ = some (.int .i64 (L : Int)) := cell_of_row wa.drew x 1 _ _ _ (unhide HXa)
      have hxl1 := World.block_lt_of_cell? _ _ c1
      simp only at hxl1
      refine wp_region_held_drew (S := fun w' => w'.cell? ⟨x, 1, none⟩ = some (.int .i64 (L : Int))) (by kernel_rfl) c1 (fun hHeld => ?_)
      refine wpAnyH_take (i := 1) (v := .pointer (some ⟨x, 1, none⟩)) rfl (by kernel_rfl) (by kernel_rfl) (by kernel_rfl) (fun _ _ _ h => h) (Or.inl ⟨by rfl, ?_⟩) hHeld ?_
      · intro w' hSw
        first | exact rfl | go_simp
      simp only [Act.put, List.setIfInBounds_toArray]
      refine wpAnyH_take (i := 2) (v := .int .i64 (L : Int)) rfl (by kernel_rfl) (by kernel_rfl) (by kernel_rfl) (fun _ _ _ h => h) (Or.inl ⟨by rfl, ?_⟩) hHeld ?_
      · intro w' hSw
        first | exact rfl | go_simp
      simp only [Act.put]
      refine wpAnyH_ready (rs := [0]) (by kernel_rfl) (by simp) ?_
      refine AllReadyH.cons rfl (fun K hK => ?_) AllReadyH.nil
      refine step_calls rfl 30 [] #[] rfl [] (by simp) entlens ?_
      refine (unhide HT1).mono ?_
      rintro e wA1 ⟨g1, rfl, hg1, hgl1, hbA1⟩
      refine .inl ⟨_, rfl, ?_⟩
      have hcA1 := (hbA1.cell (p := ⟨x, 1, none⟩) hxl1).trans c1
      have hbw1 : Below wa.heap.size wa wA1 := (Below.refl _ _).drew.trans hbA1
      have HFb := hide ((unhide HFa).still hbw1)
      have HXb : Hid (wA1.heap[x]? = _) := (hbw1.block x hxl1).trans (unhide HXa)
      have HP1 := hide (placeIn_any lens 29 g1 29 L wA1 rfl hg1 (by omega) (by omega) Ps.lens_up (by show 3 ≤ L; omega))
      refine hK.out _ _ hcA1 (fun hHeld => ?_)
      clear hK K HT1 hg1
      simp only [Act.put]
      refine wpAnyH_ready (rs := [3]) (by kernel_rfl) (by simp) ?_
      refine AllReadyH.cons rfl (fun K hK => ?_) AllReadyH.nil
      refine step_calls rfl 29 [.tmp 33, .tmp 35] #[38, 3] rfl [.slice (some ⟨g1, 0, none⟩) 29 29, .int .i64 (L : Int)] (by simp [Act.eval]) entP ?_
      refine (unhide HP1).mono ?_
      rintro e wB1 ⟨rfl, hwB1⟩
      replace hwB1 := hwB1.symm
      subst hwB1
      refine .inl ⟨_, rfl, ?_⟩
      refine hK.out _ _ hcA1 (fun hHeld => ?_)
      clear hK K HP1
      simp only [Act.put]
      refine wpAnyH_ready (rs := [4]) (by kernel_rfl) (by simp) ?_
      refine AllReadyH.cons rfl (fun K hK => ?_) AllReadyH.nil
      go_simp
      refine hK.out _ _ hcA1 (fun hHeld => ?_)
      clear hK K
      refine wpAnyH_done (by kernel_rfl) ?_ _
      clear hHeld hbA1 hbw1 hgl1 hcA1 hxl1 c1 HFa HXa

      rw [← unhide Hc']
      go_wp2

      -- the place of D
      have HT2 := hide (rdists_any wA1.drew)
      have c2 : wA1.drew.cell? ⟨x, 2, none⟩ = some (.int .i64 (D : Int)) := cell_of_row wA1.drew x 2 _ _ _ (unhide HXb)
      have hxl2 := World.block_lt_of_cell? _ _ c2
      simp only at hxl2
      refine wp_region_held_drew (S := fun w' => w'.cell? ⟨x, 2, none⟩ = some (.int .i64 (D : Int))) (by kernel_rfl) c2 (fun hHeld => ?_)
      refine wpAnyH_take (i := 1) (v := .pointer (some ⟨x, 2, none⟩)) rfl (by kernel_rfl) (by kernel_rfl) (by kernel_rfl) (fun _ _ _ h => h) (Or.inl ⟨by rfl, ?_⟩) hHeld ?_
      · intro w' hSw
        first | exact rfl | go_simp
      simp only [Act.put, List.setIfInBounds_toArray]
      refine wpAnyH_take (i := 2) (v := .int .i64 (D : Int)) rfl (by kernel_rfl) (by kernel_rfl) (by kernel_rfl) (fun _ _ _ h => h) (Or.inl ⟨by rfl, ?_⟩) hHeld ?_
      · intro w' hSw
        first | exact rfl | go_simp
      simp only [Act.put]
      refine wpAnyH_ready (rs := [0]) (by kernel_rfl) (by simp) ?_
      refine AllReadyH.cons rfl (fun K hK => ?_) AllReadyH.nil
      refine step_calls rfl 31 [] #[] rfl [] (by simp) entdists ?_
      refine (unhide HT2).mono ?_
      rintro e wA2 ⟨g2, rfl, hg2, hgl2, hbA2⟩
      refine .inl ⟨_, rfl, ?_⟩
      have hcA2 := (hbA2.cell (p := ⟨x, 2, none⟩) hxl2).trans c2
      have hbw2 : Below wA1.heap.size wA1 wA2 := (Below.refl _ _).drew.trans hbA2
      have HFc := hide ((unhide HFb).still hbw2)
      have HXc : Hid (wA2.heap[x]? = _) := (hbw2.block x hxl2).trans (unhide HXb)
      have HP2 := hide (placeIn_any dists 30 g2 30 D wA2 rfl hg2 (by omega) (by omega) Ps.dists_up (by show 1 ≤ D; omega))
      refine hK.out _ _ hcA2 (fun hHeld => ?_)
      clear hK K HT2 hg2
      simp only [Act.put]
      refine wpAnyH_ready (rs := [3]) (by kernel_rfl) (by simp) ?_
      refine AllReadyH.cons rfl (fun K hK => ?_) AllReadyH.nil
      refine step_calls rfl 29 [.tmp 37, .tmp 39] #[38, 3] rfl [.slice (some ⟨g2, 0, none⟩) 30 30, .int .i64 (D : Int)] (by simp [Act.eval]) entP ?_
      refine (unhide HP2).mono ?_
      rintro e wB2 ⟨rfl, hwB2⟩
      replace hwB2 := hwB2.symm
      subst hwB2
      refine .inl ⟨_, rfl, ?_⟩
      refine hK.out _ _ hcA2 (fun hHeld => ?_)
      clear hK K HP2
      simp only [Act.put]
      refine wpAnyH_ready (rs := [4]) (by kernel_rfl) (by simp) ?_
      refine AllReadyH.cons rfl (fun K hK => ?_) AllReadyH.nil
      go_simp
      refine hK.out _ _ hcA2 (fun hHeld => ?_)
      clear hK K
      refine wpAnyH_done (by kernel_rfl) ?_ _
      clear hHeld hbA2 hbw2 hgl2 hcA2 hxl2 c2 HFb HXb

      rw [← unhide Hd']
      -- the symbol's word
      have cE := (unhide HFc).codes sy (by omega)
      rw [word_text] at cE
      have h15 : (Ps.word fixL 288 sy).2 ≤ 15 := (fixL_le sy).1
      have H15 := hide h15
      have HPO : Hid (0 < (Ps.word fixL 288 sy).2) := (fixL_le sy).2
      have HWF : Hid ((Ps.word fixL 288 sy).1 < 2 ^ (Ps.word fixL 288 sy).2) := Ps.word_fit _ _ _
      obtain ⟨pE, hpE⟩ : ∃ q, q = Ps.word fixL 288 sy := ⟨_, rfl⟩
      rw [← hpE] at cE H15 HPO HWF HTP
      have hxc := World.block_lt_of_cell? _ _ (cell_of_row wA2 x 1 _ _ _ (unhide HXc))
      simp only at hxc
      have hneE := (unhide HFc).ne (unhide HXc) (by decide)
      clear h15 hpE
      go_wp2_with (at_builtin; refine wpList_appL w _ rfl (.tmp 41) (.tmp 46) rfl B gF (.slice av (len l0) cv) l0 pE rfl rfl (unhide HFc) (unhide HPO) (by have := unhide H15; omega) (unhide HWF) (by have := unhide H15; omega) ?_)
      intro vE wE hFE hgrE
      have HFE := hide hFE
      have HXE : Hid (wE.heap[x]? = _) := (hgrE.block x hxc (fun q => hneE q.symm)).trans (unhide HXc)
      obtain ⟨l1, hl1⟩ : ∃ l1, l1 = l0 ++ [pE] := ⟨_, rfl⟩
      have hl1l : Hid (len l1 + 220 ≤ 4000000) := by show _ ≤ _; rw [hl1, Ps.len_append]; have := unhide H15; show _ + (_ + 0) + _ ≤ _; omega
      rw [← hl1] at HFE
      have HL1 := hide hl1
      clear hFE hgrE hneE hxc cE HFc HXc hl1
      go_wp2

      -- the bits of L behind its symbol
      obtain ⟨aX1, cX1, rfl⟩ := shape_of (unhide HFE).own
      have HT1 := hide (rlens_any wE.drew)
      have c1 : wE.drew.cell? ⟨x, 1, none⟩ = some (.int .i64 (L : Int)) := cell_of_row wE.drew x 1 _ _ _ (unhide HXE)
      have hxl1 := World.block_lt_of_cell? _ _ c1
      simp only at hxl1
      refine wp_region_held_drew (S := fun w' => w'.cell? ⟨x, 1, none⟩ = some (.int .i64 (L : Int))) (by kernel_rfl) c1 (fun hHeld => ?_)
      refine wpAnyH_take (i := 0) (v := .slice aX1 (len l1) cX1) rfl (by kernel_rfl) (by kernel_rfl) (by kernel_rfl) (fun _ _ _ h => h) (Or.inl ⟨by rfl, ?_⟩) hHeld ?_
      · intro w' hSw
        first | exact rfl | go_simp
      simp only [Act.put, List.setIfInBounds_toArray]
      refine wpAnyH_take (i := 1) (v := .pointer (some ⟨x, 1, none⟩)) rfl (by kernel_rfl) (by kernel_rfl) (by kernel_rfl) (fun _ _ _ h => h) (Or.inl ⟨by rfl, ?_⟩) hHeld ?_
      · intro w' hSw
        first | exact rfl | go_simp
      simp only [Act.put]
      refine wpAnyH_take (i := 2) (v := .int .i64 (L : Int)) rfl (by kernel_rfl) (by kernel_rfl) (by kernel_rfl) (fun _ _ _ h => h) (Or.inl ⟨by rfl, ?_⟩) hHeld ?_
      · intro w' hSw
        first | exact rfl | go_simp
      simp only [Act.put]
      refine wpAnyH_take (i := 4) (v := .int .i64 (c : Int)) rfl (by kernel_rfl) (by kernel_rfl) (by kernel_rfl) (fun _ _ _ h => h) (Or.inl ⟨by rfl, ?_⟩) hHeld ?_
      · intro w' hSw
        first | exact rfl | go_simp
      simp only [Act.put]
      refine wpAnyH_take (i := 9) (v := .int .i64 (c : Int)) rfl (by kernel_rfl) (by kernel_rfl) (by kernel_rfl) (fun _ _ _ h => h) (Or.inl ⟨by rfl, ?_⟩) hHeld ?_
      · intro w' hSw
        first | exact rfl | go_simp
      simp only [Act.put]
      refine wpAnyH_ready (rs := [3]) (by kernel_rfl) (by simp) ?_
      refine AllReadyH.cons rfl (fun K hK => ?_) AllReadyH.nil
      refine step_calls rfl 30 [] #[] rfl [] (by simp) entlens ?_
      refine (unhide HT1).mono ?_
      rintro e wA1 ⟨g1, rfl, hg1, hgl1, hbA1⟩
      refine .inl ⟨_, rfl, ?_⟩
      have hcA1 := (hbA1.cell (p := ⟨x, 1, none⟩) hxl1).trans c1
      have hbw1 : Below wE.heap.size wE wA1 := (Below.refl _ _).drew.trans hbA1
      have HFa1 := hide ((unhide HFE).still hbw1)
      have HXa1 : Hid (wA1.heap[x]? = _) := (hbw1.block x hxl1).trans (unhide HXE)
      have hgc1 := hg1 c (by omega)
      rw [← unhide Hlc] at hgc1
      have HB1 := hide (rlenBits_any c wA1 (by omega))
      rw [← unhide Hlb] at HB1
      refine hK.out _ _ hcA1 (fun hHeld => ?_)
      clear hK K HT1 hg1 hHeld
      simp only [Act.put]
      refine wpAnyH_strong (S2 := fun w' => w'.cell? ⟨x, 1, none⟩ = some (.int .i64 (L : Int)) ∧ w'.cell? ⟨g1, c, none⟩ = some (.int .i64 (lc : Int))) (fun _ h => h.1) _ _ _ _ ?_
      have hHeld := And.intro hcA1 hgc1
      have hgb1 := World.block_lt_of_cell? _ _ hgc1
      simp only at hgb1
      refine wpAnyH_take (i := 5) (v := .pointer (some ⟨g1, c, none⟩)) rfl (by kernel_rfl) (by kernel_rfl) (by kernel_rfl) (fun _ _ _ h => h) (Or.inl ⟨by rfl, ?_⟩) hHeld ?_
      · intro w' hSw
        obtain ⟨s1, s2⟩ := hSw
        go_simp
      simp only [Act.put]
      refine wpAnyH_take (i := 6) (v := .int .i64 (lc : Int)) rfl (by kernel_rfl) (by kernel_rfl) (by kernel_rfl) (fun _ _ _ h => h) (Or.inl ⟨by rfl, ?_⟩) hHeld ?_
      · intro w' hSw
        obtain ⟨s1, s2⟩ := hSw
        go_simp
      simp only [Act.put]
      refine wpAnyH_take (i := 7) (v := .int .i64 (r1 : Int)) rfl (by kernel_rfl) (by kernel_rfl) (by kernel_rfl) (fun _ _ _ h => h) (Or.inl ⟨by rfl, ?_⟩) hHeld ?_
      · intro w' hSw
        obtain ⟨s1, s2⟩ := hSw
        go_simp
      simp only [Act.put]
      refine wpAnyH_take (i := 8) (v := .int .u32 (r1 : Int)) rfl (by kernel_rfl) (by kernel_rfl) (by kernel_rfl) (fun _ _ _ h => h) (Or.inl ⟨by rfl, ?_⟩) hHeld ?_
      · intro w' hSw
        obtain ⟨s1, s2⟩ := hSw
        go_simp
      simp only [Act.put]
      refine wpAnyH_ready (rs := [10]) (by kernel_rfl) (by simp) ?_
      refine AllReadyH.cons rfl (fun K hK => ?_) AllReadyH.nil
      refine step_calls rfl 33 [.tmp 57] #[3] rfl [.int .i64 (c : Int)] (by simp [Act.eval]) entlenBits ?_
      refine (unhide HB1).mono ?_
      rintro e wB1 ⟨rfl, hwB1⟩
      replace hwB1 := hwB1.symm
      subst hwB1
      refine .inl ⟨_, rfl, ?_⟩
      refine hK.out _ _ hHeld (fun hHeld => ?_)
      clear hK K HB1
      simp only [Act.put]
      have HL1 := hide (low_any r1 lb wA1 (by omega) (by omega))
      refine wpAnyH_ready (rs := [11]) (by kernel_rfl) (by simp) ?_
      refine AllReadyH.cons rfl (fun K hK => ?_) AllReadyH.nil
      refine step_calls rfl 32 [.tmp 56, .tmp 58] #[63, 3] rfl [.int .u32 (r1 : Int), .int .i64 (lb : Int)] (by simp [Act.eval]) entL ?_
      refine (unhide HL1).mono ?_
      rintro e wC1 ⟨rfl, hbC1⟩
      refine .inl ⟨_, rfl, ?_⟩
      have hHc1 := And.intro ((hbC1.cell (p := ⟨x, 1, none⟩) (World.block_lt_of_cell? _ _ hHeld.1)).trans hHeld.1) ((hbC1.cell (p := ⟨g1, c, none⟩) hgb1).trans hHeld.2)
      have HFc1 := hide ((unhide HFa1).still hbC1)
      have HXc1 : Hid (wC1.heap[x]? = _) := (hbC1.block x (World.block_lt_of_cell? _ _ hHeld.1)).trans (unhide HXa1)
      refine hK.out _ _ hHc1 (fun hHeld => ?_)
      clear hK K HL1 HFa1 HXa1 hcA1 hbA1 hbw1
      simp only [Act.put]
      have hne1 := own_ne (unhide HFc1).own (unhide HXc1) (by decide)
      have hgn1 : (.slice aX1 (len l1) cX1 : Value).ownBlock ≠ some g1 := fun q => by have := (unhide HFE).own.lt g1 q; have := hgl1; have hd : wE.drew.heap.size = wE.heap.size := rfl; omega
      have hgbc1 := World.block_lt_of_cell? _ _ hHeld.2
      simp only at hgbc1
      have hxbc1 := World.block_lt_of_cell? _ _ hHeld.1
      simp only at hxbc1
      refine wpAnyH_ready (rs := [12]) (by kernel_rfl) (by simp) ?_
      refine AllReadyH.cons rfl (fun K hK => ?_) AllReadyH.nil
      refine step_appP rfl (.tmp 48) (.tmp 59) rfl B (.slice aX1 (len l1) cX1) l1 (r1, lb) (by simp [Act.eval]) (by simp [Act.eval]) (unhide HFc1).own (unhide HFc1).fit (by have := unhide hl1l; show len l1 + lb ≤ _; omega) (unhide HFc1).size ?_
      intro vG wG hown1 hgr1
      have HFG := hide ((unhide HFc1).push (p := (r1, lb)) hown1 hgr1 (unhide Hr1))
      have hbx1 := hgr1.block x hxbc1 (fun q => hne1 q.symm)
      have HXG : Hid (wG.heap[x]? = _) := hbx1.trans (unhide HXc1)
      have hHd1 := And.intro ((World.cell?_of_block (a := ⟨x, 1, none⟩) hbx1).trans hHeld.1) ((World.cell?_of_block (a := ⟨g1, c, none⟩) (hgr1.block g1 hgbc1 (fun q => hgn1 q.symm))).trans hHeld.2)
      refine hK.out _ _ hHd1 (fun hHeld => ?_)
      clear hK K hown1 hgr1 hne1 hgn1 HFc1 HXc1 hHc1 hgbc1 hxbc1 hbx1
      simp only [Act.put]
      refine wpAnyH_ready (rs := [13]) (by kernel_rfl) (by simp) ?_
      refine AllReadyH.cons rfl (fun K hK => ?_) AllReadyH.nil
      go_simp
      refine hK.out _ _ hHd1 (fun hHeld => ?_)
      clear hK K
      refine wpAnyH_done (by kernel_rfl) ?_ _
      clear hHeld hHd1 hgc1 hgl1 hgb1 hxl1 c1 HFE HXE

      -- the distance's word
      obtain ⟨l2, hl2⟩ : ∃ l2, l2 = l1 ++ [(r1, lb)] := ⟨_, rfl⟩
      have hl2l : Hid (len l2 + 200 ≤ 4000000) := by show _ ≤ _; rw [hl2, Ps.len_append]; have := unhide hl1l; show _ + (_ + 0) + _ ≤ _; omega
      rw [← hl2] at HFG
      have HL2 := hide hl2
      obtain ⟨aG, cG, rfl⟩ := shape_of (unhide HFG).own
      have HHI := hide (high_any d 5 wG (by omega) (by omega))
      clear hl2
      go_wp2_with fail
      refine (unhide HHI).mono ?_; rintro e wH ⟨rfl, hbH⟩
      have HFH := hide ((unhide HFG).still hbH)
      have hxg := World.block_lt_of_cell? _ _ (cell_of_row wG x 1 _ _ _ (unhide HXG))
      simp only at hxg
      have HXH : Hid (wH.heap[x]? = _) := (hbH.block x hxg).trans (unhide HXG)
      have hxh := World.block_lt_of_cell? _ _ (cell_of_row wH x 1 _ _ _ (unhide HXH))
      simp only at hxh
      have hneH := own_ne (unhide HFH).own (unhide HXH) (by decide)
      clear HHI hbH HFG HXG hxg
      go_wp2_with (at_builtin; refine wpList_appP _ rfl (.tmp 61) (.tmp 64) rfl B (.slice aG (len l2) cG) l2 (Bt.rev d 5, 5) rfl rfl (unhide HFH).own (unhide HFH).fit (by have := unhide hl2l; show len l2 + 5 ≤ _; omega) (unhide HFH).size ?_)
      intro vI wI hownI hgrI
      have HFI := hide ((unhide HFH).push (p := (Bt.rev d 5, 5)) hownI hgrI (Bt.rev_lt d 5))
      have HXI : Hid (wI.heap[x]? = _) := (hgrI.block x hxh (fun q => hneH q.symm)).trans (unhide HXH)
      obtain ⟨l3, hl3⟩ : ∃ l3, l3 = l2 ++ [(Bt.rev d 5, 5)] := ⟨_, rfl⟩
      have hl3l : Hid (len l3 + 180 ≤ 4000000) := by show _ ≤ _; rw [hl3, Ps.len_append]; have := unhide hl2l; show _ + (5 + 0) + _ ≤ _; omega
      rw [← hl3] at HFI
      have HL3 := hide hl3
      clear hownI hgrI hneH hxh HFH HXH hl3
      go_wp2

      -- the bits of D behind its symbol
      obtain ⟨aX2, cX2, rfl⟩ := shape_of (unhide HFI).own
      have HT2 := hide (rdists_any wI.drew)
      have c2 : wI.drew.cell? ⟨x, 2, none⟩ = some (.int .i64 (D : Int)) := cell_of_row wI.drew x 2 _ _ _ (unhide HXI)
      have hxl2 := World.block_lt_of_cell? _ _ c2
      simp only at hxl2
      refine wp_region_held_drew (S := fun w' => w'.cell? ⟨x, 2, none⟩ = some (.int .i64 (D : Int))) (by kernel_rfl) c2 (fun hHeld => ?_)
      refine wpAnyH_take (i := 0) (v := .slice aX2 (len l3) cX2) rfl (by kernel_rfl) (by kernel_rfl) (by kernel_rfl) (fun _ _ _ h => h) (Or.inl ⟨by rfl, ?_⟩) hHeld ?_
      · intro w' hSw
        first | exact rfl | go_simp
      simp only [Act.put, List.setIfInBounds_toArray]
      refine wpAnyH_take (i := 1) (v := .pointer (some ⟨x, 2, none⟩)) rfl (by kernel_rfl) (by kernel_rfl) (by kernel_rfl) (fun _ _ _ h => h) (Or.inl ⟨by rfl, ?_⟩) hHeld ?_
      · intro w' hSw
        first | exact rfl | go_simp
      simp only [Act.put]
      refine wpAnyH_take (i := 2) (v := .int .i64 (D : Int)) rfl (by kernel_rfl) (by kernel_rfl) (by kernel_rfl) (fun _ _ _ h => h) (Or.inl ⟨by rfl, ?_⟩) hHeld ?_
      · intro w' hSw
        first | exact rfl | go_simp
      simp only [Act.put]
      refine wpAnyH_take (i := 4) (v := .int .i64 (d : Int)) rfl (by kernel_rfl) (by kernel_rfl) (by kernel_rfl) (fun _ _ _ h => h) (Or.inl ⟨by rfl, ?_⟩) hHeld ?_
      · intro w' hSw
        first | exact rfl | go_simp
      simp only [Act.put]
      refine wpAnyH_take (i := 9) (v := .int .i64 (d : Int)) rfl (by kernel_rfl) (by kernel_rfl) (by kernel_rfl) (fun _ _ _ h => h) (Or.inl ⟨by rfl, ?_⟩) hHeld ?_
      · intro w' hSw
        first | exact rfl | go_simp
      simp only [Act.put]
      refine wpAnyH_ready (rs := [3]) (by kernel_rfl) (by simp) ?_
      refine AllReadyH.cons rfl (fun K hK => ?_) AllReadyH.nil
      refine step_calls rfl 31 [] #[] rfl [] (by simp) entdists ?_
      refine (unhide HT2).mono ?_
      rintro e wA2 ⟨g2, rfl, hg2, hgl2, hbA2⟩
      refine .inl ⟨_, rfl, ?_⟩
      have hcA2 := (hbA2.cell (p := ⟨x, 2, none⟩) hxl2).trans c2
      have hbw2 : Below wI.heap.size wI wA2 := (Below.refl _ _).drew.trans hbA2
      have HFa2 := hide ((unhide HFI).still hbw2)
      have HXa2 : Hid (wA2.heap[x]? = _) := (hbw2.block x hxl2).trans (unhide HXI)
      have hgc2 := hg2 d (by omega)
      rw [← unhide Hdc] at hgc2
      have HB2 := hide (rdistBits_any d wA2 (by omega))
      rw [← unhide Hdb] at HB2
      refine hK.out _ _ hcA2 (fun hHeld => ?_)
      clear hK K HT2 hg2 hHeld
      simp only [Act.put]
      refine wpAnyH_strong (S2 := fun w' => w'.cell? ⟨x, 2, none⟩ = some (.int .i64 (D : Int)) ∧ w'.cell? ⟨g2, d, none⟩ = some (.int .i64 (dc : Int))) (fun _ h => h.1) _ _ _ _ ?_
      have hHeld := And.intro hcA2 hgc2
      have hgb2 := World.block_lt_of_cell? _ _ hgc2
      simp only at hgb2
      refine wpAnyH_take (i := 5) (v := .pointer (some ⟨g2, d, none⟩)) rfl (by kernel_rfl) (by kernel_rfl) (by kernel_rfl) (fun _ _ _ h => h) (Or.inl ⟨by rfl, ?_⟩) hHeld ?_
      · intro w' hSw
        obtain ⟨s1, s2⟩ := hSw
        go_simp
      simp only [Act.put]
      refine wpAnyH_take (i := 6) (v := .int .i64 (dc : Int)) rfl (by kernel_rfl) (by kernel_rfl) (by kernel_rfl) (fun _ _ _ h => h) (Or.inl ⟨by rfl, ?_⟩) hHeld ?_
      · intro w' hSw
        obtain ⟨s1, s2⟩ := hSw
        go_simp
      simp only [Act.put]
      refine wpAnyH_take (i := 7) (v := .int .i64 (r2 : Int)) rfl (by kernel_rfl) (by kernel_rfl) (by kernel_rfl) (fun _ _ _ h => h) (Or.inl ⟨by rfl, ?_⟩) hHeld ?_
      · intro w' hSw
        obtain ⟨s1, s2⟩ := hSw
        go_simp
      simp only [Act.put]
      refine wpAnyH_take (i := 8) (v := .int .u32 (r2 : Int)) rfl (by kernel_rfl) (by kernel_rfl) (by kernel_rfl) (fun _ _ _ h => h) (Or.inl ⟨by rfl, ?_⟩) hHeld ?_
      · intro w' hSw
        obtain ⟨s1, s2⟩ := hSw
        go_simp
      simp only [Act.put]
      refine wpAnyH_ready (rs := [10]) (by kernel_rfl) (by simp) ?_
      refine AllReadyH.cons rfl (fun K hK => ?_) AllReadyH.nil
      refine step_calls rfl 35 [.tmp 75] #[3] rfl [.int .i64 (d : Int)] (by simp [Act.eval]) entdistBits ?_
      refine (unhide HB2).mono ?_
      rintro e wB2 ⟨rfl, hwB2⟩
      replace hwB2 := hwB2.symm
      subst hwB2
      refine .inl ⟨_, rfl, ?_⟩
      refine hK.out _ _ hHeld (fun hHeld => ?_)
      clear hK K HB2
      simp only [Act.put]
      have HL2 := hide (low_any r2 db wA2 (by omega) (by omega))
      refine wpAnyH_ready (rs := [11]) (by kernel_rfl) (by simp) ?_
      refine AllReadyH.cons rfl (fun K hK => ?_) AllReadyH.nil
      refine step_calls rfl 32 [.tmp 74, .tmp 76] #[63, 3] rfl [.int .u32 (r2 : Int), .int .i64 (db : Int)] (by simp [Act.eval]) entL ?_
      refine (unhide HL2).mono ?_
      rintro e wC2 ⟨rfl, hbC2⟩
      refine .inl ⟨_, rfl, ?_⟩
      have hHc2 := And.intro ((hbC2.cell (p := ⟨x, 2, none⟩) (World.block_lt_of_cell? _ _ hHeld.1)).trans hHeld.1) ((hbC2.cell (p := ⟨g2, d, none⟩) hgb2).trans hHeld.2)
      have HFc2 := hide ((unhide HFa2).still hbC2)
      have HXc2 : Hid (wC2.heap[x]? = _) := (hbC2.block x (World.block_lt_of_cell? _ _ hHeld.1)).trans (unhide HXa2)
      refine hK.out _ _ hHc2 (fun hHeld => ?_)
      clear hK K HL2 HFa2 HXa2 hcA2 hbA2 hbw2
      simp only [Act.put]
      have hne2 := own_ne (unhide HFc2).own (unhide HXc2) (by decide)
      have hgn2 : (.slice aX2 (len l3) cX2 : Value).ownBlock ≠ some g2 := fun q => by have := (unhide HFI).own.lt g2 q; have := hgl2; have hd : wI.drew.heap.size = wI.heap.size := rfl; omega
      have hgbc2 := World.block_lt_of_cell? _ _ hHeld.2
      simp only at hgbc2
      have hxbc2 := World.block_lt_of_cell? _ _ hHeld.1
      simp only at hxbc2
      refine wpAnyH_ready (rs := [12]) (by kernel_rfl) (by simp) ?_
      refine AllReadyH.cons rfl (fun K hK => ?_) AllReadyH.nil
      refine step_appP rfl (.tmp 66) (.tmp 77) rfl B (.slice aX2 (len l3) cX2) l3 (r2, db) (by simp [Act.eval]) (by simp [Act.eval]) (unhide HFc2).own (unhide HFc2).fit (by have := unhide hl3l; show len l3 + db ≤ _; omega) (unhide HFc2).size ?_
      intro vJ wJ hown2 hgr2
      have HFJ := hide ((unhide HFc2).push (p := (r2, db)) hown2 hgr2 (unhide Hr2))
      have hbx2 := hgr2.block x hxbc2 (fun q => hne2 q.symm)
      have HXJ : Hid (wJ.heap[x]? = _) := hbx2.trans (unhide HXc2)
      have hHd2 := And.intro ((World.cell?_of_block (a := ⟨x, 2, none⟩) hbx2).trans hHeld.1) ((World.cell?_of_block (a := ⟨g2, d, none⟩) (hgr2.block g2 hgbc2 (fun q => hgn2 q.symm))).trans hHeld.2)
      refine hK.out _ _ hHd2 (fun hHeld => ?_)
      clear hK K hown2 hgr2 hne2 hgn2 HFc2 HXc2 hHc2 hgbc2 hxbc2 hbx2
      simp only [Act.put]
      refine wpAnyH_ready (rs := [13]) (by kernel_rfl) (by simp) ?_
      refine AllReadyH.cons rfl (fun K hK => ?_) AllReadyH.nil
      go_simp
      refine hK.out _ _ hHd2 (fun hHeld => ?_)
      clear hK K
      refine wpAnyH_done (by kernel_rfl) ?_ _
      clear hHeld hHd2 hgc2 hgl2 hgb2 hxl2 c2 HFI HXI

      rw [unhide HL3, unhide HL2, unhide HL1] at HFJ
      have HEND : Hid (FoI w B gF wJ vJ ([((1 : Nat), 1), ((1 : Nat), 2)] ++ F (j + 1))) := by show FoI _ _ _ _ _ _; rw [unhide HTP]; simpa [List.append_assoc] using (unhide HFJ).loose
      clear HFJ HXJ
      go_wp2
      go_roundw
      case rel => exact ⟨j + 1, by omega, by go_num, HEND⟩
      case measure => simp [intOf]; omega
end Go.Proofs.YtbbcfghlhgaofadGreatDoor
