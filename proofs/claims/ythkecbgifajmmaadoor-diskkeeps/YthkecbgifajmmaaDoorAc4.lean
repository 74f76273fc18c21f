/- An act, as the statements do it. -/
import Derived.Test.YthkecbgifajmmaaDoorAc3
import Derived.Test.YthkecbgifajmmaaDoorStc
namespace Go.Proofs.YthkecbgifajmmaaDoor
open Go.RowKit

theorem bool_info : (Tryd.prog.info? 4).map (fun i => (i.zero, i.size, i.bytes)) = some (some (.bool false), 1, 1) := by kernel_rfl
theorem copyB_none (w : World) (ao : Option Addr) (cap : Nat) : (Builtin.append_ #[34, 34] 34 #[.slice none 0 0, .slice ao 0 cap]).run Tryd.prog w = .ok (.slice none 0 0) w := by
  cases ao <;> kernel_rfl
/-- An append whose answer is known, and that makes nothing. -/
theorem wpList_append_eqD (w : World) {ops : Array Oper} {rest : List Oper} {o : Oper} {a : Act} {Q : Exit → Act → World → Prop} (hgd : o.guard = none) (s x : Operand) (t : TypeId)
    (ho : o.op = .call { callee := .builtin .append, args := #[s, x], argTypes := #[t, t] }) (v u r : Value) (hs : a.eval s = v) (hx : a.eval x = u)
    (hr : (Builtin.append_ #[t, t] o.type #[v, u]).run Tryd.prog w = .ok r w) (h : wpList Tryd.prog ops Q rest (a.put o.dst r) w) : wpList Tryd.prog ops Q (o :: rest) a w :=
  wpList_plain hgd fun _ hK => by
    unfold Oper.wp execOp
    simp only [ho, resolve, invoke, builtin, Sem.run_bind, Sem.run_pure, Result.andThen_ok, List.map_toArray, List.map_cons, List.map_nil, hs, hx, hr]
    exact hK _ _ h
def booL (b : Nat → Bool) (n : Nat) : List Value := (List.range n).map fun i => .bool (b i)
theorem booL_length (b : Nat → Bool) (n : Nat) : (booL b n).length = n := by simp [booL]
theorem booL_at (b : Nat → Bool) (n i : Nat) (h : i < n) : (booL b n)[i]? = some (.bool (b i)) := by simp [booL, h]
theorem booL_one (b : Nat → Bool) (n : Nat) : ∀ u ∈ booL b n, u.oneCell' = true := fun u hu => by
  obtain ⟨i, _, rfl⟩ := List.mem_map.1 hu
  rfl
/-- Bools, copied into memory of one's own. -/
theorem wpList_appB (w : World) {ops : Array Oper} {rest : List Oper} {o : Oper} {a : Act} {Q : Exit → Act → World → Prop} (hgd : o.guard = none) (s x : Operand)
    (ho : o.op = .call { callee := .builtin .append, args := #[s, x], argTypes := #[34, 34] }) (hty : o.type = 34) (sa : Option Addr) (n c : Nat) (b : Nat → Bool) (hs : a.eval s = .slice none 0 0) (hx : a.eval x = .slice sa n c) (hb : IsB w sa n b) (hn : n ≤ 1000000)
    (h : ∀ s2 c2 w', IsB w' s2 n b → (∀ k, k ∈ (blkS s2).toList → w.heap.size ≤ k) → Below w.heap.size w w' → wpList Tryd.prog ops Q rest (a.put o.dst (.slice s2 n c2)) w') : wpList Tryd.prog ops Q (o :: rest) a w := by
  by_cases h0 : n = 0
  · subst h0
    refine wpList_append_eqD w hgd s x 34 ho (.slice none 0 0) (.slice sa 0 c) (.slice none 0 0) hs hx (by rw [hty]; exact copyB_none w sa c) ?_
    exact h none 0 w (.inl rfl) (fun k hk => by simp [blkS] at hk) (Below.refl _ _)
  obtain ⟨g, off, rfl, hm, hc⟩ := hb.resolve_left h0
  obtain ⟨i0, hi, hz0, hz1, hz2⟩ := info_parts bool_info
  refine wpList_append_lies w hgd s x 34 ho w.heap.size 4 i0 _ 1 1 Tryd.underlying34 hi hz0 hz1 hz2 rfl (by omega) (.slice none 0 0) 0 [] hs (World.ownsRow_nil _ _ _ _) ⟨g, off, none⟩ n c (booL b n) hx (by rw [booL_length, Nat.mul_one]) (fun j u hj => ?_) (booL_one b n) (by omega) (by unfold maxLen; omega) (by omega) (Nat.le_refl _) _ rfl ?_
  · have hjn : j < n := by have := (List.getElem?_eq_some_iff.1 hj).1; rwa [booL_length] at this
    rw [booL_at b n j hjn] at hj
    rw [Addr.add_mid, hc j hjn, hj]
  · intro g2 cap w6 hown hgrow hat hlt6
    have hb6 : Below w.heap.size w w6 := (Below.refl _ _).grown hgrow (Nat.le_refl _) (fun k e => by simp [Value.ownBlock] at e)
    rw [Nat.zero_add, List.nil_append] at hown
    have hg2 : w.heap.size ≤ g2 := by
      rcases hat with e | e
      · simp [Value.ownBlock] at e
      · omega
    have := h (some ⟨g2, 0, none⟩) cap w6 (.inr ⟨g2, 0, rfl, by unfold maxLen; omega, fun i hi2 => by rw [Nat.zero_add, hown.cellAt i (by omega), booL_at b n i hi2]⟩) (fun k hk => by simp [blkS] at hk; omega) hb6
    rw [Nat.zero_add]
    exact this

set_option maxHeartbeats 2000000 in
set_option maxRecDepth 100000 in
theorem act_any (q n : Nat) (fp : List Nat) (D : DkS) (x : ActV) (w : World) (a : Nat → Addr) (hS : Told w [1, 2, 8] a) (h : DAt w q n fp D) (hok : DkOk n D) (hx : ActOk w x) (hkn : x.kn ≤ 1000000) (hf : D.ws.length < 1000) :
    Calls Tryd.prog 12 #[.pointer (some ⟨q, 0, none⟩), .agg #[.string x.kind, .int .i64 x.N, .string x.S, .slice x.ks x.kn x.kc]] w fun e w' => e = .returned (errN a (stepS n D x).1) ∧ ∃ fp', DAt w' q n fp' (stepS n D x).2 ∧ Mv fp fp' w w' := by
  have hlo := hx.lo
  have hhi := hx.hi
  have hb := (Below.refl w.heap.size w).alloc (Nat.le_refl _) (.cells #[.string x.kind, .int .i64 x.N, .string x.S, .slice x.ks x.kn x.kc] 36)
  have HKA := hide (hx.keep.below hb)
  have HA := hide (h.below hb)
  have HSA := hide (hS.below hb)
  have HM := hide (Mv.of_below fp hb)
  have HO := hide hok
  have t1 := toList_kind x.kind [119, 114, 105, 116, 101]
  have t2 := toList_kind x.kind [102, 108, 117, 115, 104]
  have t3 := toList_kind x.kind [102, 97, 105, 108]
  have t4 := toList_kind x.kind [99, 114, 97, 115, 104]
  have hfl := hide h.lt
  clear hx hok h hb hS
  by_cases h1 : x.kind = kWrite
  · rw [step_write n D x h1]
    have e1 : (x.kind.toList == [119, 114, 105, 116, 101]) = true := t1.trans (decide_eq_true h1)
    clear t1 t2 t3 t4 h1
    go_enter Tryd.func12, Tryd.ntmps12
    go_wp2_with fail
    refine (dwrite_all q n x.N x.S fp D _ a (unhide HSA) (unhide HA) (unhide HO) hf).mono ?_
    rintro e w2 ⟨rfl, fp', hA2, hM2⟩
    have HA2 := hide hA2
    have HM2 := hide ((unhide HM).trans hM2)
    clear hA2 hM2 HA HM
    go_wp2
    go_ret
    exact ⟨rfl, fp', unhide HA2, unhide HM2⟩
  have e1 : (x.kind.toList == [119, 114, 105, 116, 101]) = false := t1.trans (decide_eq_false h1)
  by_cases h2 : x.kind = kFlush
  · rw [step_flush n D x h2]
    have e2 : (x.kind.toList == [102, 108, 117, 115, 104]) = true := t2.trans (decide_eq_true h2)
    clear t1 t2 t3 t4 h1 h2
    go_enter Tryd.func12, Tryd.ntmps12
    go_wp2_with fail
    refine (dflush_all q n fp D _ a (unhide HSA) (unhide HA) (unhide HO)).mono ?_
    rintro e w2 ⟨rfl, fp', hA2, hM2⟩
    have HA2 := hide hA2
    have HM2 := hide ((unhide HM).trans hM2)
    clear hA2 hM2 HA HM
    go_wp2
    go_ret
    exact ⟨rfl, fp', unhide HA2, unhide HM2⟩
  have e2 : (x.kind.toList == [102, 108, 117, 115, 104]) = false := t2.trans (decide_eq_false h2)
  by_cases h3 : x.kind = kFail
  · rw [step_fail n D x h3]
    have e3 : (x.kind.toList == [102, 97, 105, 108]) = true := t3.trans (decide_eq_true h3)
    clear t1 t2 t3 t4 h1 h2 h3
    obtain ⟨R, HR⟩ : ∃ R : Nat × DkS, Hid (R = if x.N < 0 then ((2, D) : Nat × DkS) else (0, { D with pw := some x.N.toNat })) := ⟨_, rfl⟩
    have HFA : Hid (∀ w2 : World, Told w2 [1, 2, 8] a → DAt w2 q n fp D → Calls Tryd.prog 26 #[.pointer (some ⟨q, 0, none⟩), .int .i64 x.N] w2 fun e w' => e = .returned (errN a R.1) ∧ DAt w' q n fp R.2 ∧ Mv fp fp w2 w') := by
      intro w2 h1 h2
      rw [unhide HR]
      exact dfail_all q n x.N fp D w2 a h1 h2 hhi
    rw [← unhide HR]
    have kb1 : (w.alloc (.cells #[.string x.kind, .int .i64 x.N, .string x.S, .slice x.ks x.kn x.kc] 36)).cell? ⟨w.heap.size, 1, none⟩ = some (.int .i64 x.N) := by rw [blk_cell (heap_alloc_new w _)]; rfl
    have entF : ∀ args w, (callFunc 26 args).run Tryd.prog w = .ok (.enter 26 args) w := enters_of Tryd.func26 (by kernel_rfl) rfl
    have hbn : w.heap.size < (w.alloc (.cells #[.string x.kind, .int .i64 x.N, .string x.S, .slice x.ks x.kn x.kc] 36)).heap.size := by simp
    have HBF : Hid (w.heap.size ∉ fp) := fun hm => Nat.lt_irrefl _ (unhide hfl _ hm)
    go_enter Tryd.func12, Tryd.ntmps12
    go_upto_region 7 with fail
    generalize w.alloc (.cells #[.string x.kind, .int .i64 x.N, .string x.S, .slice x.ks x.kn x.kc] 36) = w1 at *
    generalize hbq : w.heap.size = b at *
    clear hbq
    have HW : Hid (∀ w0 : World, w0 = w1.drew → Told w0 [1, 2, 8] a ∧ DAt w0 q n fp D ∧ Mv fp fp w w0) := fun w0 e => by
      subst e
      exact ⟨(unhide HSA).below (Below.refl _ _).drew, (unhide HA).below (Below.refl _ _).drew, (unhide HM).trans (Mv.of_below fp (Below.refl _ _).drew)⟩
    refine wp_region_held_drew (S := fun w' => w'.cell? ⟨b, 1, none⟩ = some (.int .i64 x.N)) (by kernel_rfl) kb1 (fun hHeld => ?_)
    refine wpAnyH_take (i := 0) (v := .pointer (some ⟨q, 0, none⟩)) rfl (by kernel_rfl) (by kernel_rfl) (by kernel_rfl) (fun _ _ _ h => h) (Or.inl ⟨by rfl, ?_⟩) hHeld ?_
    · intro w' hSw
      go_simp
    simp only [List.getElem_toArray, List.getElem_cons_zero, Act.put, List.setIfInBounds_toArray, List.set_cons_zero, List.set_cons_succ]
    refine wpAnyH_take (i := 1) (v := .pointer (some ⟨q, 0, none⟩)) rfl (by kernel_rfl) (by kernel_rfl) (by kernel_rfl) (fun _ _ _ h => h) (Or.inl ⟨by rfl, ?_⟩) hHeld ?_
    · intro w' hSw
      go_simp
    simp only [List.getElem_toArray, List.getElem_cons_succ, List.getElem_cons_zero, Act.put, List.setIfInBounds_toArray, List.set_cons_zero, List.set_cons_succ]
    refine wpAnyH_take (i := 2) (v := .pointer (some ⟨q, 0, none⟩)) rfl (by kernel_rfl) (by kernel_rfl) (by kernel_rfl) (fun _ _ _ h => h) (Or.inl ⟨by rfl, ?_⟩) hHeld ?_
    · intro w' hSw
      go_simp
    simp only [List.getElem_toArray, List.getElem_cons_succ, List.getElem_cons_zero, Act.put, List.setIfInBounds_toArray, List.set_cons_zero, List.set_cons_succ]
    refine wpAnyH_take (i := 3) (v := .pointer (some ⟨b, 1, none⟩)) rfl (by kernel_rfl) (by kernel_rfl) (by kernel_rfl) (fun _ _ _ h => h) (Or.inl ⟨by rfl, ?_⟩) hHeld ?_
    · intro w' hSw
      go_simp
    simp only [List.getElem_toArray, List.getElem_cons_succ, List.getElem_cons_zero, Act.put, List.setIfInBounds_toArray, List.set_cons_zero, List.set_cons_succ]
    refine wpAnyH_take (i := 4) (v := .int .i64 x.N) rfl (by kernel_rfl) (by kernel_rfl) (by kernel_rfl) (fun _ _ _ h => h) (Or.inl ⟨by rfl, ?_⟩) hHeld ?_
    · intro w' hSw
      go_simp
    simp only [List.getElem_toArray, List.getElem_cons_succ, List.getElem_cons_zero, Act.put, List.setIfInBounds_toArray, List.set_cons_zero, List.set_cons_succ]
    obtain ⟨s1, s2, s3⟩ := unhide HW _ rfl
    have hbd : b < w1.drew.heap.size := hbn
    generalize w1.drew = w2 at *
    refine wpAnyH_ready (rs := [5]) (by kernel_rfl) (by simp) ?_
    refine AllReadyH.cons rfl (fun K hK => ?_) AllReadyH.nil
    refine step_calls rfl 26 [.tmp 24, .tmp 26] #[55, 3] rfl [.pointer (some ⟨q, 0, none⟩), .int .i64 x.N] (by simp [Act.eval]) entF ?_
    refine (unhide HFA w2 s1 s2).mono ?_
    rintro e w3 ⟨rfl, hA3, hM3⟩
    refine .inl ⟨_, rfl, ?_⟩
    have HA3 := hide hA3
    have HM3 := hide (s3.trans hM3)
    refine hK.out _ _ ((hM3.but.cell (p := ⟨b, 1, none⟩) hbd (unhide HBF)).trans hHeld) (fun hHeld => ?_)
    clear hK K s1 s2 s3 hA3 hM3 HW HA HM HSA
    simp only [List.getElem_toArray, List.getElem_cons_succ, List.getElem_cons_zero, Act.put, List.setIfInBounds_toArray, List.set_cons_zero, List.set_cons_succ]
    refine wpAnyH_ready (rs := [6]) (by kernel_rfl) (by simp) ?_
    refine AllReadyH.cons rfl (fun K hK => ?_) AllReadyH.nil
    go_simp
    refine hK.out _ _ hHeld (fun hHeld => ?_)
    clear hK K hHeld
    refine wpAnyH_done (by kernel_rfl) ?_ _
    go_wp2
    go_ret
    exact ⟨rfl, fp, unhide HA3, unhide HM3⟩
  have e3 : (x.kind.toList == [102, 97, 105, 108]) = false := t3.trans (decide_eq_false h3)
  by_cases h4 : x.kind = kCrash
  · rw [step_crash n D x h4]
    have e4 : (x.kind.toList == [99, 114, 97, 115, 104]) = true := t4.trans (decide_eq_true h4)
    clear t1 t2 t3 t4 h1 h2 h3 h4
    go_enter Tryd.func12, Tryd.ntmps12
    go_upto_region 10 with fail
    have hbx : ∀ j, (w.alloc (.cells #[.string x.kind, .int .i64 x.N, .string x.S, .slice x.ks x.kn x.kc] 36)).cell? ⟨w.heap.size, j, none⟩ = (#[.string x.kind, .int .i64 x.N, .string x.S, .slice x.ks x.kn x.kc] : Array Value)[j]? := fun j => blk_cell (heap_alloc_new w _) j
    have kb3 := hbx 3
    simp only [List.getElem?_toArray, List.getElem?_cons_succ, List.getElem?_cons_zero] at kb3
    clear hbx
    generalize w.alloc (.cells #[.string x.kind, .int .i64 x.N, .string x.S, .slice x.ks x.kn x.kc] 36) = w1 at *
    generalize hbq : w.heap.size = b at *
    clear hbq
    go_wp2_with (at_builtin; refine wpList_appB _ rfl (.tmp 31) (.tmp 33) rfl rfl x.ks x.kn x.kc x.kb rfl rfl (unhide HKA) hkn ?_)
    intro s2 c2 w2 hb2 hnew hbl
    have hd2 : ∀ k, k ∈ (blkS s2).toList → k ∉ fp := fun k hk hm => by
      have := (unhide HA).lt k hm
      have := hnew k (by simpa using hk)
      omega
    have HA2 := hide ((unhide HA).below hbl)
    have HM2 := hide ((unhide HM).trans (Mv.of_below fp hbl))
    have HB2 := hide hb2
    have HD2 := hide hd2
    clear hb2 hnew hbl hd2 HA HM HKA kb3
    go_wp2_with fail
    refine (dcrash_any q n fp D s2 x.kn c2 x.kb _ (unhide HA2) (unhide HO) (unhide HB2) (unhide HD2) hkn).mono ?_
    rintro e w3 ⟨rfl, fp', hA3, hM3⟩
    have HA3 := hide hA3
    have HM3 := hide ((unhide HM2).trans hM3)
    clear hA3 hM3 HA2 HM2
    go_wp2
    go_ret
    exact ⟨rfl, fp', unhide HA3, unhide HM3⟩
  · rw [step_else n D x h1 h2 h3 h4]
    have e4 : (x.kind.toList == [99, 114, 97, 115, 104]) = false := t4.trans (decide_eq_false h4)
    clear t1 t2 t3 t4 h1 h2 h3 h4
    go_enter Tryd.func12, Tryd.ntmps12
    go_wp2
    go_ret
    exact ⟨rfl, fp, unhide HA, unhide HM⟩
end Go.Proofs.YthkecbgifajmmaaDoor
