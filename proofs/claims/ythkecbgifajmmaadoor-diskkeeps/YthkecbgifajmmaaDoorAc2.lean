/- An act: the document's Do, what it answers by cases. -/
import Derived.Test.YthkecbgifajmmaaDoorDm5
import Derived.Test.YthkecbgifajmmaaDoorAc1
namespace Go.Proofs.YthkecbgifajmmaaDoor
open Go.RowKit

theorem toList_kind (k : ByteArray) (l : List UInt8) : (k.toList == l) = decide (k = ⟨l.toArray⟩) := by
  rw [ByteArray.toList_eq]
  by_cases h : k = ⟨l.toArray⟩
  · subst h; simp
  · have : k.data.toList ≠ l := fun e => h (ByteArray.ext (Array.toList_inj.1 (by rw [e])))
    rw [decide_eq_false h]
    exact beq_eq_false_iff_ne.2 this

def wrS (n : Nat) (D : DkS) (N : Int) (S : ByteArray) : Nat × DkS :=
  if N < 0 ∨ (n : Int) ≤ N then (2, D)
  else if 64 < S.size then (3, D)
  else match spS D.pw with
    | none => (9, D)
    | some p => (0, writeS D N.toNat S p)
def flS (D : DkS) : Nat × DkS :=
  match spS D.pw with
    | none => (9, D)
    | some p => (0, flushS D p)
theorem step_write (n : Nat) (D : DkS) (x : ActV) (h : x.kind = kWrite) : stepS n D x = wrS n D x.N x.S := by unfold stepS wrS; rw [if_pos h]; cases spS D.pw <;> rfl
theorem kw_kf : kFlush ≠ kWrite := by decide
theorem kfl_w : kFail ≠ kWrite := by decide
theorem kfl_f : kFail ≠ kFlush := by decide
theorem kc_w : kCrash ≠ kWrite := by decide
theorem kc_f : kCrash ≠ kFlush := by decide
theorem kc_fl : kCrash ≠ kFail := by decide
theorem step_flush (n : Nat) (D : DkS) (x : ActV) (h : x.kind = kFlush) : stepS n D x = flS D := by unfold stepS flS; rw [h, if_neg kw_kf, if_pos rfl]; cases spS D.pw <;> rfl
theorem step_fail (n : Nat) (D : DkS) (x : ActV) (h : x.kind = kFail) : stepS n D x = if x.N < 0 then (2, D) else (0, { D with pw := some x.N.toNat }) := by unfold stepS; rw [h, if_neg kfl_w, if_neg kfl_f, if_pos rfl]
theorem step_crash (n : Nat) (D : DkS) (x : ActV) (h : x.kind = kCrash) : stepS n D x = (0, crashS D (keptB x.kn x.kb)) := by unfold stepS; rw [h, if_neg kc_w, if_neg kc_f, if_neg kc_fl, if_pos rfl]
theorem step_else (n : Nat) (D : DkS) (x : ActV) (h1 : x.kind ≠ kWrite) (h2 : x.kind ≠ kFlush) (h3 : x.kind ≠ kFail) (h4 : x.kind ≠ kCrash) : stepS n D x = (0, D) := by unfold stepS; rw [if_neg h1, if_neg h2, if_neg h3, if_neg h4]
theorem spS_none {p : Option Nat} (h : spS p = none) : p = some 0 := by
  match p, h with
  | some 0, _ => rfl
/-- It stays as it should be. -/
theorem step_ok {n : Nat} {D : DkS} (h : DkOk n D) (x : ActV) (hf : D.ws.length < 1000) : DkOk n (stepS n D x).2 ∧ (stepS n D x).2.ws.length ≤ D.ws.length + 1 := by
  by_cases h1 : x.kind = kWrite
  · rw [step_write n D x h1]
    unfold wrS
    by_cases h2 : x.N < 0 ∨ (n : Int) ≤ x.N
    · rw [if_pos h2]; exact ⟨h, Nat.le_succ _⟩
    rw [if_neg h2]
    by_cases h3 : 64 < x.S.size
    · rw [if_pos h3]; exact ⟨h, Nat.le_succ _⟩
    rw [if_neg h3]
    split
    · exact ⟨h, Nat.le_succ _⟩
    · exact ⟨h.write _ _ _ (by omega) (by omega) hf, by simp [writeS]⟩
  by_cases h2 : x.kind = kFlush
  · rw [step_flush n D x h2]
    unfold flS
    split
    · exact ⟨h, Nat.le_succ _⟩
    · exact ⟨h.flush _, by simp [flushS]⟩
  by_cases h3 : x.kind = kFail
  · rw [step_fail n D x h3]
    split
    · exact ⟨h, Nat.le_succ _⟩
    · exact ⟨h.power _, Nat.le_succ _⟩
  by_cases h4 : x.kind = kCrash
  · rw [step_crash n D x h4]
    exact ⟨h.crash _, by simp [crashS]⟩
  · rw [step_else n D x h1 h2 h3 h4]
    exact ⟨h, Nat.le_succ _⟩

theorem mwrite_all (p n : Nat) (N : Int) (S : ByteArray) (fp : List Nat) (D : DkS) (w : World) (h : MAt w p n fp D) (hf : D.ws.length < 1000) :
    Calls Tryd.prog 23 #[.pointer (some ⟨p, 0, none⟩), .int .i64 N, .string S] w fun e w' => e = .returned (.int .i64 ((wrS n D N S).1 : Int)) ∧ ∃ fp', MAt w' p n fp' (wrS n D N S).2 ∧ Mv fp fp' w w' := by
  unfold wrS
  by_cases h2 : N < 0 ∨ (n : Int) ≤ N
  · rw [if_pos h2]
    refine (mwrite_bound p n N S fp D w h h2).mono ?_
    rintro e w' ⟨rfl, rfl⟩
    exact ⟨rfl, fp, h, Mv.refl _ _⟩
  rw [if_neg h2]
  obtain ⟨i, rfl⟩ := Int.eq_ofNat_of_zero_le (show 0 ≤ N by omega)
  have hi : i < n := by omega
  by_cases h3 : 64 < S.size
  · rw [if_pos h3]
    refine (mwrite_shape p n i S fp D w h hi h3).mono ?_
    rintro e w' ⟨rfl, rfl⟩
    exact ⟨rfl, fp, h, Mv.refl _ _⟩
  rw [if_neg h3]
  cases hp : spS D.pw with
  | none =>
    refine (mwrite_power p n i S fp D w h hi (by omega) (spS_none hp)).mono ?_
    rintro e w' ⟨rfl, rfl⟩
    exact ⟨rfl, fp, h, Mv.refl _ _⟩
  | some po => exact mwrite_ok p n i S fp D po w h hi (by omega) hp hf
theorem mflush_all (p n : Nat) (fp : List Nat) (D : DkS) (w : World) (h : MAt w p n fp D) (hn : 0 < n) (hn2 : n ≤ 4000) :
    Calls Tryd.prog 24 #[.pointer (some ⟨p, 0, none⟩)] w fun e w' => e = .returned (.int .i64 ((flS D).1 : Int)) ∧ ∃ fp', MAt w' p n fp' (flS D).2 ∧ Mv fp fp' w w' := by
  unfold flS
  cases hp : spS D.pw with
  | none =>
    refine (mflush_no p n fp D w h (spS_none hp)).mono ?_
    rintro e w' ⟨rfl, rfl⟩
    exact ⟨rfl, fp, h, Mv.refl _ _⟩
  | some po => exact mflush_ok p n fp D po w h hn hn2 hp

set_option maxHeartbeats 2000000 in
set_option maxRecDepth 100000 in
theorem do_any (p n : Nat) (fp : List Nat) (D : DkS) (x : ActV) (w : World) (h : MAt w p n fp D) (hok : DkOk n D) (hx : ActOk w x) (hd : 0 < x.kn → ∀ k, k ∈ (blkS x.ks).toList → k ∉ fp) (hkn : x.kn ≤ 1000000) (hn : 0 < n) (hn2 : n ≤ 4000) (hf : D.ws.length < 1000) :
    Calls Tryd.prog 11 #[.pointer (some ⟨p, 0, none⟩), .agg #[.string x.kind, .int .i64 x.N, .string x.S, .slice x.ks x.kn x.kc]] w fun e w' => e = .returned (.int .i64 ((stepS n D x).1 : Int)) ∧ ∃ fp', MAt w' p n fp' (stepS n D x).2 ∧ Mv fp fp' w w' := by
  have hlo := hx.lo
  have hhi := hx.hi
  have hb := (Below.refl w.heap.size w).alloc (Nat.le_refl _) (.cells #[.string x.kind, .int .i64 x.N, .string x.S, .slice x.ks x.kn x.kc] 36)
  have HKA := hide (hx.keep.below hb)
  have HA := hide (h.below hb)
  have HM := hide (Mv.of_below fp hb)
  have HO := hide hok
  have HD := hide hd
  have t1 := toList_kind x.kind [119, 114, 105, 116, 101]
  have t2 := toList_kind x.kind [102, 108, 117, 115, 104]
  have t3 := toList_kind x.kind [102, 97, 105, 108]
  have t4 := toList_kind x.kind [99, 114, 97, 115, 104]
  clear hx hd hok h hb
  by_cases h1 : x.kind = kWrite
  · rw [step_write n D x h1]
    have e1 : (x.kind.toList == [119, 114, 105, 116, 101]) = true := t1.trans (decide_eq_true h1)
    clear t1 t2 t3 t4 h1
    go_enter Tryd.func11, Tryd.ntmps11
    go_wp2_with fail
    refine (mwrite_all p n x.N x.S fp D _ (unhide HA) hf).mono ?_
    rintro e w2 ⟨rfl, fp', hA2, hM2⟩
    have HA2 := hide hA2
    have HM2 := hide ((unhide HM).trans hM2)
    clear hA2 hM2 HA HM
    go_wp2
    go_ret
    exact ⟨rfl, fp', unhide HA2, unhide HM2⟩
  have e1 : (x.kind.toList == [119, 114, 105, 116, 101]) = false := t1.trans (decide_eq_false h1)
  by_cases h2 : x.kind = kFlush
  · rw [step_flush n D x h2]
    have e2 : (x.kind.toList == [102, 108, 117, 115, 104]) = true := t2.trans (decide_eq_true h2)
    clear t1 t2 t3 t4 h1 h2
    go_enter Tryd.func11, Tryd.ntmps11
    go_wp2_with fail
    refine (mflush_all p n fp D _ (unhide HA) hn hn2).mono ?_
    rintro e w2 ⟨rfl, fp', hA2, hM2⟩
    have HA2 := hide hA2
    have HM2 := hide ((unhide HM).trans hM2)
    clear hA2 hM2 HA HM
    go_wp2
    go_ret
    exact ⟨rfl, fp', unhide HA2, unhide HM2⟩
  have e2 : (x.kind.toList == [102, 108, 117, 115, 104]) = false := t2.trans (decide_eq_false h2)
  by_cases h3 : x.kind = kFail
  · rw [step_fail n D x h3]
    have e3 : (x.kind.toList == [102, 97, 105, 108]) = true := t3.trans (decide_eq_true h3)
    clear t1 t2 t3 t4 h1 h2 h3
    by_cases h0 : x.N < 0
    · have d0 : decide (x.N < 0) = true := decide_eq_true h0
      rw [if_pos h0]
      go_enter Tryd.func11, Tryd.ntmps11
      go_wp2
      go_ret
      exact ⟨rfl, fp, unhide HA, unhide HM⟩
    · have d0 : decide (x.N < 0) = false := decide_eq_false h0
      rw [if_neg h0]
      obtain ⟨sk, ck, sn, cn, sw, cw, rfl, hp⟩ := unhide HA
      obtain ⟨k0, k1, k2, k3, kf, kq⟩ := hp.cells
      have f3 := kf 3
      have k3' : ∃ v3, (w.alloc (.cells #[.string x.kind, .int .i64 x.N, .string x.S, .slice x.ks x.kn x.kc] 36)).cell? ⟨p, 3, none⟩ = some v3 := ⟨_, k3⟩
      obtain ⟨v3, k3'⟩ := k3'
      have HP := hide (hp.setPw x.N.toNat (by omega))
      have eN : ((x.N.toNat : Nat) : Int) = x.N := Int.toNat_of_nonneg (by omega)
      rw [eN] at HP
      have kb1 : (w.alloc (.cells #[.string x.kind, .int .i64 x.N, .string x.S, .slice x.ks x.kn x.kc] 36)).cell? ⟨w.heap.size, 1, none⟩ = some (.int .i64 x.N) := by rw [blk_cell (heap_alloc_new w _)]; rfl
      clear hp k0 k1 k2 k3 kf HA eN
      go_enter Tryd.func11, Tryd.ntmps11
      go_upto_region 9 with fail
      generalize w.alloc (.cells #[.string x.kind, .int .i64 x.N, .string x.S, .slice x.ks x.kn x.kc] 36) = w1 at *
      go_wp2
      go_ret
      exact ⟨rfl, _, ⟨sk, ck, sn, cn, sw, cw, rfl, (unhide HP).1⟩, (unhide HM).trans ⟨(unhide HP).2, fun _ h => .inl h⟩⟩
  have e3 : (x.kind.toList == [102, 97, 105, 108]) = false := t3.trans (decide_eq_false h3)
  by_cases h4 : x.kind = kCrash
  · rw [step_crash n D x h4]
    have e4 : (x.kind.toList == [99, 114, 97, 115, 104]) = true := t4.trans (decide_eq_true h4)
    clear t1 t2 t3 t4 h1 h2 h3 h4
    go_enter Tryd.func11, Tryd.ntmps11
    go_wp2_with fail
    refine (mcrash_any p n fp D x.ks x.kn x.kc x.kb _ (unhide HA) (unhide HO) (unhide HKA) (unhide HD) hkn hn hn2).mono ?_
    rintro e w2 ⟨rfl, fp', hA2, hM2⟩
    have HA2 := hide hA2
    have HM2 := hide ((unhide HM).trans hM2)
    clear hA2 hM2 HA HM
    go_wp2
    go_ret
    exact ⟨rfl, fp', unhide HA2, unhide HM2⟩
  · rw [step_else n D x h1 h2 h3 h4]
    have e4 : (x.kind.toList == [99, 114, 97, 115, 104]) = false := t4.trans (decide_eq_false h4)
    clear t1 t2 t3 t4 h1 h2 h3 h4
    go_enter Tryd.func11, Tryd.ntmps11
    go_wp2
    go_ret
    exact ⟨rfl, fp, unhide HA, unhide HM⟩
end Go.Proofs.YthkecbgifajmmaaDoor
