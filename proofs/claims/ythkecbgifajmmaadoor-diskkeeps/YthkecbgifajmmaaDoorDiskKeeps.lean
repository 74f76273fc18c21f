/- DiskKeeps: what was flushed stays, whatever comes behind it. -/
import Derived.Test.YthkecbgifajmmaaDoorDiskActs
namespace Go.Proofs.YthkecbgifajmmaaDoor
open Go.RowKit Go.ChangeShapes

/-- A sector that was flushed and not written since. -/
structure Still (D : DkS) (i : Nat) (s : ByteArray) : Prop where
  now : D.now i = s
  kept : D.kept i = s
  far : ∀ x ∈ D.ws, x.1 ≠ i
theorem wat_far {l : List (Nat × ByteArray)} {i : Nat} (h : ∀ x ∈ l, x.1 ≠ i) : ∀ j, j < l.length → (wat l j).1 ≠ i := fun _ hj => h _ (wat_mem hj)
theorem Still.crash {D : DkS} {i : Nat} {s : ByteArray} (h : Still D i s) (b : Nat → Bool) : Still (crashS D b) i s := by
  have e : kfS b D.kept D.ws D.ws.length i = s := (kfS_far b _ _ _ _ (wat_far h.far)).trans h.kept
  exact ⟨e, e, fun x hx => (by cases hx)⟩
theorem Still.flush {D : DkS} {i : Nat} {s : ByteArray} (h : Still D i s) (p : Option Nat) : Still (flushS D p) i s := ⟨h.now, h.now, fun x hx => (by cases hx)⟩
theorem Still.step {n : Nat} {D : DkS} {i : Nat} {s : ByteArray} (h : Still D i s) (x : ActV) (ht : ¬ (x.kind = kWrite ∧ x.N = (i : Int))) : Still (stepS n D x).2 i s := by
  by_cases h1 : x.kind = kWrite
  · rw [step_write n D x h1]
    unfold wrS
    by_cases h2 : x.N < 0 ∨ (n : Int) ≤ x.N
    · rw [if_pos h2]; exact h
    rw [if_neg h2]
    by_cases h3 : 64 < x.S.size
    · rw [if_pos h3]; exact h
    rw [if_neg h3]
    have hne : x.N ≠ (i : Int) := fun e => ht ⟨h1, e⟩
    split
    · exact h
    · refine ⟨(updS_ne _ _ _ _ (by omega)).trans h.now, h.kept, fun y hy => ?_⟩
      rcases List.mem_append.1 hy with hy | hy
      · exact h.far y hy
      · rw [List.mem_singleton.1 hy]; show x.N.toNat ≠ i; omega
  by_cases h2 : x.kind = kFlush
  · rw [step_flush n D x h2]
    unfold flS
    split
    · exact h
    · exact h.flush _
  by_cases h3 : x.kind = kFail
  · rw [step_fail n D x h3]
    split
    · exact h
    · exact ⟨h.now, h.kept, h.far⟩
  by_cases h4 : x.kind = kCrash
  · rw [step_crash n D x h4]; exact h.crash _
  · rw [step_else n D x h1 h2 h3 h4]; exact h

/-- Bools, strings of one's own. -/
theorem make_bool (n : Nat) (hn : n ≤ 4000) (w : World) : (Instr.makeSlice 34 (.int .i64 (n : Int)) (.int .i64 (n : Int))).run Tryd.prog w = .ok (.slice (some ⟨w.heap.size, 0, none⟩) n n) (w.alloc (.cells (madeCells #[.bool false] n) 4)) :=
  run_make_row' 34 4 (.bool false) 1 Tryd.underlying34 (by kernel_rfl) rfl .i64 .i64 n (by omega) (by omega) w
theorem make_str (n : Nat) (hn : n ≤ 4000) (w : World) : (Instr.makeSlice 41 (.int .i64 (n : Int)) (.int .i64 (n : Int))).run Tryd.prog w = .ok (.slice (some ⟨w.heap.size, 0, none⟩) n n) (w.alloc (.cells (madeCells #[.string ⟨#[]⟩] n) 9)) :=
  run_make_row' 41 9 (.string ⟨#[]⟩) 16 Tryd.underlying41 (by kernel_rfl) rfl .i64 .i64 n (by omega) (by omega) w

/-- A disk beside what was read of it, and what was written since. -/
structure KpS (B : Nat) (w0 w : World) (q n : Nat) (fd : List Nat) (D : DkS) (gw gt : Nat) (T : Nat → Bool) (W : Nat → ByteArray) : Prop where
  d : DAt w q n fd D
  bd : ∀ k, k ∈ fd → B ≤ k
  bel : Below B w0 w
  bz : B ≤ w.heap.size
  was : w.rowIs gw 9 n (fun i => .string (W i))
  tch : w.rowIs gt 4 n (fun i => .bool (T i))
  nw : gw ∉ fd
  nt : gt ∉ fd
  bw : B ≤ gw
  bt : B ≤ gt
  ne : gw ≠ gt
variable {B : Nat} {w0 w w' : World} {q n : Nat} {fd fd' : List Nat} {D D' : DkS} {gw gt : Nat} {T : Nat → Bool} {W : Nat → ByteArray}
theorem KpS.mv (h : KpS B w0 w q n fd D gw gt T W) (hm : Mv fd fd' w w') (hd : DAt w' q n fd' D') : KpS B w0 w' q n fd' D' gw gt T W :=
  ⟨hd, hm.from_ h.bz h.bd, h.bel.trans (hm.below h.bz h.bd), Nat.le_trans h.bz hm.but.size, h.was.of_block (hm.but.block gw h.was.lt h.nw), h.tch.of_block (hm.but.block gt h.tch.lt h.nt),
    fun hk => by rcases hm.new gw hk with e | e; exact h.nw e; (have := h.was.lt; omega), fun hk => by rcases hm.new gt hk with e | e; exact h.nt e; (have := h.tch.lt; omega), h.bw, h.bt, h.ne⟩
theorem KpS.below (h : KpS B w0 w q n fd D gw gt T W) (hb : Below w.heap.size w w') : KpS B w0 w' q n fd D gw gt T W := h.mv (Mv.of_below fd hb) (h.d.below hb)
def noT : Nat → Bool := fun _ => false
def updT (T : Nat → Bool) (i : Nat) : Nat → Bool := fun j => if j = i then true else T j
theorem updT_false {T : Nat → Bool} {i0 i : Nat} (h : updT T i0 i = false) : T i = false ∧ i ≠ i0 := by
  unfold updT at h
  by_cases e : i = i0
  · rw [if_pos e] at h; cases h
  · rw [if_neg e] at h; exact ⟨h, e⟩
theorem KpS.setT (h : KpS B w0 w q n fd D gw gt T W) (i : Nat) : KpS B w0 (w.setCell ⟨gt, i, none⟩ (.bool true)) q n fd D gw gt (updT T i) W :=
  ⟨h.d.keep (fun k hk => Below.heap_setCell _ _ _ _ (fun e => h.nt (by rw [← show k = gt from e]; exact hk))), h.bd, h.bel.setCell (p := ⟨gt, i, none⟩) h.bt _, by simp [World.setCell]; exact h.bz, h.was.setOther (a := ⟨gt, i, none⟩) h.ne _,
    (h.tch.set i (.bool true)).congr (fun j _ => by unfold updT; split <;> rfl), h.nw, h.nt, h.bw, h.bt, h.ne⟩
theorem KpS.setW (h : KpS B w0 w q n fd D gw gt T W) (i : Nat) (s : ByteArray) : KpS B w0 (w.setCell ⟨gw, i, none⟩ (.string s)) q n fd D gw gt T (updS W i s) :=
  ⟨h.d.keep (fun k hk => Below.heap_setCell _ _ _ _ (fun e => h.nw (by rw [← show k = gw from e]; exact hk))), h.bd, h.bel.setCell (p := ⟨gw, i, none⟩) h.bw _, by simp [World.setCell]; exact h.bz,
    (h.was.set i (.string s)).congr (fun j _ => by unfold updS; split <;> rfl), h.tch.setOther (a := ⟨gw, i, none⟩) (fun e => h.ne e.symm) _, h.nw, h.nt, h.bw, h.bt, h.ne⟩
theorem KpS.act (x : ActV) (a : Nat → Addr) (hB : B = w0.heap.size) (hS : Told w0 [1, 2, 8] a) (h : KpS B w0 w q n fd D gw gt T W) (hok : DkOk n D) (hx : ActOk w0 x) (hkn : x.kn ≤ 1000000) (hf : D.ws.length < 1000) :
    Calls Tryd.prog 12 #[.pointer (some ⟨q, 0, none⟩), .agg #[.string x.kind, .int .i64 x.N, .string x.S, .slice x.ks x.kn x.kc]] w fun e w' => e = .returned (errN a (stepS n D x).1) ∧ ∃ fd', KpS B w0 w' q n fd' (stepS n D x).2 gw gt T W := by
  subst hB
  refine (act_any q n fd D x w a (hS.below h.bel) h.d hok (hx.below h.bel) hkn hf).mono ?_
  rintro e w' ⟨rfl, fp', hA, hM⟩
  exact ⟨rfl, fp', h.mv hM hA⟩

set_option maxHeartbeats 2000000 in
set_option maxRecDepth 100000 in
theorem diskKeeps_out (N : Int) (s : Option Addr) (m c : Nat) (V : Nat → ActV) (s2 : Option Addr) (m2 c2 : Nat) (V2 : Nat → ActV) (s3 : Option Addr) (m3 c3 : Nat) (w : World) (hV : IsActs w s m V) (hV2 : IsActs w s2 m2 V2) (hN : N < 1 ∨ 50 < N ∨ 100 < m3) :
    Calls Tryd.prog 5 #[.int .i64 N, .slice s m c, .slice s2 m2 c2, .slice s3 m3 c3] w fun e w' => e = .returned (.bool true) ∧ Below w.heap.size w w' := by
  have HV := hide hV
  have HV2 := hide hV2
  have d1 : (decide (N < 1) = true ∧ True) ∨ (decide (N < 1) = false ∧ decide (N > 50) = true ∧ decide (50 < N) = true) ∨ (decide (N < 1) = false ∧ decide (N > 50) = false ∧ decide (50 < N) = false ∧ decide ((m3 : Int) > 100) = true ∧ decide ((100 : Int) < (m3 : Int)) = true) := by
    by_cases h1 : N < 1
    · exact .inl ⟨decide_eq_true h1, trivial⟩
    by_cases h2 : 50 < N
    · exact .inr (.inl ⟨decide_eq_false h1, decide_eq_true h2, decide_eq_true h2⟩)
    · exact .inr (.inr ⟨decide_eq_false h1, decide_eq_false h2, decide_eq_false h2, decide_eq_true (by omega), decide_eq_true (by omega)⟩)
  clear hV hV2 hN
  go_enter Tryd.func5, Tryd.ntmps5
  go_wp2_with fail
  refine (fresh_any _).mono ?_
  rintro e w1 ⟨rfl, hb1⟩
  have HB1 := hide hb1
  clear hb1
  go_wp2_with fail
  refine (few_any s m c V _ ((unhide HV).below (unhide HB1))).mono ?_
  rintro e w2 ⟨b, rfl, hbf, rfl⟩
  clear hbf
  cases b
  · go_wp2
    go_ret
    exact ⟨rfl, unhide HB1⟩
  go_wp2_with fail
  refine (few_any s2 m2 c2 V2 _ ((unhide HV2).below (unhide HB1))).mono ?_
  rintro e w3 ⟨b, rfl, hbf, rfl⟩
  clear hbf
  cases b
  · go_wp2
    go_ret
    exact ⟨rfl, unhide HB1⟩
  rcases d1 with ⟨d1, _⟩ | ⟨d1, d2, d3⟩ | ⟨d1, d2, d3, d4, d5⟩
  all_goals
    go_wp2
    go_ret
    exact ⟨rfl, unhide HB1⟩

set_option maxHeartbeats 16000000 in
set_option maxRecDepth 100000 in
theorem diskKeeps_in (n : Nat) (s : Option Addr) (m c : Nat) (V : Nat → ActV) (s2 : Option Addr) (m2 c2 : Nat) (V2 : Nat → ActV) (s3 : Option Addr) (m3 c3 : Nat) (kb : Nat → Bool) (w : World) (a : Nat → Addr) (hS : Told w [1, 2, 8] a) (hV : IsActs w s m V) (hV2 : IsActs w s2 m2 V2) (hV3 : IsB w s3 m3 kb) (hn : 0 < n) (hn2 : n ≤ 50) (hm3 : m3 ≤ 100) :
    Calls Tryd.prog 5 #[.int .i64 (n : Int), .slice s m c, .slice s2 m2 c2, .slice s3 m3 c3] w fun e w' => e = .returned (.bool true) ∧ Below w.heap.size w w' := by
  have HS := hide hS
  have HV := hide hV
  have HV2 := hide hV2
  have HV3 := hide hV3
  have d1 : decide ((n : Int) < 1) = false := decide_eq_false (by omega)
  have d2 : decide ((n : Int) > 50) = false := decide_eq_false (by omega)
  have d3 : decide ((50 : Int) < (n : Int)) = false := decide_eq_false (by omega)
  have d4 : decide ((m3 : Int) > 100) = false := decide_eq_false (by omega)
  have d5 : decide ((100 : Int) < (m3 : Int)) = false := decide_eq_false (by omega)
  have hmS := fun w => make_str n (by omega) w
  have hmB := fun w => make_bool n (by omega) w
  clear hS hV hV2 hV3
  go_enter Tryd.func5, Tryd.ntmps5
  go_wp2_with fail
  refine (fresh_any _).mono ?_
  rintro e w1 ⟨rfl, hb1⟩
  have HY1 := hide (Sys.nil n hb1)
  have HB1 := hide hb1
  clear hb1
  go_wp2_with fail
  refine (few_any s m c V _ ((unhide HV).below (unhide HB1))).mono ?_
  rintro e w2 ⟨b, rfl, hbf, rfl⟩
  cases b
  · clear hbf
    go_wp2
    go_ret
    exact ⟨rfl, unhide HB1⟩
  obtain ⟨hm60, hsm⟩ := hbf rfl
  have HSM := hide hsm
  clear hbf hsm
  go_wp2_with fail
  refine (few_any s2 m2 c2 V2 _ ((unhide HV2).below (unhide HB1))).mono ?_
  rintro e w3 ⟨b, rfl, hbf, rfl⟩
  cases b
  · clear hbf
    go_wp2
    go_ret
    exact ⟨rfl, unhide HB1⟩
  obtain ⟨hm602, hsm2⟩ := hbf rfl
  have HSM2 := hide hsm2
  clear hbf hsm2 HB1
  go_wp2_with fail
  refine (dnew_ok n _ hn (by omega)).mono ?_
  rintro e w3 ⟨q, fd, rfl, hA3, hf3, hb3⟩
  have HY3 : Hid (Sys n w.heap.size w w3 [(fd, .pr q dk0)]) := (unhide HY1).add (v := .pr q dk0) hb3 hf3 hA3
  have HK0 := hide (dk0_ok n)
  clear hA3 hf3 hb3 HY1
  go_wp2
  go_loopw [12] (fun iv wr => ∃ (k : Nat) (D : DkS) (fd : List Nat), iv = .int .i64 (k : Int) ∧ k ≤ m ∧ Hid (DkOk n D) ∧ D.ws.length ≤ k ∧ Hid (Sys n w.heap.size w wr [(fd, .pr q D)])) (fun iv _ => m - (intOf iv).toNat)
  case atStart => exact ⟨0, dk0, fd, rfl, by omega, HK0, Nat.le_refl _, HY3⟩
  case round =>
    clear HY3 HK0
    obtain ⟨k, D, fd, rfl, hkm, HK, hws, HY⟩ := hrel
    by_cases hk : k < m
    · have dk : decide ((k : Int) < (m : Int)) = true := decide_eq_true (by omega)
      have dkn : decide (k < m) = true := decide_eq_true hk
      have hkk : (k : Int) < (m : Int) := by omega
      have hk0 : (0 : Int) ≤ (k : Int) := by omega
      obtain ⟨b, off, hsb, hmm, _⟩ := acts_at (unhide HV) k hk
      unfold maxLen at hmm
      obtain ⟨c0, c1, c2_, c3⟩ := acts_cells (unhide HV) (unhide HY).bel k hk hsb
      have hok2 := step_ok (unhide HK) (V k) (by omega)
      have HKn := hide hok2.1
      have hws2 := hok2.2
      have hsmall := (unhide HSM k hk).2
      have hxk := (unhide HV).2 k hk
      have HXK := hide hxk
      have HCC := hide (step_code (n := n) D (V k))
      clear hok2 hxk
      subst hsb
      obtain ⟨x, hx⟩ : ∃ x, x = V k := ⟨_, rfl⟩
      rw [← hx] at c0 c1 c2_ c3 HKn hws2 hsmall HXK HCC
      have HX := hide hx
      clear hx
      go_wp2_with fail
      refine (sys_act (l1 := []) (l2 := []) x a rfl (unhide HS) (unhide HY) (unhide HK) (unhide HXK) (by omega) (by omega)).mono ?_
      rintro e w8 ⟨rfl, fd2, hYn⟩
      have HY8 : Hid (Sys n w.heap.size w w8 [(fd2, .pr q (stepS n D x).2)]) := hYn
      clear hYn HY c0 c1 c2_ c3
      generalize errN a (stepS n D x).1 = ev at *
      go_wp2
      go_roundw
      case rel => exact ⟨k + 1, (stepS n D x).2, fd2, by go_num, by omega, HKn, by omega, HY8⟩
      case measure => simp [intOf]; omega
    · obtain rfl : k = m := by omega
      have dk : decide ((k : Int) < (k : Int)) = false := by simp
      have HF := hide (dflush_all q n fd D wr a ((unhide HS).below (unhide HY).bel) ((unhide HY).get (l1 := []) (l2 := []) (v := .pr q D)) (unhide HK))
      cases hsp : spS D.pw with
      | none =>
        have efl : flS D = (9, D) := by unfold flS; rw [hsp]
        rw [efl] at HF
        go_wp2_with fail
        refine (unhide HF).mono ?_
        rintro e w4 ⟨rfl, fd2, hA4, hM4⟩
        have HY4 := hide ((unhide HY).upd (l1 := []) (l2 := []) (v := .pr q D) (v' := .pr q D) hM4 hA4)
        clear hA4 hM4 HF HY
        have e9 : errN a 9 = sentV a 8 := rfl
        obtain ⟨tE, vE, hE⟩ := sent_is a 8
        rw [e9, hE]
        go_wp2
        go_ret
        exact ⟨rfl, (unhide HY4).bel⟩
      | some po =>
        have efl : flS D = (0, flushS D po) := by unfold flS; rw [hsp]
        rw [efl] at HF
        go_wp2_with fail
        refine (unhide HF).mono ?_
        rintro e w4 ⟨rfl, fd2, hA4, hM4⟩
        have HY4 : Hid (Sys n w.heap.size w w4 [(fd2, .pr q (flushS D po))]) := (unhide HY).upd (l1 := []) (l2 := []) (v := .pr q D) (v' := .pr q (flushS D po)) hM4 hA4
        have HK4 := hide ((unhide HK).flush po)
        have hws4 : (flushS D po).ws.length = 0 := rfl
        have hst4 : ∀ i, Still (flushS D po) i ((flushS D po).now i) := fun i => ⟨rfl, rfl, fun x hx => (by cases hx)⟩
        have HST := hide hst4
        clear hA4 hM4 HF HY efl hsp hws HK hst4
        generalize flushS D po = F at *
        have e0 : errN a 0 = .nilIface := rfl
        rw [e0]
        have HR : Hid (KpS w.heap.size w ((w4.alloc (.cells (madeCells #[.string ⟨#[]⟩] n) 9)).alloc (.cells (madeCells #[.bool false] n) 4)) q n fd2 F w4.heap.size (w4.heap.size + 1) noT (fun _ => ⟨#[]⟩)) := by
          have hY4 := unhide HY4
          have hd4 := hY4.get (l1 := []) (l2 := []) (v := .pr q F)
          have hlt := DAt.lt hd4
          have hb5 := ((Below.refl w4.heap.size w4).alloc (Nat.le_refl _) (.cells (madeCells #[.string ⟨#[]⟩] n) 9)).alloc (by simp) (.cells (madeCells #[.bool false] n) 4)
          have r1 := (World.rowIs_made w4 (.string ⟨#[]⟩) n 9).alloc (.cells (madeCells #[.bool false] n) 4)
          have r2 := World.rowIs_made (w4.alloc (.cells (madeCells #[.string ⟨#[]⟩] n) 9)) (.bool false) n 4
          have es : (w4.alloc (.cells (madeCells #[.string ⟨#[]⟩] n) 9)).heap.size = w4.heap.size + 1 := by simp
          rw [es] at r2
          exact ⟨DAt.below hd4 hb5, hY4.bd (fd2, .pr q F) (by simp), hY4.bel.trans (hb5.mono hY4.bz), Nat.le_trans hY4.bz hb5.size, r1, r2, fun h => Nat.lt_irrefl _ (hlt _ h), fun h => by have := hlt _ h; omega, hY4.bz, Nat.le_trans hY4.bz (Nat.le_succ _), by omega⟩
        have hW0 : Hid (∀ i, i < 0 → (fun _ : Nat => (⟨#[]⟩ : ByteArray)) i = F.now i) := fun i hi => by omega
        clear HY4
        go_upto_region 16 with fail
        generalize (w4.alloc (.cells (madeCells #[.string ⟨#[]⟩] n) 9)).alloc (.cells (madeCells #[.bool false] n) 4) = w5 at *
        generalize hgw : w4.heap.size = gw at *
        obtain ⟨gt, hgt⟩ : ∃ gt, gt = gw + 1 := ⟨_, rfl⟩
        rw [← hgt] at HR ⊢
        clear hgw hgt
        go_loopw [15] (fun iv wr => ∃ (k : Nat) (W : Nat → ByteArray), iv = .int .i64 (k : Int) ∧ k ≤ n ∧ Hid (∀ i, i < k → W i = F.now i) ∧ Hid (KpS w.heap.size w wr q n fd2 F gw gt noT W)) (fun iv _ => n - (intOf iv).toNat)
        case atStart => exact ⟨0, _, rfl, by omega, hW0, HR⟩
        case round =>
          clear HR hW0
          obtain ⟨k, W, rfl, hkn, HW, HKP⟩ := hrel
          by_cases hk : k < n
          · have dk : decide ((k : Int) < (n : Int)) = true := decide_eq_true (by omega)
            have dkn : decide (k < n) = true := decide_eq_true hk
            have hkk : (k : Int) < (n : Int) := by omega
            have hk0 : (0 : Int) ≤ (k : Int) := by omega
            have HRd := hide (dread_yes q n k fd2 F wr (unhide HKP).d hk ((unhide HK4).now k))
            have cw := (unhide HKP).was.cell hk
            have fw := (unhide HKP).was.frozen k
            obtain ⟨ss, hss⟩ : ∃ ss, ss = F.now k := ⟨_, rfl⟩
            rw [← hss] at HRd
            have HKP2 := hide ((unhide HKP).setW k ss)
            have HW2 : Hid (∀ i, i < k + 1 → updS W k ss i = F.now i) := fun i hi => by
              by_cases e : i = k
              · subst e; rw [updS_at, hss]
              · rw [updS_ne _ _ _ _ e]; exact unhide HW i (by omega)
            clear hss HW HKP
            go_wp2_with fail
            refine (unhide HRd).mono ?_
            rintro e w6 ⟨rfl, rfl⟩
            go_wp2
            go_roundw
            case rel => exact ⟨k + 1, updS W k ss, by go_num, by omega, HW2, HKP2⟩
            case measure => simp [intOf]; omega
          · obtain rfl : k = n := by omega
            have dk : decide ((k : Int) < (k : Int)) = false := by simp
            have HSW : Hid (∀ i, i < k → noT i = false → Still F i (W i)) := fun i hi _ => by rw [unhide HW i hi]; exact unhide HST i
            clear HW HST
            go_wp2
            go_loopw [16] (fun iv wr => ∃ (j : Nat) (D : DkS) (fd : List Nat) (T : Nat → Bool), iv = .int .i64 (j : Int) ∧ j ≤ m2 ∧ Hid (DkOk k D) ∧ D.ws.length ≤ j ∧ Hid (∀ i, i < k → T i = false → Still D i (W i)) ∧ Hid (KpS w.heap.size w wr q k fd D gw gt T W)) (fun iv _ => m2 - (intOf iv).toNat)
            case atStart => exact ⟨0, F, fd2, noT, rfl, by omega, HK4, by omega, HSW, HKP⟩
            case round =>
              clear HK4 hws4 HSW HKP dk HV HSM
              obtain ⟨j, D, fd, T, rfl, hjm, HK, hws, HSW, HKP⟩ := hrel
              by_cases hj : j < m2
              · have dj : decide ((j : Int) < (m2 : Int)) = true := decide_eq_true (by omega)
                have djn : decide (j < m2) = true := decide_eq_true hj
                have hjj : (j : Int) < (m2 : Int) := by omega
                have hj0 : (0 : Int) ≤ (j : Int) := by omega
                obtain ⟨b, off, hsb, hmm, _⟩ := acts_at (unhide HV2) j hj
                unfold maxLen at hmm
                obtain ⟨c0, c1, c2_, c3⟩ := acts_cells (unhide HV2) (unhide HKP).bel j hj hsb
                have hok2 := step_ok (unhide HK) (V2 j) (by omega)
                have HKn := hide hok2.1
                have hws2 := hok2.2
                have hsmall := (unhide HSM2 j hj).2
                have hxk := (unhide HV2).2 j hj
                have HXK := hide hxk
                have HCC := hide (step_code (n := k) D (V2 j))
                clear hok2 hxk
                subst hsb
                obtain ⟨x, hx⟩ : ∃ x, x = V2 j := ⟨_, rfl⟩
                rw [← hx] at c0 c1 c2_ c3 HKn hws2 hsmall HXK HCC
                have HX := hide hx
                clear hx
                have t1 := toList_kind x.kind [119, 114, 105, 116, 101]
                have HST2 : Hid (∀ T2 : Nat → Bool, (∀ i, i < k → T2 i = false → T i = false ∧ ¬ (x.kind = kWrite ∧ x.N = (i : Int))) → ∀ i, i < k → T2 i = false → Still (stepS k D x).2 i (W i)) := fun T2 h i hi ht => (unhide HSW i hi (h i hi ht).1).step x (h i hi ht).2
                by_cases q1 : x.kind = kWrite
                · have e1 : (x.kind.toList == [119, 114, 105, 116, 101]) = true := t1.trans (decide_eq_true q1)
                  clear t1 q1
                  by_cases q2 : x.N < 0
                  · have g0 : decide (x.N ≥ 0) = false := decide_eq_false (by omega)
                    have g1 : decide ((0 : Int) ≤ x.N) = false := decide_eq_false (by omega)
                    have HSW2 := hide (unhide HST2 T (fun i hi ht => ⟨ht, fun q => by omega⟩))
                    have HA := hide (KpS.act x a rfl (unhide HS) (unhide HKP) (unhide HK) (unhide HXK) (by omega) (by omega))
                    have hcx := acts_cells (unhide HV2) (unhide HKP).bel j hj rfl
                    rw [← unhide HX] at hcx
                    obtain ⟨c0', c1', c2', c3'⟩ := hcx
                    go_wp2_with fail
                    refine (unhide HA).mono ?_
                    rintro e w8 ⟨rfl, fd4, hK8⟩
                    have HK8 := hide hK8
                    clear hK8 HA HKP
                    generalize errN a (stepS k D x).1 = ev at *
                    go_wp2
                    go_roundw
                    case rel => exact ⟨j + 1, (stepS k D x).2, fd4, T, by go_num, by omega, HKn, by omega, HSW2, HK8⟩
                    case measure => simp [intOf]; omega
                  · by_cases q3 : (k : Int) ≤ x.N
                    · have g0 : decide (x.N ≥ 0) = true := decide_eq_true (by omega)
                      have g1 : decide ((0 : Int) ≤ x.N) = true := decide_eq_true (by omega)
                      have g2 : decide (x.N < (k : Int)) = false := decide_eq_false (by omega)
                      have HSW2 := hide (unhide HST2 T (fun i hi ht => ⟨ht, fun q => by omega⟩))
                      have HA := hide (KpS.act x a rfl (unhide HS) (unhide HKP) (unhide HK) (unhide HXK) (by omega) (by omega))
                      have hcx := acts_cells (unhide HV2) (unhide HKP).bel j hj rfl
                      rw [← unhide HX] at hcx
                      obtain ⟨c0', c1', c2', c3'⟩ := hcx
                      go_wp2_with fail
                      refine (unhide HA).mono ?_
                      rintro e w8 ⟨rfl, fd4, hK8⟩
                      have HK8 := hide hK8
                      clear hK8 HA HKP
                      generalize errN a (stepS k D x).1 = ev at *
                      go_wp2
                      go_roundw
                      case rel => exact ⟨j + 1, (stepS k D x).2, fd4, T, by go_num, by omega, HKn, by omega, HSW2, HK8⟩
                      case measure => simp [intOf]; omega
                    · obtain ⟨i0, hi0⟩ := Int.eq_ofNat_of_zero_le (show 0 ≤ x.N by omega)
                      have hi0k : i0 < k := by omega
                      have HI0 := hide hi0
                      have cN := c1
                      rw [hi0] at cN
                      have g0 : decide ((i0 : Int) ≥ 0) = true := by simp
                      have g1 : decide ((0 : Int) ≤ (i0 : Int)) = true := by simp
                      have g2 : decide ((i0 : Int) < (k : Int)) = true := decide_eq_true (by omega)
                      have g3 : decide (i0 < k) = true := decide_eq_true hi0k
                      have g4 : (i0 : Int) < (k : Int) := by omega
                      have g5 : (0 : Int) ≤ (i0 : Int) := by omega
                      have ct := (unhide HKP).tch.cell hi0k
                      have ft := (unhide HKP).tch.frozen i0
                      have HKT := hide ((unhide HKP).setT i0)
                      clear c1 hi0
                      go_upto_region 26 with fail
                      generalize wr.setCell ⟨gt, i0, none⟩ (.bool true) = w7 at *
                      clear ct ft c0 c2_ c3 cN
                      have HSW2 := hide (unhide HST2 (updT T i0) (fun i hi ht => ⟨(updT_false ht).1, fun q => (updT_false ht).2 (by have h1 := q.2; have h2 := unhide HI0; omega)⟩))
                      have HA := hide (KpS.act x a rfl (unhide HS) (unhide HKT) (unhide HK) (unhide HXK) (by omega) (by omega))
                      have hcx := acts_cells (unhide HV2) (unhide HKT).bel j hj rfl
                      rw [← unhide HX] at hcx
                      obtain ⟨c0', c1', c2', c3'⟩ := hcx
                      go_wp2_with fail
                      refine (unhide HA).mono ?_
                      rintro e w8 ⟨rfl, fd4, hK8⟩
                      have HK8 := hide hK8
                      clear hK8 HA HKP
                      generalize errN a (stepS k D x).1 = ev at *
                      go_wp2
                      go_roundw
                      case rel => exact ⟨j + 1, (stepS k D x).2, fd4, (updT T i0), by go_num, by omega, HKn, by omega, HSW2, HK8⟩
                      case measure => simp [intOf]; omega
                · have e1 : (x.kind.toList == [119, 114, 105, 116, 101]) = false := t1.trans (decide_eq_false q1)
                  have Q1 := hide q1
                  clear t1 q1
                  have HSW2 := hide (unhide HST2 T (fun i hi ht => ⟨ht, fun q => unhide Q1 q.1⟩))
                  have HA := hide (KpS.act x a rfl (unhide HS) (unhide HKP) (unhide HK) (unhide HXK) (by omega) (by omega))
                  have hcx := acts_cells (unhide HV2) (unhide HKP).bel j hj rfl
                  rw [← unhide HX] at hcx
                  obtain ⟨c0', c1', c2', c3'⟩ := hcx
                  go_wp2_with fail
                  refine (unhide HA).mono ?_
                  rintro e w8 ⟨rfl, fd4, hK8⟩
                  have HK8 := hide hK8
                  clear hK8 HA HKP
                  generalize errN a (stepS k D x).1 = ev at *
                  go_wp2
                  go_roundw
                  case rel => exact ⟨j + 1, (stepS k D x).2, fd4, T, by go_num, by omega, HKn, by omega, HSW2, HK8⟩
                  case measure => simp [intOf]; omega
              · obtain rfl : j = m2 := by omega
                have dj : decide ((j : Int) < (j : Int)) = false := by simp
                have HB3 := hide ((unhide HV3).below (unhide HKP).bel)
                go_wp2_with (at_builtin; refine wpList_appB _ rfl (.tmp 137) (.tmp 138) rfl rfl s3 m3 c3 kb rfl rfl (unhide HB3) (by omega) ?_)
                intro s4 c4 w6 hb4 hnew hbl
                have HKP6 := hide ((unhide HKP).below hbl)
                have hd4 : ∀ b, b ∈ (blkS s4).toList → b ∉ fd := fun b hb hm => by
                  have := (unhide HKP).d.lt b hm
                  have := hnew b (by simpa using hb)
                  omega
                have HCR := hide (dcrash_any q k fd D s4 m3 c4 kb w6 (unhide HKP6).d (unhide HK) hb4 hd4 (by omega))
                clear hb4 hnew hbl hd4 HB3 HKP
                go_wp2_with fail
                refine (unhide HCR).mono ?_
                rintro e w7 ⟨rfl, fd3, hA7, hM7⟩
                have HKP7 := hide ((unhide HKP6).mv hM7 hA7)
                have HKC := hide ((unhide HK).crash (keptB m3 kb))
                have HSC : Hid (∀ i, i < k → T i = false → Still (crashS D (keptB m3 kb)) i (W i)) := fun i hi ht => (unhide HSW i hi ht).crash _
                have hwsC : (crashS D (keptB m3 kb)).ws.length = 0 := rfl
                clear hA7 hM7 HKP6 HCR HK HSW hws
                generalize crashS D (keptB m3 kb) = E at *
                go_wp2
                go_loopw [18] (fun iv wr => ∃ (j : Nat), iv = .int .i64 (j : Int) ∧ j ≤ k ∧ Hid (KpS w.heap.size w wr q k fd3 E gw gt T W)) (fun iv _ => k - (intOf iv).toNat)
                case atStart => exact ⟨0, rfl, by omega, HKP7⟩
                case round =>
                  clear HKP7 dj
                  obtain ⟨j, rfl, hjk, HKP⟩ := hrel
                  by_cases hj : j < k
                  · have dj : decide ((j : Int) < (k : Int)) = true := decide_eq_true (by omega)
                    have djn : decide (j < k) = true := decide_eq_true hj
                    have hjj : (j : Int) < (k : Int) := by omega
                    have hj0 : (0 : Int) ≤ (j : Int) := by omega
                    have HRd := hide (dread_yes q k j fd3 E wr (unhide HKP).d hj ((unhide HKC).now j))
                    have cw := (unhide HKP).was.cell hj
                    have ct := (unhide HKP).tch.cell hj
                    cases htj : T j
                    · rw [htj] at ct
                      have e1 := (unhide HSC j hj htj).now
                      rw [e1] at HRd
                      clear e1
                      generalize W j = ss at *
                      go_wp2_with fail
                      refine (unhide HRd).mono ?_
                      rintro e w8 ⟨rfl, rfl⟩
                      go_wp2
                      go_roundw
                      case rel => exact ⟨j + 1, by go_num, by omega, HKP⟩
                      case measure => simp [intOf]; omega
                    · rw [htj] at ct
                      go_wp2_with fail
                      refine (unhide HRd).mono ?_
                      rintro e w8 ⟨rfl, rfl⟩
                      go_wp2
                      go_roundw
                      case rel => exact ⟨j + 1, by go_num, by omega, HKP⟩
                      case measure => simp [intOf]; omega
                  · obtain rfl : j = k := by omega
                    have dj : decide ((j : Int) < (j : Int)) = false := by simp
                    have HWt := hide (dwaiting_any q j fd3 E wr (unhide HKP).d)
                    rw [hwsC] at HWt
                    go_wp2_with fail
                    refine (unhide HWt).mono ?_
                    rintro e w8 ⟨rfl, rfl⟩
                    go_wp2
                    go_ret
                    exact ⟨rfl, (unhide HKP).bel⟩

theorem diskKeeps_any (N : Int) (s : Option Addr) (m c : Nat) (V : Nat → ActV) (s2 : Option Addr) (m2 c2 : Nat) (V2 : Nat → ActV) (s3 : Option Addr) (m3 c3 : Nat) (kb : Nat → Bool) (w : World) (a : Nat → Addr) (hS : Told w [1, 2, 8] a) (_h0 : (Lit.int .i64 N).wf = true) (hV : IsActs w s m V) (hV2 : IsActs w s2 m2 V2) (hV3 : IsB w s3 m3 kb) :
    Calls Tryd.prog 5 #[.int .i64 N, .slice s m c, .slice s2 m2 c2, .slice s3 m3 c3] w fun e w' => e = .returned (.bool true) ∧ Below w.heap.size w w' := by
  by_cases h1 : N < 1 ∨ 50 < N ∨ 100 < m3
  · exact diskKeeps_out N s m c V s2 m2 c2 V2 s3 m3 c3 w hV hV2 h1
  obtain ⟨k, rfl⟩ := Int.eq_ofNat_of_zero_le (show 0 ≤ N by omega)
  exact diskKeeps_in k s m c V s2 m2 c2 V2 s3 m3 c3 kb w a hS hV hV2 hV3 (by omega) (by omega) (by omega)
end Go.Proofs.YthkecbgifajmmaaDoor
