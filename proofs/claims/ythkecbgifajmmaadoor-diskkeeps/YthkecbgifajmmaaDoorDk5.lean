/- A disk: Flush, Crash. -/
import Derived.Test.YthkecbgifajmmaaDoorDk4
import Derived.Deep.DeepCutAuto
namespace Go.Proofs.YthkecbgifajmmaaDoor
open Go.RowKit

/-- A new write, laid whole. -/
theorem wpList_store71 {ops : Array Oper} {rest : List Oper} {o : Oper} {a : Act} {w : World} {Q : Exit → Act → World → Prop} (hgd : o.guard = none) (x y : Operand) (ho : o.op = .store 71 x y) (M : List Value) (hM : M.length = 65) (h1 : ∀ u ∈ M, u.oneCell' = true)
    (hx : a.eval x = .pointer (some ⟨w.heap.size, 0, none⟩)) (hy : a.eval y = .agg M.toArray) (h : wpList Tryd.prog ops Q rest (a.put o.dst undef) (w.alloc (.cells M.toArray 71))) :
    wpList Tryd.prog ops Q (o :: rest) a (w.alloc (.cells Tryd.zeroCells71 71)) :=
  wpList_plain hgd fun _ hK => by
    have hr := run_storeAt_new (P := Tryd.prog) w 71 Tryd.zeroCells71 M.toArray (by rw [wri_size]; simp [hM]) (by rw [zeros71]; simp [hM]) (all_oneCell_toArray h1)
    unfold Oper.wp execOp
    simp only [ho, hx, hy, hr, Sem.run_bind, Result.andThen_ok]
    exact hK _ _ h

/-- What waits lies in a row. -/
theorem DP.wsAt {w : World} {q n g1 c1 g2 c2 : Nat} {sw : Option Addr} {cw : Nat} {z : Int} {D : DkS} (h : DP w q n g1 c1 g2 c2 sw cw z D) (hs : ∀ x ∈ D.ws, x.2.size = 64) (k : Nat) (hk : k < D.ws.length) : ∃ gw, sw = some ⟨gw, 0, none⟩ ∧ D.ws.length ≤ cw ∧ w.rangeAt gw (k * 65) (wriL (wat D.ws k)) := by
  rcases h.ws.2 with ⟨_, e⟩ | ⟨g, cap, cur, hv, _, hg, hc, _⟩
  · omega
  · injection hv with hv _ hv3
    subst hv hv3
    refine ⟨g, rfl, hc, fun j v hj => ?_⟩
    have hj65 : j < 65 := by
      have := (List.getElem?_eq_some_iff.1 hj).1
      rw [wriL_length _ (hs _ (wat_mem hk))] at this
      exact this
    rw [h.ws.cellAt (k * 65 + j) (by omega), wriV_at hs k j hk hj65]
    exact hj
theorem DP.noWs {w : World} {q n g1 c1 g2 c2 : Nat} {sw : Option Addr} {cw : Nat} {z : Int} {D : DkS} (h : DP w q n g1 c1 g2 c2 sw cw z D) (w' : World) (p : Option Nat) (z' : Int)
    (hb : w'.heap[q]? = some (.cells #[.bool p.isSome, .int .i64 (match p with | none => z' | some k => (k : Int)), .slice (some ⟨g1, 0, none⟩) n c1, .slice (some ⟨g2, 0, none⟩) n c2, .slice none 0 0] 58)) (hf : ∀ k, k ≠ q → w'.heap[k]? = w.heap[k]?) (hp : ∀ k, p = some k → k ≤ 9223372036854775807) :
    DP w' q n g1 c1 g2 c2 none 0 z' ⟨D.now, D.kept, [], p⟩ := by
  have hnd := h.nd
  have n12 : q ≠ g1 ∧ q ≠ g2 ∧ g1 ≠ g2 := by simp at hnd; exact ⟨hnd.1.1, hnd.1.2.1, hnd.2.1.1⟩
  exact ⟨hb, h.now.kept (hf _ n12.1.symm), h.kept.kept (hf _ n12.2.1.symm), World.ownsRow_nil _ _ _ _, h.b1, h.b2, h.m1, h.m2, hp, by simp [blkS]; exact ⟨⟨n12.1, n12.2.1⟩, n12.2.2⟩⟩

theorem dflush_no (q n : Nat) (fp : List Nat) (D : DkS) (w : World) (tE : TypeId) (vE : Value) (h : DAt w q n fp D) (hp : D.pw = some 0) (hE : w.cell? ⟨8, 0, none⟩ = some (.iface tE vE)) :
    Calls Tryd.prog 18 #[.pointer (some ⟨q, 0, none⟩)] w fun e w' => e = .returned (.iface tE vE) ∧ w' = w := by
  have H := hide h
  have HP := hide hp
  clear h hp
  go_enter Tryd.func18, Tryd.ntmps18
  go_wp2_with fail
  refine (dspend_no q n fp D _ tE vE (unhide H) (unhide HP) hE).mono ?_
  rintro e w1 ⟨rfl, rfl⟩
  go_wp2
  go_ret
  exact ⟨rfl, rfl⟩


set_option maxHeartbeats 4000000 in
set_option maxRecDepth 100000 in
theorem dflush_ok (q n : Nat) (fp : List Nat) (D : DkS) (p : Option Nat) (w : World) (h : DAt w q n fp D) (hok : DkOk n D) (hp : spS D.pw = some p) :
    Calls Tryd.prog 18 #[.pointer (some ⟨q, 0, none⟩)] w fun e w' => e = .returned .nilIface ∧ ∃ fp', DAt w' q n fp' (flushS D p) ∧ Mv fp fp' w w' := by
  have H := hide h
  have HSP := hide hp
  have HO := hide hok
  have hfew := hok.few
  clear h hp hok
  go_enter Tryd.func18, Tryd.ntmps18
  go_wp2_with fail
  refine (dspend_ok q n fp D p _ (unhide H) (unhide HSP)).mono ?_
  rintro e w2 ⟨rfl, hA, hM⟩
  have HM := hide hM
  obtain ⟨g1, c1, g2, c2, sw, cw, z, rfl, hp2⟩ := hA
  have HP2 : Hid (DP w2 q n g1 c1 g2 c2 sw cw z ⟨D.now, kfS allS D.kept D.ws 0, D.ws, p⟩) := hp2
  have HB2 : Hid (But (· ∈ q :: g1 :: g2 :: (blkS sw).toList) w2 w2) := But.refl _ _
  obtain ⟨k0, k1, k2, k3, k4, kf, kq⟩ := hp2.cells
  clear hM hp2 k0 k1 k2 k3 kf
  go_wp2
  go_loopw [18] (fun iv wr => ∃ k : Nat, iv = .int .i64 (k : Int) ∧ k ≤ D.ws.length ∧ Hid (DP wr q n g1 c1 g2 c2 sw cw z ⟨D.now, kfS allS D.kept D.ws k, D.ws, p⟩) ∧ Hid (But (· ∈ q :: g1 :: g2 :: (blkS sw).toList) w2 wr)) (fun iv _ => D.ws.length - (intOf iv).toNat)
  case atStart => exact ⟨0, rfl, by omega, HP2, HB2⟩
  case round =>
    obtain ⟨k, rfl, hkm, HP, HB⟩ := hrel
    by_cases hk : k < D.ws.length
    · clear HP2 HB2 k4 kq
      obtain ⟨gw, rfl, hcw, hrg⟩ := (unhide HP).wsAt (fun x hx => ((unhide HO).ws x hx).2) k hk
      have hmem := (unhide HO).ws _ (wat_mem hk)
      obtain ⟨x, hx⟩ : ∃ x, x = wat D.ws k := ⟨_, rfl⟩
      have hX1 := hmem.1
      have hX2 := hmem.2
      have hrg : wr.rangeAt gw (k * 65) (wriL x) := by rw [hx]; exact hrg
      rw [← hx] at hX1 hX2
      have HX := hide hx
      clear hx hmem
      obtain ⟨M, HME⟩ : ∃ M, Hid (M = wriL x) := ⟨_, rfl⟩
      have hML : M.length = 65 := by rw [unhide HME]; exact wriL_length x hX2
      have hM1 : ∀ u ∈ M, u.oneCell' = true := by rw [unhide HME]; exact wriL_one x
      rw [← unhide HME] at hrg
      have hkk : (k : Int) < (D.ws.length : Int) := by omega
      have hk0 : (0 : Int) ≤ (k : Int) := by omega
      have dk : decide ((k : Int) < (D.ws.length : Int)) = true := decide_eq_true hkk
      have dkn : decide (k < D.ws.length) = true := decide_eq_true hk
      have hu71 := Tryd.underlying71
      have hi71 : (Tryd.prog.info? 71).map (·.size) = some M.length := by rw [wri_size, hML]
      go_upto_region 7 with (first | (refine wpList_load_mid rfl 71 (.tmp 20) rfl gw (k * 65) rfl M _ hrg hu71 rfl hi71 ?_) | (refine wpList_store71 rfl (.tmp 5) (.tmp 21) rfl M hML hM1 rfl rfl ?_))
      simp only [Act.put]
      have hb1 := (Below.refl wr.heap.size wr).alloc (Nat.le_refl _) (.cells M.toArray 71)
      have hbl := heap_alloc_new wr (.cells M.toArray 71)
      have hP1 := DAt.below ⟨g1, c1, g2, c2, _, cw, z, rfl, unhide HP⟩ hb1
      have hP1 : DP (wr.alloc (.cells M.toArray 71)) q n g1 c1 g2 c2 (some ⟨gw, 0, none⟩) cw z ⟨D.now, kfS allS D.kept D.ws k, D.ws, p⟩ := (unhide HP).keep (fun j hj => hb1.block j (DAt.lt ⟨g1, c1, g2, c2, _, cw, z, rfl, unhide HP⟩ j hj))
      have hlt : ∀ j, j ∈ q :: g1 :: g2 :: (blkS (some ⟨gw, 0, none⟩)).toList → j < wr.heap.size := DAt.lt ⟨g1, c1, g2, c2, _, cw, z, rfl, unhide HP⟩
      have hB1 : But (· ∈ q :: g1 :: g2 :: (blkS (some ⟨gw, 0, none⟩)).toList) w2 (wr.alloc (.cells M.toArray 71)) := (unhide HB).alloc _
      generalize wr.alloc (.cells M.toArray 71) = w4 at *
      generalize hbq : wr.heap.size = b at *
      clear hbq hb1
      obtain ⟨k0, k1, k2, k3, k4, kf, kq⟩ := hP1.cells
      have hltg := hlt g2 (by simp)
      have hlq := hlt q (by simp)
      have hML2 : M = .int .i64 (x.1 : Int) :: secL x.2 := unhide HME
      have kb0 : w4.cell? ⟨b, 0, none⟩ = some (.int .i64 (x.1 : Int)) := by rw [blk_cell hbl, hML2]; rfl
      have hr : w4.rangeAt b 1 (secL x.2) := fun j v hv => by
        rw [blk_cell hbl, hML2, show 1 + j = j + 1 by omega]
        simpa using hv
      have hlen : (secL x.2).length = 64 := by rw [secL_length, hX2]
      have hth := hP1.kept.there x.1 hX1
      have b1 := hP1.b1
      have m1 := hP1.m1
      have b2 := hP1.b2
      have m2 := hP1.m2
      unfold maxLen at m1 m2
      have hone := secL_one x.2
      have hng : q ≠ g2 := by have := hP1.nd; simp at this; first | exact this.1.1 | exact this.1.2.1
      have HP4 := hide hP1
      have HB4 := hide hB1
      clear hP1 hB1 hlt hbl hrg hML2 HP HB hM1 hML hu71 hi71
      obtain ⟨L, HLE⟩ : ∃ L, Hid (L = secL x.2) := ⟨_, rfl⟩
      rw [← unhide HLE] at hlen hr hone
      have hu := Tryd.underlying67
      have hi67 : (Tryd.prog.info? 67).map (·.size) = some L.length := by rw [sec_size, hlen]
      have hi0 : (0 : Int) ≤ (x.1 : Int) := by omega
      have hi1 : (x.1 : Int) < (n : Int) := by omega
      have KS := hide (fun (w' : World) (h : w'.cell? ⟨q, 3, none⟩ = some (.slice (some ⟨g2, 0, none⟩) n c2) ∧ w'.cell? ⟨b, 0, none⟩ = some (.int .i64 (x.1 : Int)) ∧ w'.rangeAt b 1 L ∧ w'.there g2 (x.1 * 64) 64) => show (w'.setCells g2 (x.1 * 64) L).cell? ⟨q, 3, none⟩ = some (.slice (some ⟨g2, 0, none⟩) n c2) ∧ (w'.setCells g2 (x.1 * 64) L).cell? ⟨b, 0, none⟩ = some (.int .i64 (x.1 : Int)) ∧ (w'.setCells g2 (x.1 * 64) L).rangeAt b 1 L ∧ (w'.setCells g2 (x.1 * 64) L).there g2 (x.1 * 64) 64 from ⟨(World.cell?_setCells_out g2 L (x.1 * 64) w' ⟨q, 3, none⟩ (fun e _ => absurd e hng)).trans h.1, (World.cell?_setCells_out g2 L (x.1 * 64) w' ⟨b, 0, none⟩ (fun e _ => absurd e (by simp only; omega))).trans h.2.1, World.rangeAt_setCells_apart h.2.2.1 _ _ _ (.inl (by omega)), World.there_setCells h.2.2.2 _ _ _⟩)
      go_region_held (fun w' => w'.cell? ⟨q, 3, none⟩ = some (.slice (some ⟨g2, 0, none⟩) n c2) ∧ w'.cell? ⟨b, 0, none⟩ = some (.int .i64 (x.1 : Int)) ∧ w'.rangeAt b 1 L ∧ w'.there g2 (x.1 * 64) 64) (first | exact unhide KS _ (by assumption) | go_keep_ranges) (fail)
      clear KS
      have hP5 : Hid (DP (w4.drew.setCells g2 (x.1 * 64) L) q n g1 c1 g2 c2 (some ⟨gw, 0, none⟩) cw z ⟨D.now, kfS allS D.kept D.ws (k + 1), D.ws, p⟩) := by
        have h1 := DP.putKept (D := ⟨D.now, kfS allS D.kept D.ws k, D.ws, p⟩) ((unhide HP4).keep (w' := w4.drew) (fun _ _ => rfl)) (fun j => kfS_size (unhide HO).kept (fun y hy => ((unhide HO).ws y hy).2) k j hkm) x.1 hX1 x.2 hX2
        rw [unhide HLE]
        rw [unhide HX] at h1 ⊢
        exact h1
      have hB5 : Hid (But (· ∈ q :: g1 :: g2 :: (blkS (some ⟨gw, 0, none⟩)).toList) w2 (w4.drew.setCells g2 (x.1 * 64) L)) := ((unhide HB4).drew).setCells (by simp) _ _
      clear HP4 HB4 k0 k1 k2 k3 k4 kf kb0 hr hth
      generalize w4.drew.setCells g2 (x.1 * 64) L = w5 at *
      go_wp2
      go_roundw
      case rel => exact ⟨k + 1, by go_num, by omega, hP5, hB5⟩
      case measure => simp [intOf]; omega
    · obtain rfl : k = D.ws.length := by omega
      have dk : decide ((D.ws.length : Int) < (D.ws.length : Int)) = false := by simp
      obtain ⟨k0, k1, k2, k3, k4', kf, kq'⟩ := (unhide HP).cells
      have f4 := kf 4
      clear HP2 HB2 k4 kq k0 k1 k2 k3 kf
      go_wp2
      go_ret
      refine ⟨rfl, [q, g1, g2], ⟨g1, c1, g2, c2, none, 0, z, rfl, ?_⟩, (unhide HM).trans ⟨(unhide HB).setCell (p := ⟨q, 4, none⟩) (by simp) _, fun j hj => .inl (by simp only [List.mem_cons, List.not_mem_nil, or_false] at hj; rcases hj with rfl | rfl | rfl <;> simp)⟩⟩
      have h1 := (unhide HP).noWs (wr.setCell ⟨q, 4, none⟩ (.slice none 0 0)) p z (by simp [World.setCell, Array.getElem?_modify, (unhide HP).box]; cases p <;> rfl) (fun j hj => Below.heap_setCell _ _ _ _ hj) (unhide HP).pb
      rw [← (unhide HO).is] at h1
      exact h1

/-- Bools that lie somewhere. -/
def IsB (w : World) (s : Option Addr) (n : Nat) (b : Nat → Bool) : Prop := n = 0 ∨ ∃ g off, s = some ⟨g, off, none⟩ ∧ n ≤ maxLen ∧ ∀ i, i < n → w.cell? ⟨g, off + i, none⟩ = some (.bool (b i))

set_option maxHeartbeats 8000000 in
set_option maxRecDepth 100000 in
theorem dcrash_any (q n : Nat) (fp : List Nat) (D : DkS) (s : Option Addr) (kn kc : Nat) (kb : Nat → Bool) (w : World) (h : DAt w q n fp D) (hok : DkOk n D) (hs : IsB w s kn kb) (hd : ∀ k, k ∈ (blkS s).toList → k ∉ fp) (hkn : kn ≤ 1000000) :
    Calls Tryd.prog 16 #[.pointer (some ⟨q, 0, none⟩), .slice s kn kc] w fun e w' => e = .returned (.tuple #[]) ∧ ∃ fp', DAt w' q n fp' (crashS D (keptB kn kb)) ∧ Mv fp fp' w w' := by
  have HO := hide hok
  have hfew := hok.few
  have HS := hide hs
  have HD := hide hd
  obtain ⟨g1, c1, g2, c2, sw, cw, z, rfl, hp2⟩ := h
  have HP2 : Hid (DP w q n g1 c1 g2 c2 sw cw z ⟨D.now, kfS (keptB kn kb) D.kept D.ws 0, D.ws, D.pw⟩) := hp2
  have HB2 : Hid (But (· ∈ q :: g1 :: g2 :: (blkS sw).toList) w w) := But.refl _ _
  obtain ⟨k0, k1, k2, k3, k4, kf, kq⟩ := hp2.cells
  clear hp2 k0 k1 k2 k3 kf hok hs hd
  obtain ⟨w2, rfl⟩ : ∃ w2, w2 = w := ⟨_, rfl⟩
  go_enter Tryd.func16, Tryd.ntmps16
  go_wp2
  go_loopw [13] (fun iv wr => ∃ k : Nat, iv = .int .i64 (k : Int) ∧ k ≤ D.ws.length ∧ Hid (DP wr q n g1 c1 g2 c2 sw cw z ⟨D.now, kfS (keptB kn kb) D.kept D.ws k, D.ws, D.pw⟩) ∧ Hid (But (· ∈ q :: g1 :: g2 :: (blkS sw).toList) w2 wr)) (fun iv _ => D.ws.length - (intOf iv).toNat)
  case atStart => exact ⟨0, rfl, by omega, HP2, HB2⟩
  case round =>
    obtain ⟨k, rfl, hkm, HP, HB⟩ := hrel
    by_cases hk : k < D.ws.length
    · clear HP2 HB2 k4 kq
      obtain ⟨gw, rfl, hcw, hrg⟩ := (unhide HP).wsAt (fun x hx => ((unhide HO).ws x hx).2) k hk
      have hmem := (unhide HO).ws _ (wat_mem hk)
      obtain ⟨x, hx⟩ : ∃ x, x = wat D.ws k := ⟨_, rfl⟩
      have hX1 := hmem.1
      have hX2 := hmem.2
      have hrg : wr.rangeAt gw (k * 65) (wriL x) := by rw [hx]; exact hrg
      rw [← hx] at hX1 hX2
      have HX := hide hx
      clear hx hmem
      obtain ⟨M, HME⟩ : ∃ M, Hid (M = wriL x) := ⟨_, rfl⟩
      have hML : M.length = 65 := by rw [unhide HME]; exact wriL_length x hX2
      have hM1 : ∀ u ∈ M, u.oneCell' = true := by rw [unhide HME]; exact wriL_one x
      rw [← unhide HME] at hrg
      have hkk : (k : Int) < (D.ws.length : Int) := by omega
      have hk0 : (0 : Int) ≤ (k : Int) := by omega
      have dk : decide ((k : Int) < (D.ws.length : Int)) = true := decide_eq_true hkk
      have dkn : decide (k < D.ws.length) = true := decide_eq_true hk
      have hu71 := Tryd.underlying71
      have hi71 : (Tryd.prog.info? 71).map (·.size) = some M.length := by rw [wri_size, hML]
      go_upto_region 3 with (first | (refine wpList_load_mid rfl 71 (.tmp 16) rfl gw (k * 65) rfl M _ hrg hu71 rfl hi71 ?_) | (refine wpList_store71 rfl (.tmp 5) (.tmp 17) rfl M hML hM1 rfl rfl ?_))
      simp only [Act.put]
      have hb1 := (Below.refl wr.heap.size wr).alloc (Nat.le_refl _) (.cells M.toArray 71)
      have hbl := heap_alloc_new wr (.cells M.toArray 71)
      have hP1 := DAt.below ⟨g1, c1, g2, c2, _, cw, z, rfl, unhide HP⟩ hb1
      have hP1 : DP (wr.alloc (.cells M.toArray 71)) q n g1 c1 g2 c2 (some ⟨gw, 0, none⟩) cw z ⟨D.now, kfS (keptB kn kb) D.kept D.ws k, D.ws, D.pw⟩ := (unhide HP).keep (fun j hj => hb1.block j (DAt.lt ⟨g1, c1, g2, c2, _, cw, z, rfl, unhide HP⟩ j hj))
      have hlt : ∀ j, j ∈ q :: g1 :: g2 :: (blkS (some ⟨gw, 0, none⟩)).toList → j < wr.heap.size := DAt.lt ⟨g1, c1, g2, c2, _, cw, z, rfl, unhide HP⟩
      have hB1 : But (· ∈ q :: g1 :: g2 :: (blkS (some ⟨gw, 0, none⟩)).toList) w2 (wr.alloc (.cells M.toArray 71)) := (unhide HB).alloc _
      generalize wr.alloc (.cells M.toArray 71) = w4 at *
      generalize hbq : wr.heap.size = b at *
      clear hbq hb1
      have skip : keptB kn kb k = false → kfS (keptB kn kb) D.kept D.ws (k + 1) = kfS (keptB kn kb) D.kept D.ws k := fun e => by
        show (if keptB kn kb k then _ else _) = _
        rw [e]; rfl
      have SKIP := hide skip
      clear skip
      by_cases hkk2 : k < kn
      · obtain ⟨gk, ok, rfl, hml, hc⟩ := (unhide HS).resolve_left (by omega)
        have ck := hc k hkk2
        have ckl := World.block_lt_of_cell? _ _ ck
        have ck4 : w4.cell? ⟨gk, ok + k, none⟩ = some (.bool (kb k)) := (hB1.cell (p := ⟨gk, ok + k, none⟩) ckl (unhide HD gk (by simp [blkS]))).trans ck
        have hkn0 : decide ((k : Int) < (kn : Int)) = true := decide_eq_true (by omega)
        have hkn1 : decide (k < kn) = true := decide_eq_true hkk2
        have hkn2 : (k : Int) < (kn : Int) := by omega
        unfold maxLen at hml
        clear hc ck ckl
        cases hkb : kb k
        · rw [hkb] at ck4
          have hP6 : Hid (DP w4 q n g1 c1 g2 c2 (some ⟨gw, 0, none⟩) cw z ⟨D.now, kfS (keptB kn kb) D.kept D.ws (k + 1), D.ws, D.pw⟩) := by rw [unhide SKIP (by simp [keptB, hkb])]; exact hP1
          have hB6 := hide hB1
          clear hP1 hB1 hbl hrg HP HB hM1 hML hu71 hi71 hlt
          go_wp2
          go_roundw
          case rel => exact ⟨k + 1, by go_num, by omega, hP6, hB6⟩
          case measure => simp [intOf]; omega
        · rw [hkb] at ck4
          go_upto_region 4 with fail
          obtain ⟨k0, k1, k2, k3, k4, kf, kq⟩ := hP1.cells
          have hltg := hlt g2 (by simp)
          have hlq := hlt q (by simp)
          have hML2 : M = .int .i64 (x.1 : Int) :: secL x.2 := unhide HME
          have kb0 : w4.cell? ⟨b, 0, none⟩ = some (.int .i64 (x.1 : Int)) := by rw [blk_cell hbl, hML2]; rfl
          have hr : w4.rangeAt b 1 (secL x.2) := fun j v hv => by
            rw [blk_cell hbl, hML2, show 1 + j = j + 1 by omega]
            simpa using hv
          have hlen : (secL x.2).length = 64 := by rw [secL_length, hX2]
          have hth := hP1.kept.there x.1 hX1
          have b1 := hP1.b1
          have m1 := hP1.m1
          have b2 := hP1.b2
          have m2 := hP1.m2
          unfold maxLen at m1 m2
          have hone := secL_one x.2
          have hng : q ≠ g2 := by have := hP1.nd; simp at this; first | exact this.1.1 | exact this.1.2.1
          have HP4 := hide hP1
          have HB4 := hide hB1
          clear hP1 hB1 hlt hbl hrg hML2 HP HB hM1 hML hu71 hi71
          obtain ⟨L, HLE⟩ : ∃ L, Hid (L = secL x.2) := ⟨_, rfl⟩
          rw [← unhide HLE] at hlen hr hone
          have hu := Tryd.underlying67
          have hi67 : (Tryd.prog.info? 67).map (·.size) = some L.length := by rw [sec_size, hlen]
          have hi0 : (0 : Int) ≤ (x.1 : Int) := by omega
          have hi1 : (x.1 : Int) < (n : Int) := by omega
          have KS := hide (fun (w' : World) (h : w'.cell? ⟨q, 3, none⟩ = some (.slice (some ⟨g2, 0, none⟩) n c2) ∧ w'.cell? ⟨b, 0, none⟩ = some (.int .i64 (x.1 : Int)) ∧ w'.rangeAt b 1 L ∧ w'.there g2 (x.1 * 64) 64) => show (w'.setCells g2 (x.1 * 64) L).cell? ⟨q, 3, none⟩ = some (.slice (some ⟨g2, 0, none⟩) n c2) ∧ (w'.setCells g2 (x.1 * 64) L).cell? ⟨b, 0, none⟩ = some (.int .i64 (x.1 : Int)) ∧ (w'.setCells g2 (x.1 * 64) L).rangeAt b 1 L ∧ (w'.setCells g2 (x.1 * 64) L).there g2 (x.1 * 64) 64 from ⟨(World.cell?_setCells_out g2 L (x.1 * 64) w' ⟨q, 3, none⟩ (fun e _ => absurd e hng)).trans h.1, (World.cell?_setCells_out g2 L (x.1 * 64) w' ⟨b, 0, none⟩ (fun e _ => absurd e (by simp only; omega))).trans h.2.1, World.rangeAt_setCells_apart h.2.2.1 _ _ _ (.inl (by omega)), World.there_setCells h.2.2.2 _ _ _⟩)
          go_region_held (fun w' => w'.cell? ⟨q, 3, none⟩ = some (.slice (some ⟨g2, 0, none⟩) n c2) ∧ w'.cell? ⟨b, 0, none⟩ = some (.int .i64 (x.1 : Int)) ∧ w'.rangeAt b 1 L ∧ w'.there g2 (x.1 * 64) 64) (first | exact unhide KS _ (by assumption) | go_keep_ranges) (fail)

          clear KS
          have hP5 : Hid (DP (w4.drew.setCells g2 (x.1 * 64) L) q n g1 c1 g2 c2 (some ⟨gw, 0, none⟩) cw z ⟨D.now, kfS (keptB kn kb) D.kept D.ws (k + 1), D.ws, D.pw⟩) := by
            have h1 := DP.putKept (D := ⟨D.now, kfS (keptB kn kb) D.kept D.ws k, D.ws, D.pw⟩) ((unhide HP4).keep (w' := w4.drew) (fun _ _ => rfl)) (fun j => kfS_size (unhide HO).kept (fun y hy => ((unhide HO).ws y hy).2) k j hkm) x.1 hX1 x.2 hX2
            have e : kfS (keptB kn kb) D.kept D.ws (k + 1) = updS (kfS (keptB kn kb) D.kept D.ws k) (wat D.ws k).1 (wat D.ws k).2 := by
              show (if keptB kn kb k then _ else _) = _
              rw [show keptB kn kb k = true by simp [keptB, hkb, hkk2]]; rfl
            rw [unhide HLE, e]
            rw [unhide HX] at h1 ⊢
            exact h1
          have hB5 : Hid (But (· ∈ q :: g1 :: g2 :: (blkS (some ⟨gw, 0, none⟩)).toList) w2 (w4.drew.setCells g2 (x.1 * 64) L)) := ((unhide HB4).drew).setCells (by simp) _ _
          clear HP4 HB4 k0 k1 k2 k3 k4 kf kb0 hr hth ck4
          generalize w4.drew.setCells g2 (x.1 * 64) L = w5 at *
          go_wp2
          go_roundw
          case rel => exact ⟨k + 1, by go_num, by omega, hP5, hB5⟩
          case measure => simp [intOf]; omega
      · have hkn0 : decide ((k : Int) < (kn : Int)) = false := decide_eq_false (by omega)
        have hkn1 : decide (k < kn) = false := decide_eq_false hkk2
        have hP6 : Hid (DP w4 q n g1 c1 g2 c2 (some ⟨gw, 0, none⟩) cw z ⟨D.now, kfS (keptB kn kb) D.kept D.ws (k + 1), D.ws, D.pw⟩) := by rw [unhide SKIP (by simp [keptB, hkk2])]; exact hP1
        have hB6 := hide hB1
        clear hP1 hB1 hbl hrg HP HB hM1 hML hu71 hi71 hlt
        go_wp2
        go_roundw
        case rel => exact ⟨k + 1, by go_num, by omega, hP6, hB6⟩
        case measure => simp [intOf]; omega
    · obtain rfl : k = D.ws.length := by omega
      have dk : decide ((D.ws.length : Int) < (D.ws.length : Int)) = false := by simp
      obtain ⟨k0, k1, k2, k3, k4', kf, kq'⟩ := (unhide HP).cells
      clear HP2 HB2 k4 kq k0 k1 k2 k3 kf
      obtain ⟨K, HK⟩ : ∃ K, Hid (K = kfS (keptB kn kb) D.kept D.ws D.ws.length) := ⟨_, rfl⟩
      have HKS : Hid (∀ i, (K i).size = 64) := fun i => by rw [unhide HK]; exact kfS_size (unhide HO).kept (fun y hy => ((unhide HO).ws y hy).2) _ i (Nat.le_refl _)
      rw [← unhide HK] at HP
      obtain ⟨w3, rfl⟩ : ∃ w3, w3 = wr := ⟨_, rfl⟩
      have HP3 : Hid (DP w3 q n g1 c1 g2 c2 sw cw z ⟨nfS K D.now D.ws 0, K, D.ws, D.pw⟩) := HP
      have HB3 := HB
      clear HP HB hkm HS HD
      go_wp2
      go_loopw [43] (fun iv wr => ∃ k : Nat, iv = .int .i64 (k : Int) ∧ k ≤ D.ws.length ∧ Hid (DP wr q n g1 c1 g2 c2 sw cw z ⟨nfS K D.now D.ws k, K, D.ws, D.pw⟩) ∧ Hid (But (· ∈ q :: g1 :: g2 :: (blkS sw).toList) w2 wr)) (fun iv _ => D.ws.length - (intOf iv).toNat)
      case atStart => exact ⟨0, rfl, by omega, HP3, HB3⟩
      case round =>
        obtain ⟨k, rfl, hkm, HP, HB⟩ := hrel
        by_cases hk : k < D.ws.length
        · clear HP3 HB3 k4' kq' dk
          obtain ⟨gw, rfl, hcw, hrg⟩ := (unhide HP).wsAt (fun x hx => ((unhide HO).ws x hx).2) k hk
          have hmem := (unhide HO).ws _ (wat_mem hk)
          obtain ⟨x, hx⟩ : ∃ x, x = wat D.ws k := ⟨_, rfl⟩
          have hX1 := hmem.1
          have hX2 := hmem.2
          have hrg : wr.rangeAt gw (k * 65) (wriL x) := by rw [hx]; exact hrg
          rw [← hx] at hX1 hX2
          have HX := hide hx
          clear hx hmem
          obtain ⟨M, HME⟩ : ∃ M, Hid (M = wriL x) := ⟨_, rfl⟩
          have hML : M.length = 65 := by rw [unhide HME]; exact wriL_length x hX2
          have hM1 : ∀ u ∈ M, u.oneCell' = true := by rw [unhide HME]; exact wriL_one x
          rw [← unhide HME] at hrg
          have hkk : (k : Int) < (D.ws.length : Int) := by omega
          have hk0 : (0 : Int) ≤ (k : Int) := by omega
          have dk : decide ((k : Int) < (D.ws.length : Int)) = true := decide_eq_true hkk
          have dkn : decide (k < D.ws.length) = true := decide_eq_true hk
          have hu71 := Tryd.underlying71
          have hi71 : (Tryd.prog.info? 71).map (·.size) = some M.length := by rw [wri_size, hML]
          go_upto_region 9 with (first | (refine wpList_load_mid rfl 71 (.tmp 45) rfl gw (k * 65) rfl M _ hrg hu71 rfl hi71 ?_) | (refine wpList_store71 rfl (.tmp 7) (.tmp 46) rfl M hML hM1 rfl rfl ?_))
          simp only [Act.put]
          have hb1 := (Below.refl wr.heap.size wr).alloc (Nat.le_refl _) (.cells M.toArray 71)
          have hbl := heap_alloc_new wr (.cells M.toArray 71)
          have hP1 := DAt.below ⟨g1, c1, g2, c2, _, cw, z, rfl, unhide HP⟩ hb1
          have hP1 : DP (wr.alloc (.cells M.toArray 71)) q n g1 c1 g2 c2 (some ⟨gw, 0, none⟩) cw z ⟨nfS K D.now D.ws k, K, D.ws, D.pw⟩ := (unhide HP).keep (fun j hj => hb1.block j (DAt.lt ⟨g1, c1, g2, c2, _, cw, z, rfl, unhide HP⟩ j hj))
          have hlt : ∀ j, j ∈ q :: g1 :: g2 :: (blkS (some ⟨gw, 0, none⟩)).toList → j < wr.heap.size := DAt.lt ⟨g1, c1, g2, c2, _, cw, z, rfl, unhide HP⟩
          have hB1 : But (· ∈ q :: g1 :: g2 :: (blkS (some ⟨gw, 0, none⟩)).toList) w2 (wr.alloc (.cells M.toArray 71)) := (unhide HB).alloc _
          generalize wr.alloc (.cells M.toArray 71) = w4 at *
          generalize hbq : wr.heap.size = b at *
          clear hbq hb1
          obtain ⟨k0, k1, k2, k3, k4, kf, kq⟩ := hP1.cells
          have hltg := hlt g1 (by simp)
          have hlq := hlt q (by simp)
          have hML2 : M = .int .i64 (x.1 : Int) :: secL x.2 := unhide HME
          have kb0 : w4.cell? ⟨b, 0, none⟩ = some (.int .i64 (x.1 : Int)) := by rw [blk_cell hbl, hML2]; rfl
          have hr : w4.rangeAt g2 (x.1 * 64) (secL (K x.1)) := hP1.kept.cells x.1 hX1
          have hKs := unhide HKS x.1
          have hlen : (secL (K x.1)).length = 64 := by rw [secL_length, hKs]
          have hth := hP1.now.there x.1 hX1
          have b1 := hP1.b1
          have m1 := hP1.m1
          have b2 := hP1.b2
          have m2 := hP1.m2
          unfold maxLen at m1 m2
          have hone := secL_one (K x.1)
          have hng : q ≠ g1 ∧ q ≠ g2 ∧ g1 ≠ g2 := by have := hP1.nd; simp at this; exact ⟨this.1.1, this.1.2.1, this.2.1.1⟩
          have HP4 := hide hP1
          have HB4 := hide hB1
          clear hP1 hB1 hlt hbl hrg hML2 HP HB hM1 hML hu71 hi71
          obtain ⟨L, HLE⟩ : ∃ L, Hid (L = secL (K x.1)) := ⟨_, rfl⟩
          rw [← unhide HLE] at hlen hr hone
          have hu := Tryd.underlying67
          have hi67 : (Tryd.prog.info? 67).map (·.size) = some L.length := by rw [sec_size, hlen]
          have hi0 : (0 : Int) ≤ (x.1 : Int) := by omega
          have hi1 : (x.1 : Int) < (n : Int) := by omega
          have KS := hide (fun (w' : World) (h : w'.cell? ⟨q, 2, none⟩ = some (.slice (some ⟨g1, 0, none⟩) n c1) ∧ w'.cell? ⟨q, 3, none⟩ = some (.slice (some ⟨g2, 0, none⟩) n c2) ∧ w'.cell? ⟨b, 0, none⟩ = some (.int .i64 (x.1 : Int)) ∧ w'.rangeAt g2 (x.1 * 64) L ∧ w'.there g1 (x.1 * 64) 64) => show (w'.setCells g1 (x.1 * 64) L).cell? ⟨q, 2, none⟩ = some (.slice (some ⟨g1, 0, none⟩) n c1) ∧ (w'.setCells g1 (x.1 * 64) L).cell? ⟨q, 3, none⟩ = some (.slice (some ⟨g2, 0, none⟩) n c2) ∧ (w'.setCells g1 (x.1 * 64) L).cell? ⟨b, 0, none⟩ = some (.int .i64 (x.1 : Int)) ∧ (w'.setCells g1 (x.1 * 64) L).rangeAt g2 (x.1 * 64) L ∧ (w'.setCells g1 (x.1 * 64) L).there g1 (x.1 * 64) 64 from ⟨(World.cell?_setCells_out g1 L (x.1 * 64) w' ⟨q, 2, none⟩ (fun e _ => absurd e hng.1)).trans h.1, (World.cell?_setCells_out g1 L (x.1 * 64) w' ⟨q, 3, none⟩ (fun e _ => absurd e hng.1)).trans h.2.1, (World.cell?_setCells_out g1 L (x.1 * 64) w' ⟨b, 0, none⟩ (fun e _ => absurd e (by simp only; omega))).trans h.2.2.1, World.rangeAt_setCells_apart h.2.2.2.1 _ _ _ (.inl (fun e => hng.2.2 e.symm)), World.there_setCells h.2.2.2.2 _ _ _⟩)
          go_region_held (fun w' => w'.cell? ⟨q, 2, none⟩ = some (.slice (some ⟨g1, 0, none⟩) n c1) ∧ w'.cell? ⟨q, 3, none⟩ = some (.slice (some ⟨g2, 0, none⟩) n c2) ∧ w'.cell? ⟨b, 0, none⟩ = some (.int .i64 (x.1 : Int)) ∧ w'.rangeAt g2 (x.1 * 64) L ∧ w'.there g1 (x.1 * 64) 64) (first | exact unhide KS _ (by assumption) | go_keep_ranges) (fail)

          clear KS
          have hP5 : Hid (DP (w4.drew.setCells g1 (x.1 * 64) L) q n g1 c1 g2 c2 (some ⟨gw, 0, none⟩) cw z ⟨nfS K D.now D.ws (k + 1), K, D.ws, D.pw⟩) := by
            have h1 := DP.putNow (D := ⟨nfS K D.now D.ws k, K, D.ws, D.pw⟩) ((unhide HP4).keep (w' := w4.drew) (fun _ _ => rfl)) (fun j => nfS_size (unhide HO).now (unhide HKS) k j) x.1 hX1 (K x.1) hKs
            rw [unhide HLE]
            rw [unhide HX] at h1 ⊢
            exact h1
          have hB5 : Hid (But (· ∈ q :: g1 :: g2 :: (blkS (some ⟨gw, 0, none⟩)).toList) w2 (w4.drew.setCells g1 (x.1 * 64) L)) := ((unhide HB4).drew).setCells (by simp) _ _
          clear HP4 HB4 k0 k1 k2 k3 k4 kf kb0 hr hth
          generalize w4.drew.setCells g1 (x.1 * 64) L = w5 at *
          go_wp2
          go_roundw
          case rel => exact ⟨k + 1, by go_num, by omega, hP5, hB5⟩
          case measure => simp [intOf]; omega
        · obtain rfl : k = D.ws.length := by omega
          have hcn := crash_now (unhide HO) (keptB kn kb)
          rw [← unhide HK] at hcn
          rw [hcn] at HP
          obtain ⟨k0, k1, k2, k3, k4, kf, kq⟩ := (unhide HP).cells
          have f4 := kf 4
          have f0 := kf 0
          have f1 := kf 1
          clear HP3 HB3 k4' kq' hcn kf
          go_wp2
          first | (refine bodyPost_ret (results_none rfl _ _ _) rfl ?_) | (refine bodyPost_end (results_none rfl _ _ _) rfl ?_)
          refine ⟨rfl, [q, g1, g2], ⟨g1, c1, g2, c2, none, 0, 0, rfl, ?_⟩, ⟨(((unhide HB).setCell (p := ⟨q, 4, none⟩) (by simp) _).setCell (p := ⟨q, 0, none⟩) (by simp) _).setCell (p := ⟨q, 1, none⟩) (by simp) _, fun j hj => .inl (by simp only [List.mem_cons, List.not_mem_nil, or_false] at hj; rcases hj with rfl | rfl | rfl <;> simp)⟩⟩
          have h1 := (unhide HP).noWs (((wr.setCell ⟨q, 4, none⟩ (.slice none 0 0)).setCell ⟨q, 0, none⟩ (.bool false)).setCell ⟨q, 1, none⟩ (.int .i64 0)) none 0 (by simp [World.setCell, Array.getElem?_modify, (unhide HP).box]) (fun j hj => by rw [Below.heap_setCell _ _ _ _ hj, Below.heap_setCell _ _ _ _ hj, Below.heap_setCell _ _ _ _ hj]) (fun k e => by cases e)
          show DP _ _ _ _ _ _ _ _ _ _ ⟨_, _, _, _⟩
          rw [← unhide HK]
          exact h1
end Go.Proofs.YthkecbgifajmmaaDoor
