/- Walk of the document's symbols. (Written by genwords.py.) -/
import Derived.Test.YtfeljhikeddodadGreatDoorMh26
namespace Go.Proofs.YtfeljhikeddodadGreatDoor
open Go.RowKit Pm Cn Cd Nf

section
variable {R : Nat} {s : ByteArray} {k : Nat} {out : List UInt8} {most : Nat} {xe : Ex}

theorem Rx.more {w w0 w1 : World} {er : Nat} {v v' : Value} {n : Nat} {xs : List Value} (h : Rx w R er) (hv : w.cell? ⟨R, 11, none⟩ = some v) (hown : w.ownsRow (R + 1) 51 3 v n xs) (h0 : Below w.heap.size w w0) (hg : w0.grownBy w1 v.ownBlock) :
    Rf (w1.setCell ⟨R, 11, none⟩ v') R er ∧ Below R w (w1.setCell ⟨R, 11, none⟩ v') := by
  have hR := h.bad.lt
  have hz0 := h0.size
  have hrow : ∀ g, v.ownBlock = some g → R + 1 ≤ g := fun g e => (hown.lt g e).1
  have hblk : ∀ i, i ≤ R → w1.heap[i]? = w.heap[i]? := fun i hi => by
    rw [hg.block i (by omega) (fun q => by have := hrow i q.symm; omega), h0.block i (by omega)]
  have c : ∀ j, w1.cell? ⟨R, j, none⟩ = w.cell? ⟨R, j, none⟩ := fun j => World.cell?_of_block (hblk R (Nat.le_refl _))
  have fz : ∀ j, w1.frozen? ⟨R, j, none⟩ = w.frozen? ⟨R, j, none⟩ := fun j => World.frozen?_of_block (hblk R (Nat.le_refl _))
  have hc := fun i => cell_set w1 R 11 i v' _ ((c 11).trans hv)
  refine ⟨⟨by rw [hc, if_neg (by omega), c]; exact h.bad.err, h.bad.pos, fun j hj => by rw [hc, if_neg (by omega), c]; exact h.bad.others j hj, fun j => by rw [frozen_set, fz]; exact h.bad.free j⟩, ⟨hg.os.trans h0.os, hg.tape.trans h0.tape, hg.output.trans h0.output, by have := hg.size; simp [World.setCell]; omega, fun i hi => ?_⟩⟩
  rw [Below.heap_setCell _ _ _ _ (by show i ≠ R; omega), hblk i (by omega)]
/-- What else is known behind a run of symbols: what was read, what is counted (in rows at gg and behind it). -/
structure Trd0 (s : ByteArray) (k : Nat) (out : List UInt8) (most : Nat) (l1 : Nat → Nat) (N1 : Nat) (l2 : Nat → Nat) (N2 : Nat) (gg : Nat) (xe : Ex) (w' : World) (k' : Nat) (out' : List UInt8) (xe' : Ex) : Prop where
  trc : ∃ kz c7 c8, Trc (tv s) (8 * s.size) most l1 N1 l2 N2 (k, out) xe.ts (kz, out') xe'.ts c7 c8 ∧ wd (tv s) (8 * s.size) l1 N1 kz = some 256 ∧ k' = kz + l1 256 ∧ (∀ i, i < 300 → w'.cell? ⟨gg, i, none⟩ = some (.int .i64 (bump c7 256 i : Int))) ∧ (∀ i, i < 40 → w'.cell? ⟨gg + 1, i, none⟩ = some (.int .i64 (c8 i : Int)))
  e7 : xe'.u7 = slc (some ⟨gg, 0, none⟩) 300 300
  e8 : xe'.u8 = slc (some ⟨gg + 1, 0, none⟩) 40 40
  e5 : xe'.m5 = xe.m5
  e6 : xe'.m6 = xe.m6
  e9 : xe'.n9 = xe.n9
  e10 : xe'.n10 = xe.n10
def Same5 (x y : Ex) : Prop := y.m5 = x.m5 ∧ y.m6 = x.m6 ∧ y.n9 = x.n9 ∧ y.n10 = x.n10
theorem Same5.new {x y : Ex} (h1 : y.m5 = x.m5) (h2 : y.m6 = x.m6) (h3 : y.n9 = x.n9) (h4 : y.n10 = x.n10) : Same5 x y := ⟨h1, h2, h3, h4⟩
theorem Same5.tok {x y : Ex} (h : Same5 x y) (q : Nat) (ts : List Value) : Same5 x { y with q := q, ts := ts } := h
set_option maxHeartbeats 16000000 in
set_option maxRecDepth 100000 in
theorem rwords_any (ga N1 : Nat) (l1 : Nat → Nat) (gb N2 : Nat) (l2 : Nat → Nat) (w : World) (h : Rg w R s k out most xe) (hq : xe.q ≤ out.length) (hA : Wz w R ga N1 l1) (hB : Wz w R gb N2 l2) :
    Calls Tryz.prog 47 #[.pointer (some ⟨R, 0, none⟩), .slice (some ⟨ga, 0, none⟩) N1 N1, .slice (some ⟨gb, 0, none⟩) N2 N2] w fun e w' => e = .returned (.tuple #[]) ∧
      ((∃ k' out' xe', Run (tokStep (tv s) (8 * s.size) most l1 N1 l2 N2) (k, out) (.ok k' out') ∧ Rg w' R s k' out' most xe' ∧ xe'.q ≤ out'.length ∧ KR R (fun _ => False) w w' ∧ Trd0 s k out most l1 N1 l2 N2 w.heap.size xe w' k' out' xe') ∨ (∃ er, Run (tokStep (tv s) (8 * s.size) most l1 N1 l2 N2) (k, out) (.err er) ∧ Rf w' R (eN er) ∧ Below R w w')) := by
  have hmk1 : ∀ w, (Instr.makeSlice 38 (.int .i64 300) (.int .i64 300)).run Tryz.prog w = .ok (.slice (some ⟨w.heap.size, 0, none⟩) 300 300) (w.alloc (.cells (madeCells #[.int .i64 0] 300) 3)) := fun w => mk_ints 300 (by omega) w
  have hmk2 : ∀ w, (Instr.makeSlice 38 (.int .i64 40) (.int .i64 40)).run Tryz.prog w = .ok (.slice (some ⟨w.heap.size, 0, none⟩) 40 40) (w.alloc (.cells (madeCells #[.int .i64 0] 40) 3)) := fun w => mk_ints 40 (by omega) w
  have hR := h.lt
  have c7 := h.uses7
  have c8 := h.uses8
  have f7 := h.free 7
  have f8 := h.free 8
  obtain ⟨W4, hW4⟩ : ∃ W4, W4 = wW w R := ⟨_, rfl⟩
  obtain ⟨g, hg⟩ : ∃ g, g = w.heap.size := ⟨_, rfl⟩
  have HGE := hide hg
  obtain ⟨h4, hrw4⟩ := h.opened
  have hbu4 := wW_but w R
  have hus := wW_uses w R k
  have hsz4 := wW_size w R
  rw [← hW4] at h4 hrw4 hbu4 hus hsz4
  rw [← hg] at h4 hus hsz4
  have hr2 := h.row2
  have hr11 := h.row11
  have hK0 : KR R (fun _ => False) w W4 := KR.of hbu4 hrw4
  have hWK : Wk W4 R g s (fun _ => 0) (fun _ => 0) W4 k out most { xe with u7 := slc (some ⟨g, 0, none⟩) 300 300, u8 := slc (some ⟨g + 1, 0, none⟩) 40 40 } := ⟨h4, rfl, rfl, hq, hus.1, hus.2, KR.refl _ _ _, by omega, by rw [hrw4.1]; omega, by rw [hrw4.2]; omega, hsz4⟩
  have HA4 := hide (hA.kr hK0 (fun q => q))
  have HB4 := hide (hB.kr hK0 (fun q => q))
  have hgag : ga < g := by have := hA.lt; omega
  have hgbg : gb < g := by have := hB.lt; omega
  have hN1 := hA.few
  have hN2 := hB.few
  have HBW4 := hide (hbu4.belowR hR)
  have H4 := hide h4
  have HWK := hide hWK
  have HKF : Hid (∀ w', KR R (fun j => j = g ∨ j = g + 1) W4 w' → KR R (fun _ => False) w w') := fun w' hk => ((hK0.mono (T := fun j => j = g ∨ j = g + 1) (fun _ _ q => q.elim)).trans hk).mono (fun i hi q => by rcases q with q | q <;> omega)
  have hW5 := hW4
  unfold wW at hW5
  have HE := hide hW5
  obtain ⟨f, hf⟩ : ∃ f, f = tokStep (tv s) (8 * s.size) most l1 N1 l2 N2 := ⟨_, rfl⟩
  rw [← hf]
  have Hf := hide hf
  have HSTEP : Hid (∀ a, f a = tokStep (tv s) (8 * s.size) most l1 N1 l2 N2 a) := fun a => by rw [unhide Hf]
  have hfew := h.few
  have hlow := h.low
  clear h h4 hW4 hW5 hg hA hB hus hsz4 hbu4 hrw4 hK0 hWK hf hr2 hr11
  go_enter Tryz.func47, Tryz.ntmps47
  go_wp2
  rw [← unhide HE]
  clear hmk1 hmk2 c7 c8 f7 f8 HE
  go_loopw [6, 7, 8, 9, 10] (fun _ _ _ _ _ wr => (∃ kq oq xq c7 c8, Hid (Wk W4 R g s c7 c8 wr kq oq most xq) ∧ Hid (∀ r, Run f (kq, oq) r → Run f (k, out) r) ∧ Hid (Trc (tv s) (8 * s.size) most l1 N1 l2 N2 (k, out) xe.ts (kq, oq) xq.ts c7 c8) ∧ Hid (Same5 xe xq)) ∨ (∃ er, Hid (Rf wr R (eN er)) ∧ Hid (Run f (k, out) (.err er)) ∧ Hid (Below R w wr))) (fun _ _ _ _ _ wr => msr wr R (8 * s.size))
  case atStart => exact .inl ⟨k, out, _, _, _, HWK, fun r h => h, Trc.start, Same5.new rfl rfl rfl rfl⟩
  case round =>
    clear HWK
    rcases hrel with ⟨kq, oq, xq, c7, c8, HQ, HRUN, HTR, HS5⟩ | ⟨er, HRF, HRE, HBE⟩
    rotate_left
    · have HO := hide (rok_no wr (unhide HRF))
      go_wp2_with fail
      refine (unhide HO).mono ?_; rintro e w1 ⟨rfl, rfl⟩
      go_wp2
      go_end0
      exact ⟨rfl, .inr ⟨er, unhide HRE, unhide HRF, unhide HBE⟩⟩
    have HO := hide (rok_yes wr (unhide HQ).rg)
    have hAz := (unhide HQ).wz (unhide HA4) hgag
    have HWD := hide (rword_any ga N1 l1 wr (unhide HQ).rg hAz.ws hAz.le hAz.few hAz.all)
    have HMW : Hid (msr wr R (8 * s.size) = 1 + (8 * s.size - kq)) := (unhide HQ).rg.msr _
    have HBR := hide ((unhide HBW4).trans ((unhide HQ).bel ⟨_, _, _, unhide H4⟩))
    have hRr := (unhide HQ).rg.lt
    clear hAz
    go_wp2_with fail
    refine (unhide HO).mono ?_; rintro e wq ⟨rfl, hwq⟩; replace hwq := hwq.symm; subst hwq
    go_wp2_with fail
    refine (unhide HWD).mono ?_
    rintro e w5 (⟨i, hwd, hiN, hpos, rfl, h5, hb5, hr5⟩ | ⟨hwd, rfl, h5, hb5⟩)
    rotate_left
    · have HFIN : Hid (Run f (k, out) (.err .text)) := unhide HRUN _ (.done (by rw [unhide HSTEP]; unfold tokStep; simp only [hwd]))
      have HO5 := hide (rok_no w5 h5)
      have H5 := hide h5
      have HB5 := hide ((unhide HBR).trans (hb5.belowR hRr))
      clear HWD hwd h5
      go_wp2_with fail
      refine (unhide HO5).mono ?_; rintro e w1 ⟨rfl, rfl⟩
      go_wp2
      refine bodyPost_ret (results_none rfl _ _ _) rfl ?_
      exact ⟨rfl, .inr ⟨.text, unhide HFIN, unhide H5, unhide HB5⟩⟩
    have HO5 := hide (rok_yes w5 h5)
    have hi300 : i < 300 := by omega
    have hii : (i : Int) < 300 := by omega
    obtain ⟨y, hyc, hyk, cy, fy⟩ := (unhide HQ).count7 i hi300
    have hgr := (unhide HQ).ltR
    have hgl := (unhide HQ).lt
    have cy5 : w5.cell? ⟨g, i, none⟩ = some (.int .i64 (y : Int)) := (hb5.cell (p := ⟨g, i, none⟩) (by show g < wr.heap.size; omega) (by show ¬ g = R; omega)).trans cy
    have fy5 : w5.frozen? ⟨g, i, none⟩ = false := (hb5.frozen (p := ⟨g, i, none⟩) (by show g < wr.heap.size; omega) (by show ¬ g = R; omega)).trans fy
    have c57 : w5.cell? ⟨R, 7, none⟩ = some (.slice (some ⟨g, 0, none⟩) 300 300) := by rw [← (unhide HQ).e7]; exact h5.uses7
    obtain ⟨y1, hy1⟩ : ∃ y1, y1 = y + 1 := ⟨_, rfl⟩
    have zy : (y : Int) + 1 = (y1 : Int) := by omega
    have hyl : y ≤ 160000 := by have := (unhide HQ).rg.within; omega
    obtain ⟨k5, hk5⟩ : ∃ k5, k5 = kq + l1 i := ⟨_, rfl⟩
    have H6 := hide (((unhide HQ).but hb5 hr5 (by rw [hk5]; exact h5) (show kq ≤ k5 by omega)).use7 i y1 hi300 (by rw [hy1, hyc]) (by omega))
    obtain ⟨d7, hd7⟩ : ∃ q, q = bump c7 i := ⟨_, rfl⟩
    rw [← hd7] at H6
    have HD7 := hide hd7
    clear hd7 hyc
    have HKP : Hid (kq < k5) := by show _ < _; omega
    have HK5 := hide hk5
    have HW := hide hwd
    clear HWD hwd h5 hb5 hr5 cy fy hy1 hk5
    by_cases h256 : i = 256
    · have g1 : ((i : Int) == 256) = true := by simp; omega
      have HFIN : Hid (Run f (k, out) (.ok k5 oq)) := unhide HRUN _ (.done (by rw [unhide HSTEP]; unfold tokStep; simp only [unhide HW]; rw [if_neg (by omega), if_pos h256, ← unhide HK5]))
      have HTD : Hid (∀ gg, g = gg → Trd0 s k out most l1 N1 l2 N2 gg xe (w5.setCell ⟨g, i, none⟩ (.int .i64 (y1 : Nat))) k5 oq xq) := fun gg eg => by
        subst eg
        refine ⟨⟨kq, c7, c8, unhide HTR, by rw [← h256]; exact unhide HW, by rw [← h256]; exact unhide HK5, fun j hj => ?_, fun j hj => ?_⟩, Subtype.ext (unhide H6).e7, Subtype.ext (unhide H6).e8, (unhide HS5).1, (unhide HS5).2.1, (unhide HS5).2.2.1, (unhide HS5).2.2.2⟩
        · rw [← h256, ← unhide HD7]; exact ((unhide H6).us7 j hj).1.2
        · exact ((unhide H6).us8 j hj).1.2
      clear h256
      go_wp2_with fail
      refine (unhide HO5).mono ?_; rintro e wq ⟨rfl, hwq⟩; replace hwq := hwq.symm; subst hwq
      go_wp2
      refine bodyPost_ret (results_none rfl _ _ _) rfl ?_
      refine ⟨rfl, .inl ⟨k5, oq, xq, unhide HFIN, (unhide H6).rg, (unhide H6).qs, unhide HKF _ (unhide H6).kr, unhide HTD _ (unhide HGE)⟩⟩
    have g1 : ((i : Int) == 256) = false := by simp; omega
    by_cases hlt2 : i < 256
    · have g2 : decide ((i : Int) < 256) = true := by simp; omega
      go_wp2_with fail
      refine (unhide HO5).mono ?_; rintro e wq ⟨rfl, hwq⟩; replace hwq := hwq.symm; subst hwq
      obtain ⟨w6, hw6⟩ : ∃ w6, w6 = w5.setCell ⟨g, i, none⟩ (.int .i64 (y1 : Nat)) := ⟨_, rfl⟩
      rw [← hw6] at H6
      obtain ⟨a6, cp6, c62, _, _⟩ := (unhide H6).rg.slice
      have c63 := (unhide H6).rg.mst
      have hos := (unhide H6).rg.small
      have HE6 := hide hw6
      by_cases hroom : oq.length < most
      rotate_left
      · have g3 : decide ((most : Int) ≤ (oq.length : Int)) = true := by simp; omega
        have g3b : decide ((oq.length : Int) ≥ (most : Int)) = true := g3
        have g3n : decide (most ≤ oq.length) = true := by simp; omega
        have HFIN : Hid (Run f (k, out) (.err .bound)) := unhide HRUN _ (.done (by rw [unhide HSTEP]; unfold tokStep; simp only [unhide HW]; rw [if_pos hlt2, if_neg hroom]))
        have HFL := hide (fun n => rfail_new 2 (w6.drewN n) ((unhide H6).rg.drewN n) (.inr rfl))
        have HB6 := hide ((unhide HBW4).trans ((unhide H6).bel ⟨_, _, _, unhide H4⟩))
        have hR6 := (unhide H6).rg.lt
        clear hw6
        go_wp2
        rw [← unhide HE6]
        go_quiet (fail)
        go_wp2_with fail
        refine (unhide HFL _).mono ?_; rintro e w7 ⟨rfl, h7, hb7⟩
        go_wp2
        refine bodyPost_ret (results_none rfl _ _ _) rfl ?_
        exact ⟨rfl, .inr ⟨.bound, unhide HFIN, h7, (unhide HB6).trans ((But.quiet hb7).belowR hR6)⟩⟩
      have g3 : decide ((most : Int) ≤ (oq.length : Int)) = false := by simp; omega
      have g3b : decide ((oq.length : Int) ≥ (most : Int)) = false := g3
      have g3n : decide (most ≤ oq.length) = false := by simp; omega
      clear hw6
      go_wp2
      rw [← unhide HE6]
      go_quiet (fail)
      obtain ⟨w7, hw7⟩ : ∃ w7, w7 = w6.drewN nq := ⟨_, rfl⟩
      rw [← hw7]
      have H7 := hide ((unhide H6).below (w' := w7) (by rw [hw7]; exact below_drewN (Below.refl _ _) _))
      clear hw7 H6 HE6 g3 g3b g3n c62 c63 HO HO5 cy5 fy5 c57
      obtain ⟨b, hbb⟩ : ∃ b, b = UInt8.ofNat i := ⟨_, rfl⟩
      have hb8 : IntKind.u8.wrap (i : Int) = (b.toNat : Int) := by rw [hbb, UInt8.toNat_ofNat', IntKind.wrap_u8]; omega
      have hb8' : (i : Int) % 256 = (b.toNat : Int) := by rw [hbb, UInt8.toNat_ofNat']; omega
      have HTN : Hid (Trc (tv s) (8 * s.size) most l1 N1 l2 N2 (k, out) xe.ts (k5, oq ++ [b]) (xq.ts ++ [.int .u8 (b.toNat : Int), .int .i64 0, .int .i64 0]) d7 c8) := by
        have := Trc.byte (unhide HTR) (unhide HW) hlt2 hroom
        rw [← hbb, ← unhide HD7, ← unhide HK5] at this
        exact this
      have HNR : Hid (∀ r, Run f (k5, oq ++ [b]) r → Run f (k, out) r) := fun r hr => unhide HRUN r (.more (s' := (k5, oq ++ [b])) (by rw [unhide HSTEP]; unfold tokStep; simp only [unhide HW]; rw [if_pos hlt2, if_pos hroom, hbb, unhide HK5]) hr)
      obtain ⟨a, cp, cv, hown, _⟩ := (unhide H7).rg.slice
      have HOW := hide hown
      have HCV := hide cv
      have hR5 := (unhide H7).rg.lt
      have fP := (unhide H7).rg.free 2
      have hl4 : oq.length + 1 ≤ most := by omega
      have hl3 : oq.length ≤ 300000 := by omega
      have bz : Below w7.heap.size w7 (w7.alloc (.cells #[.int .u8 (b.toNat : Int)] 5)) := (Below.refl _ _).alloc (Nat.le_refl _) _
      clear hown hbb
      go_wp2_with (at_builtin; refine wpList_appB _ rfl (.tmp 56) (.tmp 59) rfl (R + 1) w7.heap.size (.slice a oq.length cp) oq b rfl rfl ((unhide HOW).alloc _) (alloc_new w7 _ _) (by omega) (by simp; omega) ?_)
      intro v3 w8 hown3 hgr3 hat3
      obtain ⟨a3, c3, rfl, _⟩ := own_shape hown3
      have hbP : w8.heap[R]? = (w7.alloc (.cells #[.int .u8 (b.toNat : Int)] 5)).heap[R]? := hgr3.block R (by simp; omega) (fun e => by have := (unhide HOW).lt R e.symm; omega)
      have cP3 : w8.cell? ⟨R, 2, none⟩ = some (.slice a oq.length cp) := (World.cell?_of_block hbP).trans ((bz.cell (p := ⟨R, 2, none⟩) hR5).trans (unhide HCV))
      have fP3 : w8.frozen? ⟨R, 2, none⟩ = false := (World.frozen?_of_block hbP).trans ((bz.frozen (p := ⟨R, 2, none⟩) hR5).trans fP)
      have hlen1 : (oq ++ [b]).length = oq.length + 1 := by simp
      have hza : (w7.alloc (.cells #[.int .u8 (b.toNat : Int)] 5)).heap.size = w7.heap.size + 1 := by simp
      have H8 : Hid (Wk W4 R g s d7 c8 (w8.setCell ⟨R, 2, none⟩ (.slice a3 (oq.length + 1) c3)) k5 (oq ++ [b]) most xq) := (unhide H7).pushed (b := b) (v' := .slice a3 (oq.length + 1) c3) (unhide HCV) bz (by rw [hlen1]; exact hown3) hgr3 (by rw [hza]; exact hat3) hl4
      have hq7 := (unhide H7).qs
      obtain ⟨at7, ct7, cv7, hown7⟩ := (unhide H7).tok
      have c811 : w8.cell? ⟨R, 11, none⟩ = some (.slice at7 xq.q ct7) := (World.cell?_of_block hbP).trans ((bz.cell (p := ⟨R, 11, none⟩) hR5).trans cv7)
      have f811 : w8.frozen? ⟨R, 11, none⟩ = false := (World.frozen?_of_block hbP).trans ((bz.frozen (p := ⟨R, 11, none⟩) hR5).trans ((unhide H7).rg.free 11))
      have hR8 : R < w8.heap.size := World.block_lt_of_cell? _ _ c811
      have HC8 : Hid (∀ v, (w8.setCell ⟨R, 2, none⟩ v).cell? ⟨R, 11, none⟩ = w8.cell? ⟨R, 11, none⟩) := fun v => World.cell?_setCell_other _ _ _ _ (by intro q; injection q with _ q; omega)
      clear hown3 hgr3 hat3 hbP hlen1 hza cv hown7 cv7 c811
      obtain ⟨at_, ct, cvt, hownt⟩ := (unhide H8).tok
      have hzt0 : (w8.setCell ⟨R, 2, none⟩ (.slice a3 (oq.length + 1) c3)).heap.size = w8.heap.size := (by simp [World.setCell])
      have c11 : w8.cell? ⟨R, 11, none⟩ = some (.slice at_ xq.q ct) := (by rw [← unhide HC8 (.slice a3 (oq.length + 1) c3)]; exact cvt)
      have f11 : w8.frozen? ⟨R, 11, none⟩ = false := f811
      have HOT := hide (hownt.alloc (.cells #[.int .u8 (b.toNat : Int), .int .i64 0, .int .i64 0] 51))
      have HOT0 := hide hownt
      have HCT := hide cvt
      have fT := (unhide H8).rg.free 11
      have hRt := (unhide H8).rg.lt
      have bzt : Below (w8.setCell ⟨R, 2, none⟩ (.slice a3 (oq.length + 1) c3)).heap.size (w8.setCell ⟨R, 2, none⟩ (.slice a3 (oq.length + 1) c3)) ((w8.setCell ⟨R, 2, none⟩ (.slice a3 (oq.length + 1) c3)).alloc (.cells #[.int .u8 (b.toNat : Int), .int .i64 0, .int .i64 0] 51)) := (Below.refl _ _).alloc (Nat.le_refl _) _
      have hzt : ((w8.setCell ⟨R, 2, none⟩ (.slice a3 (oq.length + 1) c3)).alloc (.cells #[.int .u8 (b.toNat : Int), .int .i64 0, .int .i64 0] 51)).heap.size = (w8.setCell ⟨R, 2, none⟩ (.slice a3 (oq.length + 1) c3)).heap.size + 1 := by simp
      have K0 : Hid (((w8.setCell ⟨R, 2, none⟩ (.slice a3 (oq.length + 1) c3)).alloc (.cells #[.int .u8 (b.toNat : Int), .int .i64 0, .int .i64 0] 51)).cell? ⟨w8.heap.size, 0, none⟩ = some (.int .u8 (b.toNat : Int))) := by show _ = _; rw [← hzt0]; exact cells_new _ [.int .u8 (b.toNat : Int), .int .i64 0, .int .i64 0] _ 0
      have K1 : Hid (((w8.setCell ⟨R, 2, none⟩ (.slice a3 (oq.length + 1) c3)).alloc (.cells #[.int .u8 (b.toNat : Int), .int .i64 0, .int .i64 0] 51)).cell? ⟨w8.heap.size, 1, none⟩ = some (.int .i64 0)) := by show _ = _; rw [← hzt0]; exact cells_new _ [.int .u8 (b.toNat : Int), .int .i64 0, .int .i64 0] _ 1
      have K2 : Hid (((w8.setCell ⟨R, 2, none⟩ (.slice a3 (oq.length + 1) c3)).alloc (.cells #[.int .u8 (b.toNat : Int), .int .i64 0, .int .i64 0] 51)).cell? ⟨w8.heap.size, 2, none⟩ = some (.int .i64 0)) := by show _ = _; rw [← hzt0]; exact cells_new _ [.int .u8 (b.toNat : Int), .int .i64 0, .int .i64 0] _ 2
      have hbst : Hid (R + 1 ≤ ((w8.setCell ⟨R, 2, none⟩ (.slice a3 (oq.length + 1) c3)).alloc (.cells #[.int .u8 (b.toNat : Int), .int .i64 0, .int .i64 0] 51)).heap.size) := by show _ ≤ _; omega
      have hqt := (unhide H8).qs
      have hqm : xq.q ≤ 1000000 := by have := (unhide H8).rg.small; omega
      have HZT := hide hzt
      have HZ0 := hide hzt0
      clear hownt hzt0 hzt cvt
      go_wp2_with (at_builtin; refine wpList_appT _ rfl (.tmp 67) (.tmp 71) rfl (R + 1) w8.heap.size xq.q (.slice at_ xq.q ct) xq.ts b.toNat 0 0 rfl rfl (unhide HOT) (unhide K0) (unhide K1) (unhide K2) hqm (unhide hbst) ?_)
      intro vt wt hownt2 hgrt hatt
      obtain ⟨at2, ct2, rfl⟩ := own_shape3 hownt2
      have hbPt : wt.heap[R]? = ((w8.setCell ⟨R, 2, none⟩ (.slice a3 (oq.length + 1) c3)).alloc (.cells #[.int .u8 (b.toNat : Int), .int .i64 0, .int .i64 0] 51)).heap[R]? := hgrt.block R (by have := unhide HZT; omega) (fun e => by have := (unhide HOT0).lt R e.symm; omega)
      have cPt : wt.cell? ⟨R, 11, none⟩ = some (.slice at_ xq.q ct) := (World.cell?_of_block hbPt).trans ((bzt.cell (p := ⟨R, 11, none⟩) hRt).trans (unhide HCT))
      have fPt : wt.frozen? ⟨R, 11, none⟩ = false := (World.frozen?_of_block hbPt).trans ((bzt.frozen (p := ⟨R, 11, none⟩) hRt).trans fT)
      have HNT : Hid (Wk W4 R g s d7 c8 (wt.setCell ⟨R, 11, none⟩ (.slice at2 (xq.q + 1) ct2)) k5 (oq ++ [b]) most { xq with q := xq.q + 1, ts := xq.ts ++ [.int .u8 (b.toNat : Int), .int .i64 0, .int .i64 0] }) := (unhide H8).tokened (v' := .slice at2 (xq.q + 1) ct2) (unhide HCT) bzt hownt2 hgrt (by first | (rw [unhide HZT, unhide HZ0]; exact hatt) | (rw [unhide HZT]; exact hatt)) (by simp; omega)
      clear hownt2 hgrt hatt hbPt HOT HOT0 HCT c11 f11 K0 K1 K2 hbst HZT HZ0
      go_wp2
      go_roundw
      case rel => exact .inl ⟨k5, oq ++ [b], _, _, _, HNT, HNR, HTN, (unhide HS5).tok _ _⟩
      case measure => rw [(unhide HNT).rg.msr, unhide HMW]; have := unhide HKP; have := (unhide HNT).rg.within; omega
    · have g2 : decide ((i : Int) < 256) = false := by simp; omega
      obtain ⟨c, hc⟩ : ∃ c, c + 257 = i := ⟨i - 257, by omega⟩
      have zc : (i : Int) - 257 = (c : Int) := by omega
      have HTS : Hid (∀ o, f (kq, o) = if 29 ≤ c then .done (.err .text) else match get (tv s) (8 * s.size) k5 (lenBits c) with
          | none => .done (.err .text)
          | some x =>
            match wd (tv s) (8 * s.size) l2 N2 (k5 + lenBits c) with
            | none => .done (.err .text)
            | some d => if 30 ≤ d then .done (.err .text) else
              match get (tv s) (8 * s.size) (k5 + lenBits c + l2 d) (distBits d) with
              | none => .done (.err .text)
              | some y => if o.length < dists.getD d 0 + y then .done (.err .text) else if most < o.length + (lens.getD c 0 + x) then .done (.err .bound) else .more (k5 + lenBits c + l2 d + distBits d, copied o (dists.getD d 0 + y) (lens.getD c 0 + x))) := fun o => by
        rw [unhide HSTEP]
        unfold tokStep
        simp only [unhide HW]
        rw [if_neg hlt2, if_neg h256, show i - 257 = c by omega, unhide HK5]
        by_cases h29 : 29 ≤ c
        · rw [if_pos h29, if_pos (by omega)]
        · rw [if_neg h29, if_neg (by omega)]
          cases get (tv s) (8 * s.size) k5 (lenBits c) with
          | none => rfl
          | some x => rfl
      have hcl : c < 300 := by omega
      have HM0 : Hid (∀ x d y, c < 29 → get (tv s) (8 * s.size) k5 (lenBits c) = some x → wd (tv s) (8 * s.size) l2 N2 (k5 + lenBits c) = some d → d < 30 → get (tv s) (8 * s.size) (k5 + lenBits c + l2 d) (distBits d) = some y → ¬ oq.length < dists.getD d 0 + y → ¬ most < oq.length + (lens.getD c 0 + x) →
          Trc (tv s) (8 * s.size) most l1 N1 l2 N2 (k, out) xe.ts (k5 + lenBits c + l2 d + distBits d, copied oq (dists.getD d 0 + y) (lens.getD c 0 + x)) (xq.ts ++ [.int .u8 0, .int .i64 ((lens.getD c 0 + x : Nat) : Int), .int .i64 ((dists.getD d 0 + y : Nat) : Int)]) d7 (bump c8 d)) := fun x d y q29 hx hd h30 hy hb hm => by
        have h5 : kq + l1 i = k5 := (unhide HK5).symm
        have hic : i - 257 = c := by omega
        have q := @Trc.far (tv s) (8 * s.size) most l1 N1 l2 N2 (k, out) xe.ts kq i x d y oq xq.ts c7 c8 (unhide HTR) (unhide HW) (by omega) (by omega)
        rw [hic, h5, ← unhide HD7] at q
        exact q hx hd h30 hy hb hm
      clear hc h256 hlt2
      go_wp2_with fail
      refine (unhide HO5).mono ?_; rintro e wq ⟨rfl, hwq⟩; replace hwq := hwq.symm; subst hwq
      obtain ⟨w6, hw6⟩ : ∃ w6, w6 = w5.setCell ⟨g, i, none⟩ (.int .i64 (y1 : Nat)) := ⟨_, rfl⟩
      rw [← hw6] at H6
      have HE6 := hide hw6
      clear hw6
      by_cases h29 : c < 29
      rotate_left
      · have g3 : decide ((29 : Int) ≤ (c : Int)) = true := by simp; omega
        have g3b : decide ((c : Int) ≥ 29) = true := g3
        have HFIN : Hid (Run f (k, out) (.err .text)) := unhide HRUN _ (.done (by rw [unhide HTS, if_pos (by omega)]))
        have HFL := hide (rfail_new 1 w6 (unhide H6).rg (.inl rfl))
        have HB6 := hide ((unhide HBW4).trans ((unhide H6).bel ⟨_, _, _, unhide H4⟩))
        have hR6 := (unhide H6).rg.lt
        go_wp2_with fail
        rw [← unhide HE6]
        refine (unhide HFL).mono ?_; rintro e w7 ⟨rfl, h7, hb7⟩
        go_wp2
        refine bodyPost_ret (results_none rfl _ _ _) rfl ?_
        exact ⟨rfl, .inr ⟨.text, unhide HFIN, h7, (unhide HB6).trans (hb7.belowR hR6)⟩⟩
      have g3 : decide ((29 : Int) ≤ (c : Int)) = false := by simp; omega
      have g3b : decide ((c : Int) ≥ 29) = false := g3
      go_wp2
      rw [← unhide HE6]
      clear HO HO5 cy5 fy5 c57 HE6 g3 g3b
      have HLS := hide (rlens_any w6.drew)
      have entA : ∀ args w, (callFunc 30 args).run Tryz.prog w = .ok (.enter 30 args) w := enters_of Tryz.func30 (by kernel_rfl) rfl
      have entB : ∀ args w, (callFunc 33 args).run Tryz.prog w = .ok (.enter 33 args) w := enters_of Tryz.func33 (by kernel_rfl) rfl
      have entC : ∀ args w, (callFunc 45 args).run Tryz.prog w = .ok (.enter 45 args) w := enters_of Tryz.func45 (by kernel_rfl) rfl
      refine wp_region_any (by kernel_rfl) ?_
      change wpAny _ _ _ _ _ _ _ w6.drew
      refine wpAny_take (i := 1) (v := .int .i64 (c : Int)) rfl (by kernel_rfl) (by kernel_rfl) (by kernel_rfl) (fun _ _ _ h => h) (Or.inl ⟨by rfl, ?_⟩) ?_
      · intro w'
        go_simp
      simp only [Act.put, List.setIfInBounds_toArray]
      refine wpAny_take (i := 4) (v := .pointer (some ⟨R, 0, none⟩)) rfl (by kernel_rfl) (by kernel_rfl) (by kernel_rfl) (fun _ _ _ h => h) (Or.inl ⟨by rfl, ?_⟩) ?_
      · intro w'
        go_simp
      simp only [Act.put]
      refine wpAny_take (i := 5) (v := .int .i64 (c : Int)) rfl (by kernel_rfl) (by kernel_rfl) (by kernel_rfl) (fun _ _ _ h => h) (Or.inl ⟨by rfl, ?_⟩) ?_
      · intro w'
        go_simp
      simp only [Act.put]
      refine wpAny_ready (rs := [0]) (by kernel_rfl) (by simp) ?_
      refine AllReady.cons rfl (fun K hK => ?_) AllReady.nil
      refine step_calls rfl 30 [] #[] rfl [] (by simp) entA ?_
      refine (unhide HLS).mono ?_
      rintro e wa ⟨ga2, rfl, hga, hgl, hba⟩
      refine .inl ⟨_, rfl, ?_⟩
      refine hK _ _ ?_
      clear hK K HLS
      simp only [Act.put]
      have hHeld := hga c (by omega)
      have Hha := hide ((unhide H6).below (w' := wa) ((Below.refl _ _).drew.trans hba))
      have hgR : ga2 ≠ R := by have h1 := (unhide H6).rg.lt; have h2 : w6.drew.heap.size = w6.heap.size := rfl; omega
      have hgaw := World.block_lt_of_cell? _ _ hHeld
      simp only at hgaw
      obtain ⟨lc, hlc⟩ : ∃ q, q = lens.getD c 0 := ⟨_, rfl⟩
      rw [← hlc] at hHeld
      obtain ⟨lb, hlb⟩ : ∃ q, q = lenBits c := ⟨_, rfl⟩
      have HBT := hide (rlenBits_any c wa (by omega))
      rw [← hlb] at HBT
      have hlb5 : lb ≤ 32 := by rw [hlb]; have := lenBits_le c (by omega); omega
      have HGT := hide (rgetX lb wa (unhide Hha).rg hlb5 (by have := (unhide Hha).qs; have := (unhide Hha).rg.small; have := (unhide Hha).rg.low; omega))
      have hii : (c : Int) < 29 := by omega
      have HLC := hide hlc
      have HLB := hide hlb
      have hlcl : lc ≤ 24577 := by rw [hlc]; have := lens_le c (by omega); omega
      clear hga hba hlc hlb
      refine wpAny_of_held (S := fun w' => w'.cell? ⟨ga2, c, none⟩ = some (.int .i64 (lc : Int))) _ _ _ _ ?_
      refine wpAnyH_take (i := 2) (v := .pointer (some ⟨ga2, c, none⟩)) rfl (by kernel_rfl) (by kernel_rfl) (by kernel_rfl) (fun _ _ _ h => h) (Or.inl ⟨by rfl, ?_⟩) hHeld ?_
      · intro w' hSw
        go_simp
      simp only [Act.put]
      refine wpAnyH_take (i := 3) (v := .int .i64 (lc : Int)) rfl (by kernel_rfl) (by kernel_rfl) (by kernel_rfl) (fun _ _ _ h => h) (Or.inl ⟨by rfl, ?_⟩) hHeld ?_
      · intro w' hSw
        go_simp
      simp only [Act.put]
      refine wpAnyH_ready (rs := [6]) (by kernel_rfl) (by simp) ?_
      refine AllReadyH.cons rfl (fun K hK => ?_) AllReadyH.nil
      refine step_calls rfl 33 [.tmp 86] #[3] rfl [.int .i64 (c : Int)] (by simp [Act.eval]) entB ?_
      refine (unhide HBT).mono ?_
      rintro e wb ⟨rfl, hwb⟩
      replace hwb := hwb.symm
      subst hwb
      refine .inl ⟨_, rfl, ?_⟩
      refine hK.out _ _ hHeld (fun hHeld => ?_)
      clear hK K HBT
      simp only [Act.put]
      refine wpAnyH_ready (rs := [7]) (by kernel_rfl) (by simp) ?_
      refine AllReadyH.cons rfl (fun K hK => ?_) AllReadyH.nil
      refine step_calls rfl 45 [.tmp 85, .tmp 87] #[75, 3] rfl [.pointer (some ⟨R, 0, none⟩), .int .i64 (lb : Int)] (by simp [Act.eval]) entC ?_
      refine (unhide HGT).mono ?_
      rintro e w7 (⟨xx, hgx, hxl, rfl, hrg, hbr, hrw⟩ | ⟨hgx, rfl, hrx, hbr⟩)
      rotate_left
      ·
        have hHeld2 := (hbr.cell (p := ⟨ga2, c, none⟩) hgaw (by show ¬ ga2 = R; omega)).trans hHeld
        refine .inl ⟨_, rfl, ?_⟩
        refine hK.out _ _ hHeld2 (fun hHeld => ?_)
        have HX := hide hrx
        have hbra := (unhide Hha).bel ⟨_, _, _, unhide H4⟩
        have HBX := hide ((unhide HBW4).trans (hbra.trans (hbr.belowR (unhide Hha).rg.lt)))
        have HGXN := hide hgx
        have hBzb := (unhide Hha).wz (unhide HB4) hgbg
        have HWB : Hid (Ws w7 gb N2 l2) := fun i hi => (hbr.cell (p := ⟨gb, i, none⟩) hBzb.lt hBzb.ap1).trans (hBzb.ws i hi)
        have HLE := hide hBzb.le
        have HFW := hide hBzb.few
        have hRa : R < wa.heap.size := (unhide Hha).rg.lt
        have hwlc : IntKind.i64.wrap (lc : Int) = (lc : Int) := by rw [IntKind.wrap_i64]; omega
        clear hK K HGT hgx hrx hbr hHeld2 Hha hbra hBzb
        simp only [Act.put]
        refine wpAnyH_take (i := 8) (v := .int .i64 (lc : Int)) rfl (by kernel_rfl) (by kernel_rfl) (by kernel_rfl) (fun _ _ _ h => h) (Or.inl ⟨by rfl, ?_⟩) hHeld ?_
        · intro w' hSw
          go_simp
        simp only [Act.put]
        refine wpAnyH_ready (rs := [9]) (by kernel_rfl) (by simp) ?_
        refine AllReadyH.cons rfl (fun K hK => ?_) AllReadyH.nil
        go_simp
        refine hK.out _ _ hHeld (fun hHeld => ?_)
        clear hK K
        refine wpAnyH_done (by kernel_rfl) ?_ _
        clear hHeld hgaw entA entB entC
        have HFIN : Hid (Run f (k, out) (.err .text)) := unhide HRUN _ (.done (by have q := unhide HGXN; rw [unhide HLB] at q; rw [unhide HTS, if_neg (by omega), q]))
        have HWX := hide (rword_bad gb N2 l2 w7 (unhide HX).bad (unhide HWB) (unhide HLE) (unhide HFW))
        have HOX := hide (rok_no w7 (unhide HX).bad)
        go_wp2_with fail
        refine (unhide HWX).mono ?_; rintro e wq ⟨rfl, hwq⟩; replace hwq := hwq.symm; subst hwq
        go_wp2_with fail
        refine (unhide HOX).mono ?_; rintro e wq ⟨rfl, hwq⟩; replace hwq := hwq.symm; subst hwq
        go_wp2_with fail
        refine (unhide HOX).mono ?_; rintro e wq ⟨rfl, hwq⟩; replace hwq := hwq.symm; subst hwq
        go_wp2
        refine bodyPost_ret (results_none rfl _ _ _) rfl ?_
        exact ⟨rfl, .inr ⟨.text, unhide HFIN, (unhide HX).bad, unhide HBX⟩⟩
      have hHeld2 := (hbr.cell (p := ⟨ga2, c, none⟩) hgaw (by show ¬ ga2 = R; omega)).trans hHeld
      refine .inl ⟨_, rfl, ?_⟩
      refine hK.out _ _ hHeld2 (fun hHeld => ?_)
      have H7 := hide ((unhide Hha).but hbr hrw hrg (by omega))
      have hxl2 : xx < 8192 := Nat.lt_of_lt_of_le hxl (Nat.pow_le_pow_right (n := 2) (j := 13) (by omega) (by have := unhide HLB; rw [this]; have := lenBits_le c (by omega); omega))
      obtain ⟨n, hn⟩ : ∃ q, q = lc + xx := ⟨_, rfl⟩
      have zn : (lc : Int) + (xx : Int) = (n : Int) := by omega
      have hln : n ≤ 40000 := by omega
      have hwn : IntKind.i64.wrap (n : Int) = (n : Int) := by rw [IntKind.wrap_i64]; omega
      have HNn := hide hn
      have HGXn := hide hgx
      clear hK K HGT hgx hrg hbr hrw hHeld2 hn Hha
      simp only [Act.put]
      refine wpAnyH_take (i := 8) (v := .int .i64 (n : Int)) rfl (by kernel_rfl) (by kernel_rfl) (by kernel_rfl) (fun _ _ _ h => h) (Or.inl ⟨by rfl, ?_⟩) hHeld ?_
      · intro w' hSw
        go_simp
      simp only [Act.put]
      refine wpAnyH_ready (rs := [9]) (by kernel_rfl) (by simp) ?_
      refine AllReadyH.cons rfl (fun K hK => ?_) AllReadyH.nil
      go_simp
      refine hK.out _ _ hHeld (fun hHeld => ?_)
      clear hK K
      refine wpAnyH_done (by kernel_rfl) ?_ _
      clear hHeld hgaw entA entB entC
      have hn3 : 3 ≤ n := by have h1 := unhide HLC; have h2 := lens_le c (by omega); have h3 := unhide HNn; omega
      have HLN : Hid (n = lens.getD c 0 + xx) := by show _ = _; rw [unhide HNn, unhide HLC]
      have HGL : Hid (get (tv s) (8 * s.size) k5 (lenBits c) = some xx) := by show _ = _; rw [← unhide HLB]; exact unhide HGXn
      obtain ⟨k7, hk7⟩ : ∃ k7, k7 = k5 + lb := ⟨_, rfl⟩
      have HK7 : Hid (k7 = k5 + lenBits c) := by show _ = _; rw [hk7, unhide HLB]
      have HM1 : Hid (∀ d y, wd (tv s) (8 * s.size) l2 N2 k7 = some d → d < 30 → get (tv s) (8 * s.size) (k7 + l2 d) (distBits d) = some y → ¬ oq.length < dists.getD d 0 + y → ¬ most < oq.length + n →
          Trc (tv s) (8 * s.size) most l1 N1 l2 N2 (k, out) xe.ts (k7 + l2 d + distBits d, copied oq (dists.getD d 0 + y) n) (xq.ts ++ [.int .u8 0, .int .i64 (n : Int), .int .i64 ((dists.getD d 0 + y : Nat) : Int)]) d7 (bump c8 d)) := fun d y => by
        rw [unhide HLN, unhide HK7]
        exact unhide HM0 xx d y h29 (unhide HGL)
      rw [← hk7] at H7
      have hk57 : k5 ≤ k7 := by omega
      have hBz := (unhide H7).wz (unhide HB4) hgbg
      have HWD2 := hide (rword_any gb N2 l2 w7 (unhide H7).rg hBz.ws hBz.le hBz.few hBz.all)
      have HB7 := hide ((unhide HBW4).trans ((unhide H7).bel ⟨_, _, _, unhide H4⟩))
      have hR7 := (unhide H7).rg.lt
      clear hBz hk7 HLC HLB HGXn HNn hlcl hlb5 zn hxl hgR hgl H6
      go_wp2_with fail
      refine (unhide HWD2).mono ?_
      rintro e w8 (⟨d, hwd2, hdN, hpos2, rfl, h8, hb8, hr8⟩ | ⟨hwd2, rfl, h8, hb8⟩)
      rotate_left
      · have HFIN : Hid (Run f (k, out) (.err .text)) := unhide HRUN _ (.done (by rw [unhide HTS, if_neg (by omega), unhide HGL]; simp only; rw [← unhide HK7, hwd2]))
        have HO8 := hide (rok_no w8 h8)
        have H8 := hide h8
        have HB8 := hide ((unhide HB7).trans (hb8.belowR hR7))
        clear HWD2 hwd2 h8
        go_wp2_with fail
        refine (unhide HO8).mono ?_; rintro e wq ⟨rfl, hwq⟩; replace hwq := hwq.symm; subst hwq
        go_wp2_with fail
        refine (unhide HO8).mono ?_; rintro e wq ⟨rfl, hwq⟩; replace hwq := hwq.symm; subst hwq
        go_wp2
        refine bodyPost_ret (results_none rfl _ _ _) rfl ?_
        exact ⟨rfl, .inr ⟨.text, unhide HFIN, unhide H8, unhide HB8⟩⟩
      have HO8 := hide (rok_yes w8 h8)
      have HDW := hide hwd2
      by_cases h30 : d < 30
      rotate_left
      · have g4 : decide ((30 : Int) ≤ (d : Int)) = true := by simp; omega
        have g4b : decide ((d : Int) ≥ 30) = true := g4
        have HFIN : Hid (Run f (k, out) (.err .text)) := unhide HRUN _ (.done (by rw [unhide HTS, if_neg (by omega), unhide HGL]; simp only; rw [← unhide HK7, hwd2]; simp only; rw [if_pos (by omega)]))
        have HFL := hide (rfail_new 1 w8 h8 (.inl rfl))
        have HB8 := hide ((unhide HB7).trans (hb8.belowR hR7))
        have hR8 := h8.lt
        clear HWD2 hwd2 h8
        go_wp2_with fail
        refine (unhide HO8).mono ?_; rintro e wq ⟨rfl, hwq⟩; replace hwq := hwq.symm; subst hwq
        go_wp2_with fail
        refine (unhide HFL).mono ?_; rintro e w9 ⟨rfl, h9, hb9⟩
        have HO9 := hide (rok_no w9 h9)
        have H9 := hide h9
        have HB9 := hide ((unhide HB8).trans (hb9.belowR hR8))
        clear h9
        go_wp2_with fail
        refine (unhide HO9).mono ?_; rintro e wq ⟨rfl, hwq⟩; replace hwq := hwq.symm; subst hwq
        go_wp2
        refine bodyPost_ret (results_none rfl _ _ _) rfl ?_
        exact ⟨rfl, .inr ⟨.text, unhide HFIN, unhide H9, unhide HB9⟩⟩
      have g4 : decide ((30 : Int) ≤ (d : Int)) = false := by simp; omega
      have g4b : decide ((d : Int) ≥ 30) = false := g4
      have hd40 : (d : Int) < 40 := by omega
      obtain ⟨y2, hyc2, hyk2, cy2, fy2⟩ := (unhide H7).count8 d (by omega)
      have hgl7 := (unhide H7).lt
      have cy8 : w8.cell? ⟨g + 1, d, none⟩ = some (.int .i64 (y2 : Int)) := (hb8.cell (p := ⟨g + 1, d, none⟩) (by show g + 1 < w7.heap.size; omega) (by show ¬ g + 1 = R; omega)).trans cy2
      have fy8 : w8.frozen? ⟨g + 1, d, none⟩ = false := (hb8.frozen (p := ⟨g + 1, d, none⟩) (by show g + 1 < w7.heap.size; omega) (by show ¬ g + 1 = R; omega)).trans fy2
      have c88 : w8.cell? ⟨R, 8, none⟩ = some (.slice (some ⟨g + 1, 0, none⟩) 40 40) := by rw [← (unhide H7).e8]; exact h8.uses8
      obtain ⟨y3, hy3⟩ : ∃ y3, y3 = y2 + 1 := ⟨_, rfl⟩
      have zy2 : (y2 : Int) + 1 = (y3 : Int) := by omega
      have hyl2 : y2 ≤ 160000 := by have := (unhide H7).rg.within; omega
      obtain ⟨k8, hk8⟩ : ∃ k8, k8 = k7 + l2 d := ⟨_, rfl⟩
      have H9 := hide (((unhide H7).but hb8 hr8 (by rw [hk8]; exact h8) (show k7 ≤ k8 by omega)).use8 d y3 (by omega) (by rw [hy3, hyc2]) (by omega))
      obtain ⟨d8, hd8⟩ : ∃ q, q = bump c8 d := ⟨_, rfl⟩
      rw [← hd8] at H9
      obtain ⟨w9, hw9⟩ : ∃ w9, w9 = w8.setCell ⟨g + 1, d, none⟩ (.int .i64 (y3 : Nat)) := ⟨_, rfl⟩
      rw [← hw9] at H9
      have HE9 := hide hw9
      have hk78 : k7 ≤ k8 := by omega
      have HM2 : Hid (∀ y, get (tv s) (8 * s.size) k8 (distBits d) = some y → ¬ oq.length < dists.getD d 0 + y → ¬ most < oq.length + n →
          Trc (tv s) (8 * s.size) most l1 N1 l2 N2 (k, out) xe.ts (k8 + distBits d, copied oq (dists.getD d 0 + y) n) (xq.ts ++ [.int .u8 0, .int .i64 (n : Int), .int .i64 ((dists.getD d 0 + y : Nat) : Int)]) d7 d8) := fun y => by
        rw [hk8, hd8]
        exact unhide HM1 d y hwd2 h30
      clear hd8 hyc2
      have HTS2 : Hid (f (kq, oq) = match get (tv s) (8 * s.size) k8 (distBits d) with
          | none => .done (.err .text)
          | some y => if oq.length < dists.getD d 0 + y then .done (.err .text) else if most < oq.length + n then .done (.err .bound) else .more (k8 + distBits d, copied oq (dists.getD d 0 + y) n)) := by
        show _ = _
        rw [unhide HTS, if_neg (by omega), unhide HGL]
        simp only
        rw [← unhide HK7, hwd2]
        simp only
        rw [if_neg (by omega), ← hk8, ← unhide HLN]
      clear HWD2 hwd2 h8 hb8 hr8 cy2 fy2 hy3 hw9 hk8 HTS HGL HLN HDW HK7
      go_wp2_with fail
      refine (unhide HO8).mono ?_; rintro e wq ⟨rfl, hwq⟩; replace hwq := hwq.symm; subst hwq
      go_wp2_with fail
      refine (unhide HO8).mono ?_; rintro e wq ⟨rfl, hwq⟩; replace hwq := hwq.symm; subst hwq
      go_wp2
      rw [← unhide HE9]
      clear HO8 cy8 fy8 c88 HE9 g4 g4b H7
      have HLS := hide (rdists_any w9.drew)
      have entA : ∀ args w, (callFunc 31 args).run Tryz.prog w = .ok (.enter 31 args) w := enters_of Tryz.func31 (by kernel_rfl) rfl
      have entB : ∀ args w, (callFunc 35 args).run Tryz.prog w = .ok (.enter 35 args) w := enters_of Tryz.func35 (by kernel_rfl) rfl
      have entC : ∀ args w, (callFunc 45 args).run Tryz.prog w = .ok (.enter 45 args) w := enters_of Tryz.func45 (by kernel_rfl) rfl
      refine wp_region_any (by kernel_rfl) ?_
      change wpAny _ _ _ _ _ _ _ w9.drew
      refine wpAny_take (i := 1) (v := .int .i64 (d : Int)) rfl (by kernel_rfl) (by kernel_rfl) (by kernel_rfl) (fun _ _ _ h => h) (Or.inl ⟨by rfl, ?_⟩) ?_
      · intro w'
        go_simp
      simp only [Act.put, List.setIfInBounds_toArray]
      refine wpAny_take (i := 4) (v := .pointer (some ⟨R, 0, none⟩)) rfl (by kernel_rfl) (by kernel_rfl) (by kernel_rfl) (fun _ _ _ h => h) (Or.inl ⟨by rfl, ?_⟩) ?_
      · intro w'
        go_simp
      simp only [Act.put]
      refine wpAny_take (i := 5) (v := .int .i64 (d : Int)) rfl (by kernel_rfl) (by kernel_rfl) (by kernel_rfl) (fun _ _ _ h => h) (Or.inl ⟨by rfl, ?_⟩) ?_
      · intro w'
        go_simp
      simp only [Act.put]
      refine wpAny_ready (rs := [0]) (by kernel_rfl) (by simp) ?_
      refine AllReady.cons rfl (fun K hK => ?_) AllReady.nil
      refine step_calls rfl 31 [] #[] rfl [] (by simp) entA ?_
      refine (unhide HLS).mono ?_
      rintro e wa ⟨ga2, rfl, hga, hgl, hba⟩
      refine .inl ⟨_, rfl, ?_⟩
      refine hK _ _ ?_
      clear hK K HLS
      simp only [Act.put]
      have hHeld := hga d (by omega)
      have Hha := hide ((unhide H9).below (w' := wa) ((Below.refl _ _).drew.trans hba))
      have hgR : ga2 ≠ R := by have h1 := (unhide H9).rg.lt; have h2 : w9.drew.heap.size = w9.heap.size := rfl; omega
      have hgaw := World.block_lt_of_cell? _ _ hHeld
      simp only at hgaw
      obtain ⟨lc, hlc⟩ : ∃ q, q = dists.getD d 0 := ⟨_, rfl⟩
      rw [← hlc] at hHeld
      obtain ⟨lb, hlb⟩ : ∃ q, q = distBits d := ⟨_, rfl⟩
      have HBT := hide (rdistBits_any d wa (by omega))
      rw [← hlb] at HBT
      have hlb5 : lb ≤ 32 := by rw [hlb]; have := distBits_le d (by omega); omega
      have HGT := hide (rgetX lb wa (unhide Hha).rg hlb5 (by have := (unhide Hha).qs; have := (unhide Hha).rg.small; have := (unhide Hha).rg.low; omega))
      have hii : (d : Int) < 30 := by omega
      have HLC := hide hlc
      have HLB := hide hlb
      have hlcl : lc ≤ 24577 := by rw [hlc]; have := dists_le d (by omega); omega
      clear hga hba hlc hlb
      refine wpAny_of_held (S := fun w' => w'.cell? ⟨ga2, d, none⟩ = some (.int .i64 (lc : Int))) _ _ _ _ ?_
      refine wpAnyH_take (i := 2) (v := .pointer (some ⟨ga2, d, none⟩)) rfl (by kernel_rfl) (by kernel_rfl) (by kernel_rfl) (fun _ _ _ h => h) (Or.inl ⟨by rfl, ?_⟩) hHeld ?_
      · intro w' hSw
        go_simp
      simp only [Act.put]
      refine wpAnyH_take (i := 3) (v := .int .i64 (lc : Int)) rfl (by kernel_rfl) (by kernel_rfl) (by kernel_rfl) (fun _ _ _ h => h) (Or.inl ⟨by rfl, ?_⟩) hHeld ?_
      · intro w' hSw
        go_simp
      simp only [Act.put]
      refine wpAnyH_ready (rs := [6]) (by kernel_rfl) (by simp) ?_
      refine AllReadyH.cons rfl (fun K hK => ?_) AllReadyH.nil
      refine step_calls rfl 35 [.tmp 118] #[3] rfl [.int .i64 (d : Int)] (by simp [Act.eval]) entB ?_
      refine (unhide HBT).mono ?_
      rintro e wb ⟨rfl, hwb⟩
      replace hwb := hwb.symm
      subst hwb
      refine .inl ⟨_, rfl, ?_⟩
      refine hK.out _ _ hHeld (fun hHeld => ?_)
      clear hK K HBT
      simp only [Act.put]
      refine wpAnyH_ready (rs := [7]) (by kernel_rfl) (by simp) ?_
      refine AllReadyH.cons rfl (fun K hK => ?_) AllReadyH.nil
      refine step_calls rfl 45 [.tmp 117, .tmp 119] #[75, 3] rfl [.pointer (some ⟨R, 0, none⟩), .int .i64 (lb : Int)] (by simp [Act.eval]) entC ?_
      refine (unhide HGT).mono ?_
      rintro e w10 (⟨xx, hgx, hxl, rfl, hrg, hbr, hrw⟩ | ⟨hgx, rfl, hrx, hbr⟩)
      rotate_left
      ·
        have hHeld2 := (hbr.cell (p := ⟨ga2, d, none⟩) hgaw (by show ¬ ga2 = R; omega)).trans hHeld
        refine .inl ⟨_, rfl, ?_⟩
        refine hK.out _ _ hHeld2 (fun hHeld => ?_)
        have HX := hide hrx
        have hbra := (unhide Hha).bel ⟨_, _, _, unhide H4⟩
        have HBX := hide ((unhide HBW4).trans (hbra.trans (hbr.belowR (unhide Hha).rg.lt)))
        have HGXN := hide hgx
        have hBzb := (unhide Hha).wz (unhide HB4) hgbg
        have HWB : Hid (Ws w10 gb N2 l2) := fun i hi => (hbr.cell (p := ⟨gb, i, none⟩) hBzb.lt hBzb.ap1).trans (hBzb.ws i hi)
        have HLE := hide hBzb.le
        have HFW := hide hBzb.few
        have hRa : R < wa.heap.size := (unhide Hha).rg.lt
        have hwlc : IntKind.i64.wrap (lc : Int) = (lc : Int) := by rw [IntKind.wrap_i64]; omega
        clear hK K HGT hgx hrx hbr hHeld2 Hha hbra hBzb
        simp only [Act.put]
        refine wpAnyH_take (i := 8) (v := .int .i64 (lc : Int)) rfl (by kernel_rfl) (by kernel_rfl) (by kernel_rfl) (fun _ _ _ h => h) (Or.inl ⟨by rfl, ?_⟩) hHeld ?_
        · intro w' hSw
          go_simp
        simp only [Act.put]
        refine wpAnyH_ready (rs := [9]) (by kernel_rfl) (by simp) ?_
        refine AllReadyH.cons rfl (fun K hK => ?_) AllReadyH.nil
        go_simp
        refine hK.out _ _ hHeld (fun hHeld => ?_)
        clear hK K
        refine wpAnyH_done (by kernel_rfl) ?_ _
        clear hHeld hgaw entA entB entC
        have HOX := hide (rok_no w10 (unhide HX).bad)
        have HRX : Hid (Run f (k, out) (.err .text)) := unhide HRUN _ (.done (by have q := unhide HGXN; rw [unhide HLB] at q; rw [unhide HTS2, q]))
        clear HWB HLE HFW HGXN HLC HLB hgR hgl hxl2
        go_wp2_with fail
        refine (unhide HOX).mono ?_; rintro e wq ⟨rfl, hwq⟩; replace hwq := hwq.symm; subst hwq
        have HOKF : Hid (∀ w', Below w10.heap.size w10 w' → Calls Tryz.prog 44 #[.pointer (some ⟨R, 0, none⟩)] w' fun e w'' => e = .returned (.bool false) ∧ w'' = w') := fun w' hb => rok_no w' ((unhide HX).below hb).bad
        have HRUNF : Hid (Run f (k, out) (.err .text)) := unhide HRX
        have hRf : R < w10.heap.size := (unhide HX).bad.lt
        go_wp2
        go_quiet (first | (go_at_call 44; first | exact Calls.quiet_of_same (unhide HOKF _ (by exact ⟨rfl, rfl, rfl, Nat.le_refl _, fun _ _ => rfl⟩)) | exact Calls.mono (unhide HOKF _ (by exact ⟨rfl, rfl, rfl, Nat.le_refl _, fun _ _ => rfl⟩)) (fun _ _ q => ⟨q.1, _, q.2⟩) | exact Calls.mono (unhide HOKF _ (by exact ⟨rfl, rfl, rfl, Nat.le_refl _, fun _ _ => rfl⟩)) (fun _ _ q => ⟨q.1, _, q.2.trans (World.drewN_drewN _ _ _).symm⟩)))
        go_wp2
        go_loopw [10] (fun i wj => i = .int .i64 0 ∧ Hid (Below w10.heap.size w10 wj)) (fun _ _ => 0)
        case atStart => exact ⟨rfl, (by exact ⟨rfl, rfl, rfl, Nat.le_refl _, fun _ _ => rfl⟩)⟩
        case round =>
          obtain ⟨rfl, HBj⟩ := hrel
          have hx12 := (unhide HX).below (unhide HBj)
          have hb12 := (unhide HBX).trans ((unhide HBj).mono (show R ≤ w10.heap.size by omega))
          obtain ⟨at_, nt, ct, xst, cvt, hownt, hnt⟩ := hx12.toks
          have HOT := hide hownt
          have HCT := hide cvt
          have HX12 := hide hx12
          have fT := hx12.bad.free 11
          have hRt := hx12.bad.lt
          have g9 : decide ((0 : Int) < (n : Int)) = true := by simp; omega
          clear hx12 hownt
          go_wp2_with fail
          refine (unhide HOKF _ (unhide HBj)).mono ?_; rintro e wq ⟨rfl, hwq⟩; replace hwq := hwq.symm; subst hwq
          go_wp2_with (at_builtin; refine wpList_appT _ rfl (.tmp 188) (.tmp 192) rfl (R + 1) wr.heap.size nt (.slice at_ nt ct) xst 0 (n : Int) (lc : Int) rfl rfl ((unhide HOT).alloc _) (by simp) (by simp) (by simp) (by omega) (by simp; omega) ?_)
          intro vt wt hownt2 hgrt hatt
          obtain ⟨at2, ct2, rfl⟩ := own_shape3 hownt2
          have bzt : Below wr.heap.size wr (wr.alloc (.cells #[.int .u8 0, .int .i64 (n : Int), .int .i64 (lc : Int)] 51)) := (Below.refl _ _).alloc (Nat.le_refl _) _
          have hbPt : wt.heap[R]? = (wr.alloc (.cells #[.int .u8 0, .int .i64 (n : Int), .int .i64 (lc : Int)] 51)).heap[R]? := hgrt.block R (by simp; omega) (fun e => by have := (unhide HOT).lt R e.symm; omega)
          have cPt : wt.cell? ⟨R, 11, none⟩ = some (.slice at_ nt ct) := (World.cell?_of_block hbPt).trans ((bzt.cell (p := ⟨R, 11, none⟩) hRt).trans (unhide HCT))
          have fPt : wt.frozen? ⟨R, 11, none⟩ = false := (World.frozen?_of_block hbPt).trans ((bzt.frozen (p := ⟨R, 11, none⟩) hRt).trans fT)
          have HRT := hide ((unhide HX12).more (v' := .slice at2 (nt + 1) ct2) (unhide HCT) (unhide HOT) bzt hgrt)
          clear hownt2 hgrt hatt hbPt HOT HCT cvt
          go_wp2
          go_roundw
          case rel => exact .inr ⟨.text, (unhide HRT).1, HRUNF, hb12.trans (unhide HRT).2⟩
          case measure => rw [(unhide HRT).1.msr (8 * s.size), unhide HMW]; omega
      have hHeld2 := (hbr.cell (p := ⟨ga2, d, none⟩) hgaw (by show ¬ ga2 = R; omega)).trans hHeld
      refine .inl ⟨_, rfl, ?_⟩
      refine hK.out _ _ hHeld2 (fun hHeld => ?_)
      have H10 := hide ((unhide Hha).but hbr hrw hrg (by omega))
      have hxl2 : xx < 8192 := Nat.lt_of_lt_of_le hxl (Nat.pow_le_pow_right (n := 2) (j := 13) (by omega) (by have := unhide HLB; rw [this]; have := distBits_le d (by omega); omega))
      obtain ⟨bk, hbk⟩ : ∃ q, q = lc + xx := ⟨_, rfl⟩
      have zbk : (lc : Int) + (xx : Int) = (bk : Int) := by omega
      have hlbk : bk ≤ 40000 := by omega
      have hwbk : IntKind.i64.wrap (bk : Int) = (bk : Int) := by rw [IntKind.wrap_i64]; omega
      have HNbk := hide hbk
      have HGXbk := hide hgx
      clear hK K HGT hgx hrg hbr hrw hHeld2 hbk Hha
      simp only [Act.put]
      refine wpAnyH_take (i := 8) (v := .int .i64 (bk : Int)) rfl (by kernel_rfl) (by kernel_rfl) (by kernel_rfl) (fun _ _ _ h => h) (Or.inl ⟨by rfl, ?_⟩) hHeld ?_
      · intro w' hSw
        go_simp
      simp only [Act.put]
      refine wpAnyH_ready (rs := [9]) (by kernel_rfl) (by simp) ?_
      refine AllReadyH.cons rfl (fun K hK => ?_) AllReadyH.nil
      go_simp
      refine hK.out _ _ hHeld (fun hHeld => ?_)
      clear hK K
      refine wpAnyH_done (by kernel_rfl) ?_ _
      clear hHeld hgaw entA entB entC
      have hbk1 : 1 ≤ bk := by have h1 := unhide HLC; have h2 := dists_le d (by omega); have h3 := unhide HNbk; omega
      have HTS3 : Hid (f (kq, oq) = if oq.length < bk then .done (.err .text) else if most < oq.length + n then .done (.err .bound) else .more (k8 + lb, copied oq bk n)) := by
        show _ = _
        have q := unhide HGXbk
        rw [unhide HLB] at q
        rw [unhide HTS2, q, unhide HNbk, unhide HLC, unhide HLB]
      have HM3 : Hid (¬ oq.length < bk → ¬ most < oq.length + n → Trc (tv s) (8 * s.size) most l1 N1 l2 N2 (k, out) xe.ts (k8 + lb, copied oq bk n) (xq.ts ++ [.int .u8 0, .int .i64 (n : Int), .int .i64 (bk : Int)]) d7 d8) := by
        have q := unhide HGXbk
        rw [unhide HLB] at q
        have q2 := unhide HM2 _ q
        rw [← unhide HLC, ← unhide HLB, ← unhide HNbk] at q2
        exact q2
      obtain ⟨k10, hk10⟩ : ∃ k10, k10 = k8 + lb := ⟨_, rfl⟩
      rw [← hk10] at H10 HTS3 HM3
      have hk810 : k8 ≤ k10 := by omega
      have HO10 : Hid (∀ w', Below w10.heap.size w10 w' → Calls Tryz.prog 44 #[.pointer (some ⟨R, 0, none⟩)] w' fun e w'' => e = .returned (.bool true) ∧ w'' = w') := fun w' hb => rok_yes w' (((unhide H10).rg.still hb).1)
      obtain ⟨a10, cp10, c102, _, _⟩ := (unhide H10).rg.slice
      have c103 := (unhide H10).rg.mst
      have hos := (unhide H10).rg.small
      have hqs := (unhide H10).qs
      have hR10 := (unhide H10).rg.lt
      have HB10 := hide ((unhide HBW4).trans ((unhide H10).bel ⟨_, _, _, unhide H4⟩))
      clear hk10 HLC HLB HGXbk HNbk HTS2 hlcl hlb5 zbk hxl hgR hgl H9 hxl2
      by_cases hbko : oq.length < bk
      · have g5 : decide ((oq.length : Int) < (bk : Int)) = true := by simp; omega
        have g5b : decide ((bk : Int) > (oq.length : Int)) = true := g5
        have g5n : decide (oq.length < bk) = true := by simp; omega
        have HRX : Hid (Run f (k, out) (.err .text)) := unhide HRUN _ (.done (by rw [unhide HTS3, if_pos hbko]))
        have HFL := hide (rfailX 1 w10 (unhide H10).rg (.inl rfl) (by omega))
        go_wp2_with fail
        refine (unhide HO10 _ (by exact ⟨rfl, rfl, rfl, Nat.le_refl _, fun _ _ => rfl⟩)).mono ?_; rintro e wq ⟨rfl, hwq⟩; replace hwq := hwq.symm; subst hwq
        go_wp2_with fail
        refine (unhide HFL).mono ?_; rintro e w11 ⟨rfl, h11, hb11⟩
        have HX := hide h11
        have HBX := hide ((unhide HB10).trans (hb11.belowR hR10))
        clear h11 hb11 HFL HO10 c102 c103 g5 g5b g5n
        have HOKF : Hid (∀ w', Below w11.heap.size w11 w' → Calls Tryz.prog 44 #[.pointer (some ⟨R, 0, none⟩)] w' fun e w'' => e = .returned (.bool false) ∧ w'' = w') := fun w' hb => rok_no w' ((unhide HX).below hb).bad
        have HRUNF : Hid (Run f (k, out) (.err .text)) := unhide HRX
        have hRf : R < w11.heap.size := (unhide HX).bad.lt
        go_wp2
        go_quiet (first | (go_at_call 44; first | exact Calls.quiet_of_same (unhide HOKF _ (by exact ⟨rfl, rfl, rfl, Nat.le_refl _, fun _ _ => rfl⟩)) | exact Calls.mono (unhide HOKF _ (by exact ⟨rfl, rfl, rfl, Nat.le_refl _, fun _ _ => rfl⟩)) (fun _ _ q => ⟨q.1, _, q.2⟩) | exact Calls.mono (unhide HOKF _ (by exact ⟨rfl, rfl, rfl, Nat.le_refl _, fun _ _ => rfl⟩)) (fun _ _ q => ⟨q.1, _, q.2.trans (World.drewN_drewN _ _ _).symm⟩)))
        go_wp2
        go_loopw [10] (fun i wj => i = .int .i64 0 ∧ Hid (Below w11.heap.size w11 wj)) (fun _ _ => 0)
        case atStart => exact ⟨rfl, (by exact ⟨rfl, rfl, rfl, Nat.le_refl _, fun _ _ => rfl⟩)⟩
        case round =>
          obtain ⟨rfl, HBj⟩ := hrel
          have hx12 := (unhide HX).below (unhide HBj)
          have hb12 := (unhide HBX).trans ((unhide HBj).mono (show R ≤ w11.heap.size by omega))
          obtain ⟨at_, nt, ct, xst, cvt, hownt, hnt⟩ := hx12.toks
          have HOT := hide hownt
          have HCT := hide cvt
          have HX12 := hide hx12
          have fT := hx12.bad.free 11
          have hRt := hx12.bad.lt
          have g9 : decide ((0 : Int) < (n : Int)) = true := by simp; omega
          clear hx12 hownt
          go_wp2_with fail
          refine (unhide HOKF _ (unhide HBj)).mono ?_; rintro e wq ⟨rfl, hwq⟩; replace hwq := hwq.symm; subst hwq
          go_wp2_with (at_builtin; refine wpList_appT _ rfl (.tmp 188) (.tmp 192) rfl (R + 1) wr.heap.size nt (.slice at_ nt ct) xst 0 (n : Int) (bk : Int) rfl rfl ((unhide HOT).alloc _) (by simp) (by simp) (by simp) (by omega) (by simp; omega) ?_)
          intro vt wt hownt2 hgrt hatt
          obtain ⟨at2, ct2, rfl⟩ := own_shape3 hownt2
          have bzt : Below wr.heap.size wr (wr.alloc (.cells #[.int .u8 0, .int .i64 (n : Int), .int .i64 (bk : Int)] 51)) := (Below.refl _ _).alloc (Nat.le_refl _) _
          have hbPt : wt.heap[R]? = (wr.alloc (.cells #[.int .u8 0, .int .i64 (n : Int), .int .i64 (bk : Int)] 51)).heap[R]? := hgrt.block R (by simp; omega) (fun e => by have := (unhide HOT).lt R e.symm; omega)
          have cPt : wt.cell? ⟨R, 11, none⟩ = some (.slice at_ nt ct) := (World.cell?_of_block hbPt).trans ((bzt.cell (p := ⟨R, 11, none⟩) hRt).trans (unhide HCT))
          have fPt : wt.frozen? ⟨R, 11, none⟩ = false := (World.frozen?_of_block hbPt).trans ((bzt.frozen (p := ⟨R, 11, none⟩) hRt).trans fT)
          have HRT := hide ((unhide HX12).more (v' := .slice at2 (nt + 1) ct2) (unhide HCT) (unhide HOT) bzt hgrt)
          clear hownt2 hgrt hatt hbPt HOT HCT cvt
          go_wp2
          go_roundw
          case rel => exact .inr ⟨.text, (unhide HRT).1, HRUNF, hb12.trans (unhide HRT).2⟩
          case measure => rw [(unhide HRT).1.msr (8 * s.size), unhide HMW]; omega
      have g5 : decide ((oq.length : Int) < (bk : Int)) = false := by simp; omega
      have g5b : decide ((bk : Int) > (oq.length : Int)) = false := g5
      have g5n : decide (oq.length < bk) = false := by simp; omega
      go_wp2_with fail
      refine (unhide HO10 _ (by exact ⟨rfl, rfl, rfl, Nat.le_refl _, fun _ _ => rfl⟩)).mono ?_; rintro e wq ⟨rfl, hwq⟩; replace hwq := hwq.symm; subst hwq
      by_cases hroom : oq.length + n ≤ most
      rotate_left
      · have g6 : decide ((most : Int) < (oq.length : Int) + (n : Int)) = true := by simp; omega
        have g6b : decide ((oq.length : Int) + (n : Int) > (most : Int)) = true := g6
        have g6n : decide (most < oq.length + n) = true := by simp; omega
        have HRX : Hid (Run f (k, out) (.err .bound)) := unhide HRUN _ (.done (by rw [unhide HTS3, if_neg hbko, if_pos (by omega)]))
        have HFL := hide (fun q => rfailX 2 (w10.drewN q) ((unhide H10).rg.drewN q) (.inr rfl) (by omega))
        go_wp2
        go_quiet (first | (go_at_call 44; first | exact Calls.quiet_of_same (unhide HO10 _ (by exact ⟨rfl, rfl, rfl, Nat.le_refl _, fun _ _ => rfl⟩)) | exact Calls.mono (unhide HO10 _ (by exact ⟨rfl, rfl, rfl, Nat.le_refl _, fun _ _ => rfl⟩)) (fun _ _ q => ⟨q.1, _, q.2⟩) | exact Calls.mono (unhide HO10 _ (by exact ⟨rfl, rfl, rfl, Nat.le_refl _, fun _ _ => rfl⟩)) (fun _ _ q => ⟨q.1, _, q.2.trans (World.drewN_drewN _ _ _).symm⟩)))
        go_wp2_with fail
        refine (unhide HFL _).mono ?_; rintro e w11 ⟨rfl, h11, hb11⟩
        have HX := hide h11
        have HBX := hide ((unhide HB10).trans ((But.quiet hb11).belowR hR10))
        clear h11 hb11 HFL HO10 c102 c103 g5 g5b g5n g6 g6b g6n
        have HOKF : Hid (∀ w', Below w11.heap.size w11 w' → Calls Tryz.prog 44 #[.pointer (some ⟨R, 0, none⟩)] w' fun e w'' => e = .returned (.bool false) ∧ w'' = w') := fun w' hb => rok_no w' ((unhide HX).below hb).bad
        have HRUNF : Hid (Run f (k, out) (.err .bound)) := unhide HRX
        have hRf : R < w11.heap.size := (unhide HX).bad.lt
        go_wp2
        go_loopw [10] (fun i wj => i = .int .i64 0 ∧ Hid (Below w11.heap.size w11 wj)) (fun _ _ => 0)
        case atStart => exact ⟨rfl, (by exact ⟨rfl, rfl, rfl, Nat.le_refl _, fun _ _ => rfl⟩)⟩
        case round =>
          obtain ⟨rfl, HBj⟩ := hrel
          have hx12 := (unhide HX).below (unhide HBj)
          have hb12 := (unhide HBX).trans ((unhide HBj).mono (show R ≤ w11.heap.size by omega))
          obtain ⟨at_, nt, ct, xst, cvt, hownt, hnt⟩ := hx12.toks
          have HOT := hide hownt
          have HCT := hide cvt
          have HX12 := hide hx12
          have fT := hx12.bad.free 11
          have hRt := hx12.bad.lt
          have g9 : decide ((0 : Int) < (n : Int)) = true := by simp; omega
          clear hx12 hownt
          go_wp2_with fail
          refine (unhide HOKF _ (unhide HBj)).mono ?_; rintro e wq ⟨rfl, hwq⟩; replace hwq := hwq.symm; subst hwq
          go_wp2_with (at_builtin; refine wpList_appT _ rfl (.tmp 188) (.tmp 192) rfl (R + 1) wr.heap.size nt (.slice at_ nt ct) xst 0 (n : Int) (bk : Int) rfl rfl ((unhide HOT).alloc _) (by simp) (by simp) (by simp) (by omega) (by simp; omega) ?_)
          intro vt wt hownt2 hgrt hatt
          obtain ⟨at2, ct2, rfl⟩ := own_shape3 hownt2
          have bzt : Below wr.heap.size wr (wr.alloc (.cells #[.int .u8 0, .int .i64 (n : Int), .int .i64 (bk : Int)] 51)) := (Below.refl _ _).alloc (Nat.le_refl _) _
          have hbPt : wt.heap[R]? = (wr.alloc (.cells #[.int .u8 0, .int .i64 (n : Int), .int .i64 (bk : Int)] 51)).heap[R]? := hgrt.block R (by simp; omega) (fun e => by have := (unhide HOT).lt R e.symm; omega)
          have cPt : wt.cell? ⟨R, 11, none⟩ = some (.slice at_ nt ct) := (World.cell?_of_block hbPt).trans ((bzt.cell (p := ⟨R, 11, none⟩) hRt).trans (unhide HCT))
          have fPt : wt.frozen? ⟨R, 11, none⟩ = false := (World.frozen?_of_block hbPt).trans ((bzt.frozen (p := ⟨R, 11, none⟩) hRt).trans fT)
          have HRT := hide ((unhide HX12).more (v' := .slice at2 (nt + 1) ct2) (unhide HCT) (unhide HOT) bzt hgrt)
          clear hownt2 hgrt hatt hbPt HOT HCT cvt
          go_wp2
          go_roundw
          case rel => exact .inr ⟨.bound, (unhide HRT).1, HRUNF, hb12.trans (unhide HRT).2⟩
          case measure => rw [(unhide HRT).1.msr (8 * s.size), unhide HMW]; omega
      have g6 : decide ((most : Int) < (oq.length : Int) + (n : Int)) = false := by simp; omega
      have g6b : decide ((oq.length : Int) + (n : Int) > (most : Int)) = false := g6
      have g6n : decide (most < oq.length + n) = false := by simp; omega
      have HT3 := hide (unhide HM3 hbko (by omega))
      have HNR : Hid (∀ r, Run f (k10, copied oq bk n) r → Run f (k, out) r) := fun r hr => unhide HRUN r (.more (s' := (k10, copied oq bk n)) (by rw [unhide HTS3, if_neg hbko, if_neg (by omega)]) hr)
      go_wp2
      go_quiet (first | (go_at_call 44; first | exact Calls.quiet_of_same (unhide HO10 _ (by exact ⟨rfl, rfl, rfl, Nat.le_refl _, fun _ _ => rfl⟩)) | exact Calls.mono (unhide HO10 _ (by exact ⟨rfl, rfl, rfl, Nat.le_refl _, fun _ _ => rfl⟩)) (fun _ _ q => ⟨q.1, _, q.2⟩) | exact Calls.mono (unhide HO10 _ (by exact ⟨rfl, rfl, rfl, Nat.le_refl _, fun _ _ => rfl⟩)) (fun _ _ q => ⟨q.1, _, q.2.trans (World.drewN_drewN _ _ _).symm⟩)))
      go_wp2
      clear HO10 c102 c103 g5 g5b g5n g6 g6b g6n HTS3 HRUN HM0 HM1 HM2 HM3
      have HHA0 := hide ((unhide H10).below (w' := w10.drewN nq) (below_drewN (Below.refl _ _) _))
      go_loopw [10] (fun iv wj => ∃ j : Nat, j ≤ n ∧ iv = .int .i64 j ∧ Hid (Wk W4 R g s d7 d8 wj k10 (copied oq bk j) most xq)) (fun iv _ => n - (intOf iv).toNat)
      case atStart => exact ⟨0, by omega, rfl, HHA0⟩
      case round =>
        clear HHA0 H10
        obtain ⟨j, hj, rfl, HJ⟩ := hrel
        by_cases hltj : j < n
        · have g7 : decide ((j : Int) < (n : Int)) = true := by simp; omega
          have HOJ := hide (rok_yes wr (unhide HJ).rg)
          have hcl2 := copied_length oq bk j
          obtain ⟨l, hl⟩ : ∃ l, l = copied oq bk j := ⟨_, rfl⟩
          rw [← hl] at HJ hcl2
          obtain ⟨a, cp, cv, hown, hgx⟩ := (unhide HJ).rg.slice
          obtain ⟨go_, rfl, hgP⟩ := hgx (by omega)
          obtain ⟨ix, hix⟩ : ∃ q, q = l.length - bk := ⟨_, rfl⟩
          have zix : (l.length : Int) - (bk : Int) = (ix : Int) := by omega
          have hixl : ix < l.length := by omega
          have hixi : (ix : Int) < (l.length : Int) := by omega
          obtain ⟨b, hbb⟩ : ∃ b, b = l[ix] := ⟨_, rfl⟩
          have cb : wr.cell? ⟨go_, ix, none⟩ = some (.int .u8 (b.toNat : Int)) := by
            rw [hown.cellAt ix (by omega), byteVals_at, List.getElem?_eq_getElem hixl, hbb]; rfl
          have HNX : Hid (copied oq bk (j + 1) = l ++ [b]) := by
            show copied oq bk j ++ [(copied oq bk j).getD ((copied oq bk j).length - bk) 0] = _
            rw [← hl, ← hix, hbb]
            congr 2
            simp [List.getElem?_eq_getElem hixl]
          have hll : l.length ≤ 300000 := by omega
          have hwx : IntKind.i64.wrap (ix : Int) = (ix : Int) := by rw [IntKind.wrap_i64]; omega
          have hml : l.length + 1 ≤ most := by omega
          have HOW := hide hown
          have hPl := (unhide HJ).rg.lt
          have hglt := (hown.lt go_ rfl).2
          have fP := (unhide HJ).rg.free 2
          have HCV := hide cv
          clear hl hown hix hbb hcl2
          have bz : Below wr.heap.size wr (wr.drew.alloc (.cells #[.int .u8 (b.toNat : Int)] 5)) := (Below.refl _ _).drew.alloc (Nat.le_refl _) _
          have hza : (wr.drew.alloc (.cells #[.int .u8 (b.toNat : Int)] 5)).heap.size = wr.heap.size + 1 := by show (wr.drew.alloc _).heap.size = wr.drew.heap.size + 1; simp
          have nP : ¬ go_ = R := by omega
          have hPa : R < (wr.drew.alloc (.cells #[.int .u8 (b.toNat : Int)] 5)).heap.size := by rw [hza]; omega
          have cq := alloc_new wr.drew (.int .u8 (b.toNat : Int)) 5
          have cva := (bz.cell (p := ⟨R, 2, none⟩) hPl).trans cv
          have cba := (bz.cell (p := ⟨go_, ix, none⟩) hglt).trans cb
          have fPa := (bz.frozen (p := ⟨R, 2, none⟩) hPl).trans fP
          have HOa := hide ((unhide HOW).drew.alloc (.cells #[.int .u8 (b.toNat : Int)] 5))
          go_wp2_with fail
          refine (unhide HOJ).mono ?_; rintro e wq ⟨rfl, hwq⟩; replace hwq := hwq.symm; subst hwq
          clear HOJ
          go_wp2_with fail
          go_region_law (first | (refine step_appB rfl (.tmp 166) (.tmp 180) rfl (R + 1) wr.heap.size (.slice (some ⟨go_, 0, none⟩) l.length cp) l b (by simp [Act.eval]) (by simp [Act.eval]) (unhide HOa) cq (by omega) (by show R + 1 ≤ (wr.drew.alloc _).heap.size; rw [hza]; omega) ?_; intro v2 w2 hown2 hgr2 hat2; obtain ⟨a2, c2, rfl, _⟩ := own_shape hown2; have hbP := grown_other R hgr2 hPa nP; have cP2 : w2.cell? ⟨R, 2, none⟩ = some (.slice (some ⟨go_, 0, none⟩) l.length cp) := (World.cell?_of_block hbP).trans cva; have fP2 : w2.frozen? ⟨R, 2, none⟩ = false := (World.frozen?_of_block hbP).trans fPa))
          all_goals (
            have hfin := hide ((unhide HJ).pushed (unhide HCV) bz hown2 hgr2 hat2 hml)
            rw [show (l ++ [b]).length = l.length + 1 by simp] at hfin
            clear hown2 hgr2 hat2 hbP cP2 fP2
            go_wp2
            go_roundw
            case rel => exact ⟨j + 1, by omega, by go_num, by rw [unhide HNX]; exact hfin⟩
            case measure => simp [intOf]; omega)
        · have : j = n := by omega
          subst this
          have g7 : decide ((j : Int) < (j : Int)) = false := by simp
          have hcl2 := copied_length oq bk j
          obtain ⟨l, hl⟩ : ∃ l, l = copied oq bk j := ⟨_, rfl⟩
          rw [← hl] at HJ hcl2 HNR HT3
          have hll : l.length ≤ 300000 := by omega
          clear hl
          obtain ⟨at_, ct, cvt, hownt⟩ := (unhide HJ).tok
          have hzt0 : wr.heap.size = wr.heap.size := rfl
          have c11 : wr.cell? ⟨R, 11, none⟩ = some (.slice at_ xq.q ct) := cvt
          have f11 : wr.frozen? ⟨R, 11, none⟩ = false := ((unhide HJ).rg.free 11)
          have HOT := hide (hownt.alloc (.cells #[.int .u8 0, .int .i64 (j : Int), .int .i64 (bk : Int)] 51))
          have HOT0 := hide hownt
          have HCT := hide cvt
          have fT := (unhide HJ).rg.free 11
          have hRt := (unhide HJ).rg.lt
          have bzt : Below wr.heap.size wr (wr.alloc (.cells #[.int .u8 0, .int .i64 (j : Int), .int .i64 (bk : Int)] 51)) := (Below.refl _ _).alloc (Nat.le_refl _) _
          have hzt : (wr.alloc (.cells #[.int .u8 0, .int .i64 (j : Int), .int .i64 (bk : Int)] 51)).heap.size = wr.heap.size + 1 := by simp
          have K0 : Hid ((wr.alloc (.cells #[.int .u8 0, .int .i64 (j : Int), .int .i64 (bk : Int)] 51)).cell? ⟨wr.heap.size, 0, none⟩ = some (.int .u8 0)) := by show _ = _; rw [← hzt0]; exact cells_new _ [.int .u8 0, .int .i64 (j : Int), .int .i64 (bk : Int)] _ 0
          have K1 : Hid ((wr.alloc (.cells #[.int .u8 0, .int .i64 (j : Int), .int .i64 (bk : Int)] 51)).cell? ⟨wr.heap.size, 1, none⟩ = some (.int .i64 (j : Int))) := by show _ = _; rw [← hzt0]; exact cells_new _ [.int .u8 0, .int .i64 (j : Int), .int .i64 (bk : Int)] _ 1
          have K2 : Hid ((wr.alloc (.cells #[.int .u8 0, .int .i64 (j : Int), .int .i64 (bk : Int)] 51)).cell? ⟨wr.heap.size, 2, none⟩ = some (.int .i64 (bk : Int))) := by show _ = _; rw [← hzt0]; exact cells_new _ [.int .u8 0, .int .i64 (j : Int), .int .i64 (bk : Int)] _ 2
          have hbst : Hid (R + 1 ≤ (wr.alloc (.cells #[.int .u8 0, .int .i64 (j : Int), .int .i64 (bk : Int)] 51)).heap.size) := by show _ ≤ _; omega
          have hqt := (unhide HJ).qs
          have hqm : xq.q ≤ 1000000 := by have := (unhide HJ).rg.small; omega
          have HZT := hide hzt
          have HZ0 := hide hzt0
          clear hownt hzt0 hzt cvt
          go_wp2_with (at_builtin; refine wpList_appT _ rfl (.tmp 188) (.tmp 192) rfl (R + 1) wr.heap.size xq.q (.slice at_ xq.q ct) xq.ts 0 (j : Int) (bk : Int) rfl rfl (unhide HOT) (unhide K0) (unhide K1) (unhide K2) hqm (unhide hbst) ?_)
          intro vt wt hownt2 hgrt hatt
          obtain ⟨at2, ct2, rfl⟩ := own_shape3 hownt2
          have hbPt : wt.heap[R]? = (wr.alloc (.cells #[.int .u8 0, .int .i64 (j : Int), .int .i64 (bk : Int)] 51)).heap[R]? := hgrt.block R (by have := unhide HZT; omega) (fun e => by have := (unhide HOT0).lt R e.symm; omega)
          have cPt : wt.cell? ⟨R, 11, none⟩ = some (.slice at_ xq.q ct) := (World.cell?_of_block hbPt).trans ((bzt.cell (p := ⟨R, 11, none⟩) hRt).trans (unhide HCT))
          have fPt : wt.frozen? ⟨R, 11, none⟩ = false := (World.frozen?_of_block hbPt).trans ((bzt.frozen (p := ⟨R, 11, none⟩) hRt).trans fT)
          have HNT : Hid (Wk W4 R g s d7 d8 (wt.setCell ⟨R, 11, none⟩ (.slice at2 (xq.q + 1) ct2)) k10 l most { xq with q := xq.q + 1, ts := xq.ts ++ [.int .u8 (0 : Int), .int .i64 (j : Int), .int .i64 (bk : Int)] }) := (unhide HJ).tokened (v' := .slice at2 (xq.q + 1) ct2) (unhide HCT) bzt hownt2 hgrt (by first | (rw [unhide HZT, unhide HZ0]; exact hatt) | (rw [unhide HZT]; exact hatt)) (by omega)
          clear hownt2 hgrt hatt hbPt HOT HOT0 HCT c11 f11 K0 K1 K2 hbst HZT HZ0
          go_wp2
          go_roundw
          case rel => exact .inl ⟨k10, l, _, _, _, HNT, HNR, HT3, (unhide HS5).tok _ _⟩
          case measure => rw [(unhide HNT).rg.msr, unhide HMW]; have := unhide HKP; have := (unhide HNT).rg.within; omega
end
end Go.Proofs.YtfeljhikeddodadGreatDoor
