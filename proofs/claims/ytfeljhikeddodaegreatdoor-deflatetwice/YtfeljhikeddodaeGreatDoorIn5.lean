/- Walks of the program's reader of packed texts: symbols up to a block's end. -/
import Derived.Test.YtfeljhikeddodaeGreatDoorIn4
import Derived.Test.YtfeljhikeddodaeGreatDoorMg16
namespace Go.Proofs.YtfeljhikeddodaeGreatDoor
open Go.RowKit Pm Cn Cd Nf

/-- A tree that lies apart from the reader. -/
structure Tre (w : World) (P p T G : Nat) (l : Nat → Nat) (N : Nat) : Prop where
  tree : ∃ sy, Tr w T G l sy ∧ sy.Perm (syms (zl l) N) ∧ sy.Pairwise (Ahead (zl l))
  le : ∀ i, i < N → l i ≤ 15
  few : N ≤ 300
  apT : T ≠ p ∧ T ≠ P ∧ T ≠ rowT w P
  apG : G ≠ p ∧ G ≠ P ∧ G ≠ rowT w P
/-- The codes of a block at block C. -/
structure CsAt (w : World) (P p C : Nat) (l1 : Nat → Nat) (N1 : Nat) (l2 : Nat → Nat) (N2 : Nat) : Prop where
  parts : ∃ T1 G1 T2 G2, w.cell? ⟨C, 0, none⟩ = some (.pointer (some ⟨T1, 0, none⟩)) ∧ w.cell? ⟨C, 1, none⟩ = some (.pointer (some ⟨T2, 0, none⟩)) ∧ Tre w P p T1 G1 l1 N1 ∧ Tre w P p T2 G2 l2 N2
  apC : C ≠ p ∧ C ≠ P ∧ C ≠ rowT w P
theorem Tre.ki {w w' : World} {P p T G N : Nat} {l : Nat → Nat} (h : Tre w P p T G l N) (hk : KI P p w w') : Tre w' P p T G l N := by
  obtain ⟨sy, h1, h2, h3⟩ := h.tree
  have a1 := h.apT
  have a2 := h.apG
  have b1 := h1.ltT
  have b2 := h1.ltG
  refine ⟨⟨sy, h1.but hk.but (fun q => ?_) (fun q => ?_), h2, h3⟩, h.le, h.few, ?_, ?_⟩
  · rcases q with q | q | q <;> omega
  · rcases q with q | q | q <;> omega
  · rcases hk.row with e | e
    · rw [e]; exact a1
    · exact ⟨a1.1, a1.2.1, by omega⟩
  · rcases hk.row with e | e
    · rw [e]; exact a2
    · exact ⟨a2.1, a2.2.1, by omega⟩
theorem CsAt.ki {w w' : World} {P p C N1 N2 : Nat} {l1 l2 : Nat → Nat} (h : CsAt w P p C l1 N1 l2 N2) (hk : KI P p w w') : CsAt w' P p C l1 N1 l2 N2 := by
  obtain ⟨T1, G1, T2, G2, c1, c2, h1, h2⟩ := h.parts
  have a := h.apC
  have hC := World.block_lt_of_cell? _ _ c1
  simp only at hC
  have hn : ¬ (C = p ∨ C = P ∨ C = rowT w P) := fun q => by rcases q with q | q | q <;> omega
  refine ⟨⟨T1, G1, T2, G2, (hk.but.cell (p := ⟨C, 0, none⟩) hC hn).trans c1, (hk.but.cell (p := ⟨C, 1, none⟩) hC hn).trans c2, h1.ki hk, h2.ki hk⟩, ?_⟩
  rcases hk.row with e | e
  · rw [e]; exact a
  · exact ⟨a.1, a.2.1, by omega⟩
/-- How far the bits at block p are read. -/
def posAt (w : World) (p : Nat) : Nat :=
  match w.cell? ⟨p, 1, none⟩ with
  | some (.int _ n) => n.toNat
  | _ => 0
theorem RAt.pos {w : World} {p k : Nat} {s : ByteArray} (h : RAt w p s k) : posAt w p = k := by unfold posAt; rw [h.count]; simp
section
variable {P p : Nat} {s : ByteArray} {k : Nat} {out : List UInt8} {most : Nat} {fx : Value} {t : TypeId} {xT xB xS : Value}

theorem sym_any (T G N : Nat) (l : Nat → Nat) (w : World) (h : IA w P p s k out most fx) (hG : Gl w t xT xB xS) (hT : Tre w P p T G l N) :
    Calls Tryz.prog 77 #[.pointer (some ⟨P, 0, none⟩), .pointer (some ⟨T, 0, none⟩)] w fun e w' =>
      (∃ i, wd (tv s) (8 * s.size) l N k = some i ∧ i < N ∧ 0 < l i ∧ e = .returned (.int .i64 (i : Nat)) ∧ IA w' P p s (k + l i) out most fx ∧ Gl w' t xT xB xS ∧ KI P p w w') ∨
      (wd (tv s) (8 * s.size) l N k = none ∧ e = .panicked (thrown t xT) ∧ Below p w w') := by
  obtain ⟨sy, h1, h2, h3⟩ := hT.tree
  have hlt := h.lt
  have hpP := h.ltp
  have h1' : Tr w T G (nat (zl l)) sy := by rw [nat_zl]; exact h1
  refine (symbol_any T G N (zl l) sy w h hG h1' hT.apT.1 hT.apG.1 h2 h3 (fun i hi => by have := hT.le i hi; unfold zl; omega) hT.few).mono ?_
  rw [nat_zl]
  rintro e w' (⟨i, hi, rfl, hI, hb, hr⟩ | ⟨hi, rfl, hb⟩)
  · exact .inl ⟨i, wd_some hT.le hi, hi.1, hi.2.1, rfl, hI, hG.bits hb h, KI.of_but hb hr⟩
  · exact .inr ⟨wd_none hi, rfl, hb.below (by omega) (fun i hi q => by omega)⟩
theorem KI.drewN (P p : Nat) (w : World) (n : Nat) : KI P p w (w.drewN n) := KI.of_but ((But.refl _ _).of_below (below_drewN (Below.refl w.heap.size w) n) (fun k h1 h2 => by omega)) (rowT_same rfl)
theorem tell_any (lc lb : Nat) (w : World) (h : IA w P p s k out most fx) (hG : Gl w t xT xB xS) (hlc : lc ≤ 100000) (hlb : lb ≤ 13) :
    Calls Tryz.prog 78 #[.pointer (some ⟨P, 0, none⟩), .int .i64 (lc : Int), .int .i64 (lb : Int), .bool true] w fun e w' =>
      (∃ x, get (tv s) (8 * s.size) k lb = some x ∧ x < 2 ^ lb ∧ e = .returned (.int .i64 ((lc + x : Nat) : Int)) ∧ IA w' P p s (k + lb) out most fx ∧ Gl w' t xT xB xS ∧ KI P p w w') ∨
      (get (tv s) (8 * s.size) k lb = none ∧ e = .panicked (thrown t xT) ∧ Below p w w') := by
  have hlt := h.lt
  have hpP := h.ltp
  refine (told_any lc lb w h hG hlc hlb).mono ?_
  rintro e w' (⟨hf, rfl, hI, hb, hr⟩ | ⟨hf, rfl, hb⟩)
  · exact .inl ⟨_, get_some hf, Nat.mod_lt _ (Nat.two_pow_pos _), rfl, hI, hG.bits hb h, KI.of_but hb hr⟩
  · exact .inr ⟨get_none hf, rfl, hb.below (by omega) (fun i hi q => by omega)⟩
set_option maxHeartbeats 4000000 in
set_option maxRecDepth 100000 in
theorem tokens_any (C : Nat) (l1 : Nat → Nat) (N1 : Nat) (l2 : Nat → Nat) (N2 : Nat) (w : World) (h : IA w P p s k out most fx) (hG : Gl w t xT xB xS) (hC : CsAt w P p C l1 N1 l2 N2) :
    Calls Tryz.prog 50 #[.pointer (some ⟨P, 0, none⟩), .pointer (some ⟨C, 0, none⟩)] w fun e w' =>
      (∃ k' out', Run (tokStep (tv s) (8 * s.size) most l1 N1 l2 N2) (k, out) (.ok k' out') ∧ e = .returned (.tuple #[]) ∧ IA w' P p s k' out' most fx ∧ KI P p w w') ∨
      (Run (tokStep (tv s) (8 * s.size) most l1 N1 l2 N2) (k, out) (.err .text) ∧ e = .panicked (thrown t xT) ∧ Below p w w') ∨
      (Run (tokStep (tv s) (8 * s.size) most l1 N1 l2 N2) (k, out) (.err .bound) ∧ e = .panicked (thrown t xB) ∧ Below p w w') := by
  obtain ⟨T1, G1, T2, G2, c1, c2, hT1, hT2⟩ := hC.parts
  have HI := hide h
  have HG := hide hG
  have HC := hide hC
  have hlt := h.lt
  have hpP := h.ltp
  have HS := hide (sym_any T1 G1 N1 l1 w h hG hT1)
  have hf1 := hT1.few
  clear h hG hC
  have HT1 := hide hT1
  have HT2 := hide hT2
  clear hT1 hT2
  obtain ⟨f, hf⟩ : ∃ f, f = tokStep (tv s) (8 * s.size) most l1 N1 l2 N2 := ⟨_, rfl⟩
  rw [← hf]
  have Hf := hide hf
  clear hf
  go_enter Tryz.func50, Tryz.ntmps50
  go_wp2_with fail
  refine (unhide HS).mono ?_
  rintro e w1 (⟨i, hi, hiN, hpos, rfl, hI1, hG1, hk1⟩ | ⟨hi, rfl, hb⟩)
  rotate_left
  · have HW := hide hi
    clear hi HS
    go_wp2
    refine ⟨rfl, .inr (.inl ⟨.done ?_, rfl, hb⟩)⟩
    rw [unhide Hf]; unfold tokStep; rw [unhide HW]
  have HST : Hid (∃ kN : Nat, wd (tv s) (8 * s.size) l1 N1 kN = some i ∧ IA w1 P p s (kN + l1 i) out most fx ∧ ∀ r, Run f (kN, out) r → Run f (k, out) r) := ⟨k, hi, hI1, fun r h => h⟩
  have HG1 := hide hG1
  clear hi hI1 hG1 HS hpos
  have HC0 : Hid (∀ wq, KI P p w wq → wq.cell? ⟨C, 0, none⟩ = some (.pointer (some ⟨T1, 0, none⟩)) ∧ wq.cell? ⟨C, 1, none⟩ = some (.pointer (some ⟨T2, 0, none⟩))) := fun wq hk => by
    have a := (unhide HC).apC
    have hCl := World.block_lt_of_cell? _ _ c1
    simp only at hCl
    have hn : ¬ (C = p ∨ C = P ∨ C = rowT w P) := fun q => by rcases q with q | q | q <;> omega
    exact ⟨(hk.but.cell (p := ⟨C, 0, none⟩) hCl hn).trans c1, (hk.but.cell (p := ⟨C, 1, none⟩) hCl hn).trans c2⟩
  have HNEXT : Hid (∀ (wq : World) (kq : Nat) (oq : List UInt8), IA wq P p s kq oq most fx → Gl wq t xT xB xS → KI P p w wq → (∀ r, Run f (kq, oq) r → Run f (k, out) r) →
      Calls Tryz.prog 77 #[.pointer (some ⟨P, 0, none⟩), .pointer (some ⟨T1, 0, none⟩)] wq fun e w' =>
        (∃ i, e = .returned (.int .i64 (i : Nat)) ∧ i < N1 ∧ (∃ kN, wd (tv s) (8 * s.size) l1 N1 kN = some i ∧ IA w' P p s (kN + l1 i) oq most fx ∧ ∀ r, Run f (kN, oq) r → Run f (k, out) r) ∧ Gl w' t xT xB xS ∧ KI P p w w' ∧ kq < posAt w' p ∧ posAt w' p ≤ 8 * s.size) ∨
        (Run f (k, out) (.err .text) ∧ e = .panicked (thrown t xT) ∧ Below p w w')) := fun wq kq oq hIq hGq hkq hrun => by
    refine (sym_any T1 G1 N1 l1 wq hIq hGq ((unhide HT1).ki hkq)).mono ?_
    rintro e w' (⟨i, hi, hiN, hpos, rfl, hI', hG', hk'⟩ | ⟨hi, rfl, hb⟩)
    · exact .inl ⟨i, rfl, hiN, ⟨kq, hi, hI', hrun⟩, hG', hkq.trans hk', by rw [hI'.bits.pos]; omega, by rw [hI'.bits.pos]; exact hI'.bits.within⟩
    · refine .inr ⟨hrun _ (.done ?_), rfl, (hkq.below (unhide HI)).trans hb⟩
      rw [unhide Hf]; unfold tokStep; simp only [hi]
  clear c1 c2
  go_wp2
  go_loopw [4] (fun sv wr => ∃ (i : Nat) (o2 : List UInt8), sv = .int .i64 i ∧ i < N1 ∧ Hid (∃ kN : Nat, wd (tv s) (8 * s.size) l1 N1 kN = some i ∧ IA wr P p s (kN + l1 i) o2 most fx ∧ ∀ r, Run f (kN, o2) r → Run f (k, out) r) ∧ Hid (Gl wr t xT xB xS) ∧ KI P p w wr) (fun _ wr => 8 * s.size - posAt wr p)
  case atStart => exact ⟨i, out, rfl, hiN, HST, HG1, hk1⟩
  case round =>
    clear HST HG1 hk1 hiN
    obtain ⟨i, o2, rfl, hiN, HST, HGr, hKr⟩ := hrel
    obtain ⟨cc0, cc1⟩ := unhide HC0 _ hKr
    obtain ⟨kN, hwd, hIr, hrun⟩ := unhide HST
    have hpw := hIr.bits.pos
    have HP := hide hpw
    have hol := hIr.small
    have hlo := hIr.low
    have hbK := hKr.below (unhide HI)
    have HWD := hide hwd
    have HRUN := hide hrun
    have HIr := hide hIr
    have HSTEP : Hid (∀ a, f a = tokStep (tv s) (8 * s.size) most l1 N1 l2 N2 a) := fun a => by rw [unhide Hf]
    have hi300 : i < 300 := by omega
    clear hwd hrun hpw HST
    by_cases h256 : i = 256
    · subst h256
      have HFIN : Hid (Run f (k, out) (.ok (kN + l1 256) o2)) := unhide HRUN _ (.done (by rw [unhide HSTEP]; unfold tokStep; simp only [unhide HWD]; rfl))
      clear hIr
      go_wp2
      go_end0
      exact .inl ⟨_, _, unhide HFIN, rfl, unhide HIr, hKr⟩
    have g1 : ((i : Int) != 256) = true := by simp; omega
    have g1b : ((i : Int) == 256) = false := by simp; omega
    by_cases hlt2 : i < 256
    · have g2 : decide ((i : Int) < 256) = true := by simp; omega
      have HRM := hide (room_any 1 wr hIr (unhide HGr))
      clear hIr
      go_wp2_with fail
      refine (unhide HRM).mono ?_
      rintro e w2 (⟨hroom, rfl, hb2⟩ | ⟨hroom, rfl, hb2⟩)
      rotate_left
      · have hbw := hbK.trans (hb2.mono (show p ≤ wr.heap.size by have := hKr.but.size; omega))
        have HFIN : Hid (Run f (k, out) (.err .bound)) := unhide HRUN _ (.done (by rw [unhide HSTEP]; unfold tokStep; simp only [unhide HWD]; rw [if_pos hlt2, if_neg (by omega)]))
        clear HRM
        go_wp2
        exact ⟨rfl, .inr (.inr ⟨unhide HFIN, rfl, hbw⟩)⟩
      obtain ⟨hI2, hr2⟩ := (unhide HIr).still hb2
      have hk2 : KI P p wr w2 := KI.of_but ((But.refl _ _).of_below hb2 (fun k h1 h2 => by omega)) hr2
      have hG2 := (unhide HGr).ki hk2 (unhide HIr)
      obtain ⟨a, cp, cv, hown, _⟩ := hI2.slice
      obtain ⟨b, hbb⟩ : ∃ b, b = UInt8.ofNat i := ⟨_, rfl⟩
      have hb8 : IntKind.u8.wrap (i : Int) = (b.toNat : Int) := by rw [hbb, UInt8.toNat_ofNat', IntKind.wrap_u8]; omega
      have HNR : Hid (∀ r, Run f (kN + l1 i, o2 ++ [b]) r → Run f (k, out) r) := fun r hr => unhide HRUN r (.more (s' := (kN + l1 i, o2 ++ [b])) (by rw [unhide HSTEP]; unfold tokStep; simp only [unhide HWD]; rw [if_pos hlt2, if_pos (by omega), hbb]) hr)
      have HI2 := hide hI2
      have HG2 := hide hG2
      have HO := hide hown
      have HCV := hide cv
      have hP2 := hI2.lt
      have fP := hI2.free1
      have hl4 : o2.length + 1 ≤ most := by omega
      have hl3 : o2.length ≤ 300000 := by omega
      have hb8' : (i : Int) % 256 = (b.toNat : Int) := by rw [hbb, UInt8.toNat_ofNat']; omega
      have bz : Below w2.heap.size w2 (w2.alloc (.cells #[.int .u8 (b.toNat : Int)] 5)) := (Below.refl _ _).alloc (Nat.le_refl _) _
      clear hI2 hG2 hown HRM hbb hroom
      go_wp2_with (at_builtin; refine wpList_appB _ rfl (.tmp 28) (.tmp 31) rfl (P + 1) w2.heap.size (.slice a o2.length cp) o2 b rfl rfl ((unhide HO).alloc _) (alloc_new w2 _ _) (by omega) (by simp; omega) ?_)
      intro v3 w3 hown3 hgr3 hat3
      obtain ⟨a3, c3, rfl, _⟩ := own_shape hown3
      have hbP : w3.heap[P]? = (w2.alloc (.cells #[.int .u8 (b.toNat : Int)] 5)).heap[P]? := hgr3.block P (by simp; omega) (fun e => by have := (unhide HO).lt P e.symm; omega)
      have cP3 : w3.cell? ⟨P, 1, none⟩ = some (.slice a o2.length cp) := (World.cell?_of_block hbP).trans ((bz.cell (p := ⟨P, 1, none⟩) hP2).trans (unhide HCV))
      have fP3 : w3.frozen? ⟨P, 1, none⟩ = false := (World.frozen?_of_block hbP).trans ((bz.frozen (p := ⟨P, 1, none⟩) hP2).trans fP)
      have hlen1 : (o2 ++ [b]).length = o2.length + 1 := by simp
      have hza : (w2.alloc (.cells #[.int .u8 (b.toNat : Int)] 5)).heap.size = w2.heap.size + 1 := by simp
      have hfin := (unhide HI2).pushed (b := b) (v' := .slice a3 (o2.length + 1) c3) (unhide HCV) bz (by rw [hlen1]; exact hown3) hgr3 (by rw [hza]; exact hat3) hl4
      have hkf := (hKr.trans hk2).trans hfin.2
      have hGf := (unhide HG2).ki hfin.2 (unhide HI2)
      obtain ⟨cf0, cf1⟩ := unhide HC0 _ hkf
      have HNX := hide (unhide HNEXT _ _ _ hfin.1 hGf hkf (unhide HNR))
      have Hkf := hide hkf
      clear hown3 hgr3 hat3 hbP hfin hGf hkf hlen1 hza
      go_wp2_with fail
      refine (unhide HNX).mono ?_
      rintro e w4 (⟨i4, rfl, hi4, hst4, hG4, hk4, hp4, hq4⟩ | ⟨hr4, rfl, hb4⟩)
      · have HS4 := hide hst4
        have HG4 := hide hG4
        have hme : Hid (8 * s.size - posAt w4 p < 8 * s.size - posAt wr p) := by show _ < _; rw [unhide HP]; omega
        clear hst4 hG4 HNX hp4 hq4
        go_wp2
        go_roundw
        case rel => exact ⟨i4, _, rfl, hi4, HS4, HG4, hk4⟩
        case measure => exact unhide hme
      · have HR4 := hide hr4
        clear hr4 HNX
        go_wp2
        exact ⟨rfl, .inr (.inl ⟨unhide HR4, rfl, hb4⟩)⟩
    · have g2 : decide ((i : Int) < 256) = false := by simp; omega
      obtain ⟨c, hc⟩ : ∃ c, c + 257 = i := ⟨i - 257, by omega⟩
      have zc : (i : Int) - 256 - 1 = (c : Int) := by omega
      have hw1 : IntKind.i64.wrap ((i : Int) - 256) = (i : Int) - 256 := by rw [IntKind.wrap_i64]; omega
      have HTS : Hid (∀ o, f (kN, o) = match get (tv s) (8 * s.size) (kN + l1 i) (lenBits c) with
          | none => .done (.err .text)
          | some x => if 286 ≤ i then .done (.err .text) else
            match wd (tv s) (8 * s.size) l2 N2 (kN + l1 i + lenBits c) with
            | none => .done (.err .text)
            | some d => if 30 ≤ d then .done (.err .text) else
              match get (tv s) (8 * s.size) (kN + l1 i + lenBits c + l2 d) (distBits d) with
              | none => .done (.err .text)
              | some y => if o.length < dists.getD d 0 + y then .done (.err .text) else if most < o.length + (lens.getD c 0 + x) then .done (.err .bound) else .more (kN + l1 i + lenBits c + l2 d + distBits d, copied o (dists.getD d 0 + y) (lens.getD c 0 + x))) := fun o => by
        rw [unhide HSTEP]
        unfold tokStep
        simp only [unhide HWD]
        rw [if_neg hlt2, if_neg h256, show i - 257 = c by omega]
        by_cases h286 : 286 ≤ i
        · rw [if_pos h286]
          split
          · rfl
          · rw [if_pos h286]
        · rw [if_neg h286]
          cases get (tv s) (8 * s.size) (kN + l1 i) (lenBits c) with
          | none => rfl
          | some x => simp only [if_neg h286]; rfl
      have Hc := hide hc
      by_cases h286 : 286 ≤ i
      · have HB := hide (blockLength_no i wr h286 (by omega))
        have HFIN : Hid (Run f (k, out) (.err .text)) := unhide HRUN _ (.done (by
          rw [unhide HTS]
          cases get (tv s) (8 * s.size) (kN + l1 i) (lenBits c) with
          | none => rfl
          | some x => simp only; rw [if_pos h286]))
        clear hIr hc zc hw1
        go_wp2_with fail
        refine (unhide HB).mono ?_; rintro e w2 ⟨rfl, rfl⟩
        go_wp2_with fail
        refine (told_no 0 0 _ (unhide HGr)).mono ?_; rintro e w3 ⟨rfl, rfl⟩
        go_wp2
        exact ⟨rfl, .inr (.inl ⟨unhide HFIN, rfl, hbK⟩)⟩
      have hc29 : c < 29 := by omega
      have HB := hide (blockLength_yes i c wr (unhide HGr).tabs hc29 (by omega))
      have hll := lens_le c hc29
      have hlbl := lenBits_le c hc29
      have h32 : 2 ^ lenBits c ≤ 32 := Nat.pow_le_pow_right (n := 2) (j := 5) (by omega) hlbl
      have HLN : Hid (∀ nn, _) := fun nn => tell_any (lens.getD c 0) (lenBits c) (wr.drewN nn) (hIr.still (below_drewN (Below.refl _ _) nn)).1 ((unhide HGr).ki (KI.drewN P p wr nn) hIr) (by omega) (by omega)
      clear hIr hc zc hw1
      obtain ⟨lc, hlc⟩ : ∃ q, q = lens.getD c 0 := ⟨_, rfl⟩
      obtain ⟨lb, hlb⟩ : ∃ q, q = lenBits c := ⟨_, rfl⟩
      rw [← hlc] at HB HLN hll
      rw [← hlb] at HB HLN h32
      have HLC := hide hlc
      have HLB := hide hlb
      clear hlc hlb hlbl
      go_wp2_with fail
      refine (unhide HB).mono ?_; rintro e w1 ⟨rfl, nn, rfl⟩
      clear HB
      go_wp2_with fail
      refine (unhide HLN nn).mono ?_
      rintro e w2 (⟨x, hgx, hxl, rfl, hI2, hG2, hk2⟩ | ⟨hgx, rfl, hb2⟩)
      rotate_left
      · have hbw := hbK.trans ((below_drewN (Below.refl _ _) nn).trans hb2)
        have HFIN : Hid (Run f (k, out) (.err .text)) := unhide HRUN _ (.done (by rw [unhide HTS, ← unhide HLB, hgx]))
        clear HLN hgx
        go_wp2
        exact ⟨rfl, .inr (.inl ⟨unhide HFIN, rfl, hbw⟩)⟩
      have hk2w := (hKr.trans (KI.drewN P p wr nn)).trans hk2
      obtain ⟨cd0, cd1⟩ := unhide HC0 _ hk2w
      have HDS := hide (sym_any T2 G2 N2 l2 w2 hI2 hG2 ((unhide HT2).ki hk2w))
      have hf2 := (unhide HT2).few
      have HI2 := hide hI2
      have HG2 := hide hG2
      have HGX : Hid (get (tv s) (8 * s.size) (kN + l1 i) (lenBits c) = some x) := by show _ = _; rw [← unhide HLB]; exact hgx
      clear HLN hI2 hG2 hgx
      obtain ⟨n, hn⟩ : ∃ n, n = lc + x := ⟨_, rfl⟩
      rw [← hn]
      have hnl : n ≤ 300 := by omega
      have hn3 : 3 ≤ n := by omega
      have HNN : Hid (n = lens.getD c 0 + x) := by show _ = _; rw [hn, unhide HLC]
      clear hn hxl
      go_wp2_with fail
      refine (unhide HDS).mono ?_
      rintro e w3 (⟨d, hwd2, hdN, hdpos, rfl, hI3, hG3, hk3⟩ | ⟨hgy, rfl, hb3⟩)
      rotate_left
      · have hbw := (hk2w.below (unhide HI)).trans hb3
        have HFIN : Hid (Run f (k, out) (.err .text)) := unhide HRUN _ (.done (by
          rw [unhide HTS, unhide HGX]
          simp only
          rw [if_neg h286, ← unhide HLB, hgy]))
        clear HDS hgy
        go_wp2
        exact ⟨rfl, .inr (.inl ⟨unhide HFIN, rfl, hbw⟩)⟩
      have hk3a := hk2w.trans hk3
      have HWD2 := hide hwd2
      clear hwd2 hdpos HDS
      by_cases hd30 : 30 ≤ d
      · have HB := hide (blockDistance_no d w3 hd30 (by omega))
        have HFIN : Hid (Run f (k, out) (.err .text)) := unhide HRUN _ (.done (by
          rw [unhide HTS, unhide HGX]
          simp only
          rw [if_neg h286, ← unhide HLB, unhide HWD2]; simp only; rw [if_pos hd30]))
        have hbw := hk3a.below (unhide HI)
        have HG3 := hide hG3
        clear hI3 hG3
        go_wp2_with fail
        refine (unhide HB).mono ?_; rintro e w4 ⟨rfl, rfl⟩
        go_wp2_with fail
        refine (told_no 0 0 _ (unhide HG3)).mono ?_; rintro e w5 ⟨rfl, rfl⟩
        go_wp2
        exact ⟨rfl, .inr (.inl ⟨unhide HFIN, rfl, hbw⟩)⟩
      have hd29 : d < 30 := by omega
      have HB := hide (blockDistance_yes d w3 hG3.tabs hd29)
      have hdl := dists_le d hd29
      have hdbl := distBits_le d hd29
      have h13 : 2 ^ distBits d ≤ 8192 := Nat.pow_le_pow_right (n := 2) (j := 13) (by omega) hdbl
      have HLN : Hid (∀ nn, _) := fun nn => tell_any (dists.getD d 0) (distBits d) (w3.drewN nn) (hI3.still (below_drewN (Below.refl _ _) nn)).1 (hG3.ki (KI.drewN P p w3 nn) hI3) (by omega) (by omega)
      clear hI3 hG3
      obtain ⟨ld, hld⟩ : ∃ q, q = dists.getD d 0 := ⟨_, rfl⟩
      obtain ⟨ldb, hldb⟩ : ∃ q, q = distBits d := ⟨_, rfl⟩
      rw [← hld] at HB HLN hdl
      rw [← hldb] at HB HLN h13
      have HLD := hide hld
      have HLDB := hide hldb
      clear hld hldb hdbl
      go_wp2_with fail
      refine (unhide HB).mono ?_; rintro e w4 ⟨rfl, nn2, rfl⟩
      clear HB
      go_wp2_with fail
      refine (unhide HLN nn2).mono ?_
      rintro e w5 (⟨y, hgy, hyl, rfl, hI3, hG3, hk3b⟩ | ⟨hgy, rfl, hb2⟩)
      rotate_left
      · have hbw := (hk3a.below (unhide HI)).trans ((below_drewN (Below.refl _ _) nn2).trans hb2)
        have HFIN : Hid (Run f (k, out) (.err .text)) := unhide HRUN _ (.done (by
          rw [unhide HTS, unhide HGX]
          simp only
          rw [if_neg h286, ← unhide HLB, unhide HWD2]; simp only; rw [if_neg hd30, ← unhide HLDB, hgy]))
        clear HLN hgy
        go_wp2
        exact ⟨rfl, .inr (.inl ⟨unhide HFIN, rfl, hbw⟩)⟩
      have hk3w := (hk3a.trans (KI.drewN P p w3 nn2)).trans hk3b
      obtain ⟨bk, hbk⟩ : ∃ n, n = ld + y := ⟨_, rfl⟩
      rw [← hbk]
      have hI3' : IA w5 P p s (kN + l1 i + lenBits c + l2 d + distBits d) o2 most fx := by rw [← unhide HLB, ← unhide HLDB]; exact hI3
      have HMT := hide (match_any n bk w5 hI3' hG3 (by omega) (by omega) (by omega))
      have HTS2 : Hid (f (kN, o2) = if o2.length < bk then .done (.err .text) else if most < o2.length + n then .done (.err .bound) else .more (kN + l1 i + lenBits c + l2 d + distBits d, copied o2 bk n)) := by
        show _ = _
        rw [unhide HTS, unhide HGX]
        simp only
        rw [if_neg h286, ← unhide HLB, unhide HWD2]
        simp only
        rw [if_neg (by omega), ← unhide HLDB, hgy]
        simp only
        rw [← unhide HLD, ← hbk, ← unhide HNN]
      have HI3 := hide hI3'
      have HG3 := hide hG3
      clear HLN hI3 hI3' hG3 HWD2 hgy hbk HTS HGX hyl hdl
      go_wp2_with fail
      refine (unhide HMT).mono ?_
      rintro e w4 (⟨hb1, hb2, rfl, hI4, hk4⟩ | ⟨hb1, rfl, hb4⟩ | ⟨hb1, hb2, rfl, hb4⟩)
      rotate_left
      · have hbw := (hk3w.below (unhide HI)).trans hb4
        have HFIN : Hid (Run f (k, out) (.err .text)) := unhide HRUN _ (.done (by rw [unhide HTS2, if_pos hb1]))
        clear HMT hb1
        go_wp2
        exact ⟨rfl, .inr (.inl ⟨unhide HFIN, rfl, hbw⟩)⟩
      · have hbw := (hk3w.below (unhide HI)).trans hb4
        have HFIN : Hid (Run f (k, out) (.err .bound)) := unhide HRUN _ (.done (by rw [unhide HTS2, if_neg (by omega), if_pos hb2]))
        clear HMT hb1 hb2
        go_wp2
        exact ⟨rfl, .inr (.inr ⟨unhide HFIN, rfl, hbw⟩)⟩
      have hk4w := hk3w.trans hk4
      have hG4 := (unhide HG3).ki hk4 (unhide HI3)
      obtain ⟨ce0, ce1⟩ := unhide HC0 _ hk4w
      have HNX := hide (unhide HNEXT _ _ _ hI4 hG4 hk4w (fun r hr => unhide HRUN r (.more (s' := (kN + l1 i + lenBits c + l2 d + distBits d, copied o2 bk n)) (by rw [unhide HTS2, if_neg (by omega), if_neg (by omega)]) hr)))
      clear hI4 hG4 HMT hb1 hb2
      go_wp2_with fail
      refine (unhide HNX).mono ?_
      rintro e w5 (⟨i4, rfl, hi4, hst4, hG4, hk5, hp4, hq4⟩ | ⟨hr4, rfl, hb5⟩)
      · have HS4 := hide hst4
        have HG4 := hide hG4
        have hme : Hid (8 * s.size - posAt w5 p < 8 * s.size - posAt wr p) := by show _ < _; rw [unhide HP]; omega
        clear hst4 hG4 HNX hp4 hq4
        go_wp2
        go_roundw
        case rel => exact ⟨i4, _, rfl, hi4, HS4, HG4, hk5⟩
        case measure => exact unhide hme
      · have HR4 := hide hr4
        clear hr4 HNX
        go_wp2
        exact ⟨rfl, .inr (.inl ⟨unhide HR4, rfl, hb5⟩)⟩
end
end Go.Proofs.YtfeljhikeddodaeGreatDoor
